/-
  THE WALK OF emendlaw06.LinesRise: at every text and two Pos below 2^16 it returns true; no memory that was there turns. No condition.
-/
import Derived.Test.YtlgjlfljohapfaaAhead
import Derived.Deep.DeepCutAuto
import Derived.Deep.RegionHeld3
namespace Go.Proofs.Ytlgjlfljohapfaa
open Go.RowKit

theorem rise_c {w wc W : World} {p q X Y : Nat} {T : TypeId} {P Q : Obj} {x0 x1 y0 y1 lx cx ly cy : Value} (hB : Below w.heap.size w wc) (hb : Below wc.heap.size wc W) (hp : wc.heap[p]? = some P) (hq : wc.heap[q]? = some Q) (hX : W.heap[X]? = some (.cells #[x0, x1] T (0, 0))) (hY : W.heap[Y]? = some (.cells #[y0, y1] T (0, 0)))
    (hpw : p < wc.heap.size) (hqw : q < wc.heap.size) (hne : X ≠ Y) (hX1 : wc.heap.size ≤ X) (hY1 : wc.heap.size ≤ Y) :
    Hid (((((W.setCell ⟨X, 0, none⟩ lx).setCell ⟨X, 1, none⟩ cx).setCell ⟨Y, 0, none⟩ ly).setCell ⟨Y, 1, none⟩ cy).heap[X]? = some (.cells #[lx, cx] T (0, 0))) ∧ Hid (((((W.setCell ⟨X, 0, none⟩ lx).setCell ⟨X, 1, none⟩ cx).setCell ⟨Y, 0, none⟩ ly).setCell ⟨Y, 1, none⟩ cy).heap[Y]? = some (.cells #[ly, cy] T (0, 0))) ∧
    Hid (((((W.setCell ⟨X, 0, none⟩ lx).setCell ⟨X, 1, none⟩ cx).setCell ⟨Y, 0, none⟩ ly).setCell ⟨Y, 1, none⟩ cy).heap[p]? = some P) ∧ Hid (((((W.setCell ⟨X, 0, none⟩ lx).setCell ⟨X, 1, none⟩ cx).setCell ⟨Y, 0, none⟩ ly).setCell ⟨Y, 1, none⟩ cy).heap[q]? = some Q) ∧
    Hid (Below w.heap.size w ((((W.setCell ⟨X, 0, none⟩ lx).setCell ⟨X, 1, none⟩ cx).setCell ⟨Y, 0, none⟩ ly).setCell ⟨Y, 1, none⟩ cy)) := by
  have h1 := setCell2_heap (x := lx) (y := cx) hX
  have hY2 : ((W.setCell ⟨X, 0, none⟩ lx).setCell ⟨X, 1, none⟩ cx).heap[Y]? = some (.cells #[y0, y1] T (0, 0)) := by
    rw [heap_setCell_other _ _ _ _ (Ne.symm hne), heap_setCell_other _ _ _ _ (Ne.symm hne)]; exact hY
  have far : ∀ k o, k ≠ X → k ≠ Y → W.heap[k]? = some o → ((((W.setCell ⟨X, 0, none⟩ lx).setCell ⟨X, 1, none⟩ cx).setCell ⟨Y, 0, none⟩ ly).setCell ⟨Y, 1, none⟩ cy).heap[k]? = some o := fun k o n1 n2 h => by
    rw [heap_setCell_other _ _ _ _ n2, heap_setCell_other _ _ _ _ n2, heap_setCell_other _ _ _ _ n1, heap_setCell_other _ _ _ _ n1]; exact h
  have hs := hB.size
  refine ⟨Lib.hid ?_, Lib.hid (setCell2_heap hY2), Lib.hid (far _ _ (by omega) (by omega) (heap_keep hb hp)), Lib.hid (far _ _ (by omega) (by omega) (heap_keep hb hq)), Lib.hid ?_⟩
  · rw [heap_setCell_other _ _ _ _ hne, heap_setCell_other _ _ _ _ hne]; exact h1
  · exact ((((hB.trans (hb.mono hB.size)).setCell (p := ⟨X, 0, none⟩) (show w.heap.size ≤ X by omega) _).setCell (p := ⟨X, 1, none⟩) (show w.heap.size ≤ X by omega) _).setCell (p := ⟨Y, 0, none⟩) (show w.heap.size ≤ Y by omega) _).setCell (p := ⟨Y, 1, none⟩) (show w.heap.size ≤ Y by omega) _
theorem rise_d {w wc W : World} {p q X Y : Nat} {T : TypeId} {P Q : Obj} {y0 y1 lx cx ly cy : Value} (hB : Below w.heap.size w wc) (hb : Below wc.heap.size wc W) (hp : wc.heap[p]? = some P) (hq : wc.heap[q]? = some Q) (hX : W.heap[X]? = some (.cells #[lx, cx] T (0, 0))) (hY : W.heap[Y]? = some (.cells #[y0, y1] T (0, 0)))
    (hpw : p < wc.heap.size) (hqw : q < wc.heap.size) (hne : X ≠ Y) (hY1 : wc.heap.size ≤ Y) :
    Hid (((W.setCell ⟨Y, 0, none⟩ ly).setCell ⟨Y, 1, none⟩ cy).heap[X]? = some (.cells #[lx, cx] T (0, 0))) ∧ Hid (((W.setCell ⟨Y, 0, none⟩ ly).setCell ⟨Y, 1, none⟩ cy).heap[Y]? = some (.cells #[ly, cy] T (0, 0))) ∧
    Hid (((W.setCell ⟨Y, 0, none⟩ ly).setCell ⟨Y, 1, none⟩ cy).heap[p]? = some P) ∧ Hid (((W.setCell ⟨Y, 0, none⟩ ly).setCell ⟨Y, 1, none⟩ cy).heap[q]? = some Q) ∧ Hid (Below w.heap.size w ((W.setCell ⟨Y, 0, none⟩ ly).setCell ⟨Y, 1, none⟩ cy)) := by
  have far : ∀ k o, k ≠ Y → W.heap[k]? = some o → ((W.setCell ⟨Y, 0, none⟩ ly).setCell ⟨Y, 1, none⟩ cy).heap[k]? = some o := fun k o n2 h => by
    rw [heap_setCell_other _ _ _ _ n2, heap_setCell_other _ _ _ _ n2]; exact h
  have hs := hB.size
  exact ⟨Lib.hid (far _ _ hne hX), Lib.hid (setCell2_heap hY), Lib.hid (far _ _ (by omega) (heap_keep hb hp)), Lib.hid (far _ _ (by omega) (heap_keep hb hq)),
    Lib.hid (((hB.trans (hb.mono hB.size)).setCell (p := ⟨Y, 0, none⟩) (show w.heap.size ≤ Y by omega) _).setCell (p := ⟨Y, 1, none⟩) (show w.heap.size ≤ Y by omega) _)⟩
theorem rise_a {w wc W : World} {p q : Nat} {T : TypeId} {P Q : Obj} {X Y : Array Value} (hB : Below w.heap.size w wc) (hb : Below wc.heap.size wc W) (hp : wc.heap[p]? = some P) (hq : wc.heap[q]? = some Q) :
    Hid (((W.alloc (.cells X T)).alloc (.cells Y T)).heap[W.heap.size]? = some (.cells X T (0, 0))) ∧ Hid (((W.alloc (.cells X T)).alloc (.cells Y T)).heap[W.heap.size + 1]? = some (.cells Y T (0, 0))) ∧
    Hid (((W.alloc (.cells X T)).alloc (.cells Y T)).heap[p]? = some P) ∧ Hid (((W.alloc (.cells X T)).alloc (.cells Y T)).heap[q]? = some Q) ∧ Hid (Below w.heap.size w ((W.alloc (.cells X T)).alloc (.cells Y T))) := by
  have h := alloc_top (W.alloc (.cells X T)) Y T
  rw [World.size_alloc] at h
  have kk := (alloc_below W (.cells X T)).trans ((alloc_below (W.alloc (.cells X T)) (.cells Y T)).mono (alloc_below W (.cells X T)).size)
  have kb := hb.trans (kk.mono hb.size)
  exact ⟨Lib.hid (heap_keep (alloc_below (W.alloc (.cells X T)) (.cells Y T)) (alloc_top W X T)), Lib.hid h, Lib.hid (heap_keep kb hp), Lib.hid (heap_keep kb hq), Lib.hid (hB.trans (kb.mono hB.size))⟩
theorem rise_b {w wc W : World} {p q : Nat} {T : TypeId} {P Q : Obj} {X Y : Array Value} (hB : Below w.heap.size w wc) (hb : Below wc.heap.size wc W) (hp : wc.heap[p]? = some P) (hq : wc.heap[q]? = some Q) :
    Hid (((W.alloc (.cells Y T)).alloc (.cells X T)).heap[W.heap.size + 1]? = some (.cells X T (0, 0))) ∧ Hid (((W.alloc (.cells Y T)).alloc (.cells X T)).heap[W.heap.size]? = some (.cells Y T (0, 0))) ∧
    Hid (((W.alloc (.cells Y T)).alloc (.cells X T)).heap[p]? = some P) ∧ Hid (((W.alloc (.cells Y T)).alloc (.cells X T)).heap[q]? = some Q) ∧ Hid (Below w.heap.size w ((W.alloc (.cells Y T)).alloc (.cells X T))) := by
  obtain ⟨h1, h2, h3⟩ := rise_a (X := Y) (Y := X) (T := T) hB hb hp hq
  exact ⟨h2, h1, h3⟩
theorem s_drew {W : World} {p q : Addr} {x y : Value} (h : W.cell? p = some x ∧ W.cell? q = some y) : W.drew.cell? p = some x ∧ W.drew.cell? q = some y := h
theorem s_keep {W W' : World} {p q : Addr} {x y : Value} (h : W.cell? p = some x ∧ W.cell? q = some y) (k : Below W.heap.size W W') : W'.cell? p = some x ∧ W'.cell? q = some y := ⟨cell_keep k h.1, cell_keep k h.2⟩
theorem s_alloc {W : World} {p q : Addr} {x y : Value} (h : W.cell? p = some x ∧ W.cell? q = some y) (o : Obj) : (W.alloc o).cell? p = some x ∧ (W.alloc o).cell? q = some y := s_keep h (alloc_below W o)
theorem s_set {W : World} {R p q : Nat} {x y a b : Value} (h : W.cell? ⟨p, 0, none⟩ = some x ∧ W.cell? ⟨q, 0, none⟩ = some y) (hp : R ≠ p) (hq : R ≠ q) : ((W.setCell ⟨R, 0, none⟩ a).setCell ⟨R, 1, none⟩ b).cell? ⟨p, 0, none⟩ = some x ∧ ((W.setCell ⟨R, 0, none⟩ a).setCell ⟨R, 1, none⟩ b).cell? ⟨q, 0, none⟩ = some y := by
  rw [World.cell?_setCell_far _ _ _ _ hp, World.cell?_setCell_far _ _ _ _ hp, World.cell?_setCell_far _ _ _ _ hq, World.cell?_setCell_far _ _ _ _ hq]
  exact h
set_option maxRecDepth 100000 in
set_option maxHeartbeats 100000000 in
theorem linesRise_walk (s : ByteArray) (a0 a1 b0 b1 : Int) (h0 : 0 ≤ a0) (g0 : a0 ≤ 65535) (h1 : 0 ≤ a1) (g1 : a1 ≤ 65535) (h2 : 0 ≤ b0) (g2 : b0 ≤ 65535) (h3 : 0 ≤ b1) (g3 : b1 ≤ 65535) (w : World) : Calls Try.prog 11 #[.string s, .agg #[.int .u16 a0, .int .u16 a1], .agg #[.int .u16 b0, .int .u16 b1]] w fun e w' => e = .returned (.bool true) ∧ Below w.heap.size w w' := by
  obtain ⟨i, rfl⟩ := Int.eq_ofNat_of_zero_le h0
  obtain ⟨u, rfl⟩ := Int.eq_ofNat_of_zero_le h1
  obtain ⟨k, rfl⟩ := Int.eq_ofNat_of_zero_le h2
  obtain ⟨v, rfl⟩ := Int.eq_ofNat_of_zero_le h3
  by_cases hs : 3000 < s.size
  · go_enter Try.func11, Try.ntmps11
    have B1 := Lib.hid (alloc_below (w) (.cells #[.int .u16 (i : Int), .int .u16 (u : Int)] 76))
    have Ka1 := alloc_top (w) #[.int .u16 (i : Int), .int .u16 (u : Int)] 76
    replace Ka1 := Lib.hid Ka1
    have B2 := Lib.hid (B1.out.trans ((alloc_below ((w).alloc (.cells #[.int .u16 (i : Int), .int .u16 (u : Int)] 76)) (.cells #[.int .u16 (k : Int), .int .u16 (v : Int)] 76)).mono B1.out.size))
    clear B1
    have Ka2 := Lib.hid (heap_keep (alloc_below ((w).alloc (.cells #[.int .u16 (i : Int), .int .u16 (u : Int)] 76)) (.cells #[.int .u16 (k : Int), .int .u16 (v : Int)] 76)) Ka1.out)
    clear Ka1
    have Kb2 := alloc_top ((w).alloc (.cells #[.int .u16 (i : Int), .int .u16 (u : Int)] 76)) #[.int .u16 (k : Int), .int .u16 (v : Int)] 76
    simp only [World.size_alloc] at Kb2
    replace Kb2 := Lib.hid Kb2
    have ca0 := cell_at (i := 0) Ka2.out
    have ca1 := cell_at (i := 1) Ka2.out
    have cb0 := cell_at (i := 0) Kb2.out
    have cb1 := cell_at (i := 1) Kb2.out
    go_wp2_with fail
    refine (long_yes s hs _).mono ?_
    rintro e w' ⟨rfl, rfl⟩
    go_wp2_with fail
    refine (works_any _).mono ?_
    rintro e w1 ⟨rfl, k1⟩
    clear ca0 ca1 cb0 cb1
    have Ka3 := Lib.hid (heap_keep k1 Ka2.out)
    clear Ka2
    have Kb3 := Lib.hid (heap_keep k1 Kb2.out)
    clear Kb2
    have B3 := Lib.hid (B2.out.trans (k1.mono B2.out.size))
    clear k1 B2
    have ca0 := cell_at (i := 0) Ka3.out
    have ca1 := cell_at (i := 1) Ka3.out
    have cb0 := cell_at (i := 0) Kb3.out
    have cb1 := cell_at (i := 1) Kb3.out
    go_wp2_with fail
    go_ret
    exact ⟨rfl, B3.out⟩
  have HG := Lib.hid (long_no s (by omega))
  have H1 := Lib.hid (fun w => offset_any s (by omega) (i : Int) (u : Int) w)
  have H2 := Lib.hid (fun w => offset_any s (by omega) (k : Int) (v : Int) w)
  have H3 := Lib.hid (fun w => at_any s (by omega) (i : Int) w)
  have H4 := Lib.hid (fun w => at_any s (by omega) (k : Int) w)
  have M1 := Lib.hid (fun h => off_mono s.data.toList i u k v h)
  have M2 := Lib.hid (fun h => off_mono s.data.toList k v i u h)
  have N1 := Lib.hid (fun (h : i ≤ k) => at_mono s.data.toList (clip s.data.toList (i : Int)) (clip s.data.toList (k : Int)) (by unfold clip; omega))
  have N2 := Lib.hid (fun (h : k ≤ i) => at_mono s.data.toList (clip s.data.toList (k : Int)) (clip s.data.toList (i : Int)) (by unfold clip; omega))
  unfold offW offE at H1 H2
  rw [if_neg (by omega), if_neg (by omega)] at H1 H2
  generalize offP s.data.toList (i : Int) (u : Int) = m at *
  generalize offP s.data.toList (k : Int) (v : Int) = n at *
  generalize lineN s.data.toList (clip s.data.toList (i : Int)) = lx at *
  generalize charP s.data.toList (clip s.data.toList (i : Int)) = cx at *
  generalize lineN s.data.toList (clip s.data.toList (k : Int)) = ly at *
  generalize charP s.data.toList (clip s.data.toList (k : Int)) = cy at *
  go_enter Try.func11, Try.ntmps11
  have B1 := Lib.hid (alloc_below (w) (.cells #[.int .u16 (i : Int), .int .u16 (u : Int)] 76))
  have Ka1 := alloc_top (w) #[.int .u16 (i : Int), .int .u16 (u : Int)] 76
  replace Ka1 := Lib.hid Ka1
  have B2 := Lib.hid (B1.out.trans ((alloc_below ((w).alloc (.cells #[.int .u16 (i : Int), .int .u16 (u : Int)] 76)) (.cells #[.int .u16 (k : Int), .int .u16 (v : Int)] 76)).mono B1.out.size))
  clear B1
  have Ka2 := Lib.hid (heap_keep (alloc_below ((w).alloc (.cells #[.int .u16 (i : Int), .int .u16 (u : Int)] 76)) (.cells #[.int .u16 (k : Int), .int .u16 (v : Int)] 76)) Ka1.out)
  clear Ka1
  have Kb2 := alloc_top ((w).alloc (.cells #[.int .u16 (i : Int), .int .u16 (u : Int)] 76)) #[.int .u16 (k : Int), .int .u16 (v : Int)] 76
  simp only [World.size_alloc] at Kb2
  replace Kb2 := Lib.hid Kb2
  have ca0 := cell_at (i := 0) Ka2.out
  have ca1 := cell_at (i := 1) Ka2.out
  have cb0 := cell_at (i := 0) Kb2.out
  have cb1 := cell_at (i := 1) Kb2.out
  go_wp2_with fail
  refine (HG.out _).mono ?_
  rintro e w' ⟨rfl, rfl⟩
  go_wp2_with fail
  go_cut [7, 8] (fun v7 v8 wx => ∃ p q : Nat, v7 = .pointer (some ⟨p, 0, none⟩) ∧ v8 = .pointer (some ⟨q, 0, none⟩) ∧ Hid (wx.heap[p]? = some (.cells #[.int .i64 (i : Int), .int .i64 (u : Int)] 79 (0, 0))) ∧ Hid (wx.heap[q]? = some (.cells #[.int .i64 (k : Int), .int .i64 (v : Int)] 79 (0, 0))) ∧ Hid (Below w.heap.size w wx))
  case first =>
    go_region
    all_goals (go_wp2_with fail)
    all_goals go_meet
    · clear ca0 ca1 cb0 cb1
      have B3 := Lib.hid (B2.out.trans ((alloc_below (((w).alloc (.cells #[.int .u16 (i : Int), .int .u16 (u : Int)] 76)).alloc (.cells #[.int .u16 (k : Int), .int .u16 (v : Int)] 76)) (.cells #[.int .i64 (i : Int), .int .i64 (u : Int)] 79)).mono B2.out.size))
      clear B2
      have Ka3 := Lib.hid (heap_keep (alloc_below (((w).alloc (.cells #[.int .u16 (i : Int), .int .u16 (u : Int)] 76)).alloc (.cells #[.int .u16 (k : Int), .int .u16 (v : Int)] 76)) (.cells #[.int .i64 (i : Int), .int .i64 (u : Int)] 79)) Ka2.out)
      clear Ka2
      have Kb3 := Lib.hid (heap_keep (alloc_below (((w).alloc (.cells #[.int .u16 (i : Int), .int .u16 (u : Int)] 76)).alloc (.cells #[.int .u16 (k : Int), .int .u16 (v : Int)] 76)) (.cells #[.int .i64 (i : Int), .int .i64 (u : Int)] 79)) Kb2.out)
      clear Kb2
      have Kp3 := alloc_top (((w).alloc (.cells #[.int .u16 (i : Int), .int .u16 (u : Int)] 76)).alloc (.cells #[.int .u16 (k : Int), .int .u16 (v : Int)] 76)) #[.int .i64 (i : Int), .int .i64 (u : Int)] 79
      simp only [World.size_alloc] at Kp3
      replace Kp3 := Lib.hid Kp3
      have B4 := Lib.hid (B3.out.trans ((alloc_below ((((w).alloc (.cells #[.int .u16 (i : Int), .int .u16 (u : Int)] 76)).alloc (.cells #[.int .u16 (k : Int), .int .u16 (v : Int)] 76)).alloc (.cells #[.int .i64 (i : Int), .int .i64 (u : Int)] 79)) (.cells #[.int .i64 (k : Int), .int .i64 (v : Int)] 79)).mono B3.out.size))
      clear B3
      have Ka4 := Lib.hid (heap_keep (alloc_below ((((w).alloc (.cells #[.int .u16 (i : Int), .int .u16 (u : Int)] 76)).alloc (.cells #[.int .u16 (k : Int), .int .u16 (v : Int)] 76)).alloc (.cells #[.int .i64 (i : Int), .int .i64 (u : Int)] 79)) (.cells #[.int .i64 (k : Int), .int .i64 (v : Int)] 79)) Ka3.out)
      clear Ka3
      have Kb4 := Lib.hid (heap_keep (alloc_below ((((w).alloc (.cells #[.int .u16 (i : Int), .int .u16 (u : Int)] 76)).alloc (.cells #[.int .u16 (k : Int), .int .u16 (v : Int)] 76)).alloc (.cells #[.int .i64 (i : Int), .int .i64 (u : Int)] 79)) (.cells #[.int .i64 (k : Int), .int .i64 (v : Int)] 79)) Kb3.out)
      clear Kb3
      have Kp4 := Lib.hid (heap_keep (alloc_below ((((w).alloc (.cells #[.int .u16 (i : Int), .int .u16 (u : Int)] 76)).alloc (.cells #[.int .u16 (k : Int), .int .u16 (v : Int)] 76)).alloc (.cells #[.int .i64 (i : Int), .int .i64 (u : Int)] 79)) (.cells #[.int .i64 (k : Int), .int .i64 (v : Int)] 79)) Kp3.out)
      clear Kp3
      have Kq4 := alloc_top ((((w).alloc (.cells #[.int .u16 (i : Int), .int .u16 (u : Int)] 76)).alloc (.cells #[.int .u16 (k : Int), .int .u16 (v : Int)] 76)).alloc (.cells #[.int .i64 (i : Int), .int .i64 (u : Int)] 79)) #[.int .i64 (k : Int), .int .i64 (v : Int)] 79
      simp only [World.size_alloc] at Kq4
      replace Kq4 := Lib.hid Kq4
      exact ⟨_, _, rfl, rfl, Kp4, Kq4, Lib.hid (Below.drew B4.out)⟩
    · clear ca0 ca1 cb0 cb1
      have B3 := Lib.hid (B2.out.trans ((alloc_below (((w).alloc (.cells #[.int .u16 (i : Int), .int .u16 (u : Int)] 76)).alloc (.cells #[.int .u16 (k : Int), .int .u16 (v : Int)] 76)) (.cells #[.int .i64 (k : Int), .int .i64 (v : Int)] 79)).mono B2.out.size))
      clear B2
      have Ka3 := Lib.hid (heap_keep (alloc_below (((w).alloc (.cells #[.int .u16 (i : Int), .int .u16 (u : Int)] 76)).alloc (.cells #[.int .u16 (k : Int), .int .u16 (v : Int)] 76)) (.cells #[.int .i64 (k : Int), .int .i64 (v : Int)] 79)) Ka2.out)
      clear Ka2
      have Kb3 := Lib.hid (heap_keep (alloc_below (((w).alloc (.cells #[.int .u16 (i : Int), .int .u16 (u : Int)] 76)).alloc (.cells #[.int .u16 (k : Int), .int .u16 (v : Int)] 76)) (.cells #[.int .i64 (k : Int), .int .i64 (v : Int)] 79)) Kb2.out)
      clear Kb2
      have Kq3 := alloc_top (((w).alloc (.cells #[.int .u16 (i : Int), .int .u16 (u : Int)] 76)).alloc (.cells #[.int .u16 (k : Int), .int .u16 (v : Int)] 76)) #[.int .i64 (k : Int), .int .i64 (v : Int)] 79
      simp only [World.size_alloc] at Kq3
      replace Kq3 := Lib.hid Kq3
      have B4 := Lib.hid (B3.out.trans ((alloc_below ((((w).alloc (.cells #[.int .u16 (i : Int), .int .u16 (u : Int)] 76)).alloc (.cells #[.int .u16 (k : Int), .int .u16 (v : Int)] 76)).alloc (.cells #[.int .i64 (k : Int), .int .i64 (v : Int)] 79)) (.cells #[.int .i64 (i : Int), .int .i64 (u : Int)] 79)).mono B3.out.size))
      clear B3
      have Ka4 := Lib.hid (heap_keep (alloc_below ((((w).alloc (.cells #[.int .u16 (i : Int), .int .u16 (u : Int)] 76)).alloc (.cells #[.int .u16 (k : Int), .int .u16 (v : Int)] 76)).alloc (.cells #[.int .i64 (k : Int), .int .i64 (v : Int)] 79)) (.cells #[.int .i64 (i : Int), .int .i64 (u : Int)] 79)) Ka3.out)
      clear Ka3
      have Kb4 := Lib.hid (heap_keep (alloc_below ((((w).alloc (.cells #[.int .u16 (i : Int), .int .u16 (u : Int)] 76)).alloc (.cells #[.int .u16 (k : Int), .int .u16 (v : Int)] 76)).alloc (.cells #[.int .i64 (k : Int), .int .i64 (v : Int)] 79)) (.cells #[.int .i64 (i : Int), .int .i64 (u : Int)] 79)) Kb3.out)
      clear Kb3
      have Kq4 := Lib.hid (heap_keep (alloc_below ((((w).alloc (.cells #[.int .u16 (i : Int), .int .u16 (u : Int)] 76)).alloc (.cells #[.int .u16 (k : Int), .int .u16 (v : Int)] 76)).alloc (.cells #[.int .i64 (k : Int), .int .i64 (v : Int)] 79)) (.cells #[.int .i64 (i : Int), .int .i64 (u : Int)] 79)) Kq3.out)
      clear Kq3
      have Kp4 := alloc_top ((((w).alloc (.cells #[.int .u16 (i : Int), .int .u16 (u : Int)] 76)).alloc (.cells #[.int .u16 (k : Int), .int .u16 (v : Int)] 76)).alloc (.cells #[.int .i64 (k : Int), .int .i64 (v : Int)] 79)) #[.int .i64 (i : Int), .int .i64 (u : Int)] 79
      simp only [World.size_alloc] at Kp4
      replace Kp4 := Lib.hid Kp4
      exact ⟨_, _, rfl, rfl, Kp4, Kq4, Lib.hid (Below.drew B4.out)⟩
  case rest =>
    obtain ⟨p, q, rfl, rfl, Kp, Kq, B⟩ := hcut
    clear ca0 ca1 cb0 cb1 Ka2 Kb2 B2
    have cp0 := cell_at (i := 0) Kp.out
    have cp1 := cell_at (i := 1) Kp.out
    have cq0 := cell_at (i := 0) Kq.out
    have cq1 := cell_at (i := 1) Kq.out
    go_wp2_with fail
    refine (H1.out _).mono ?_
    rintro e w1 ⟨rfl, k1⟩
    clear cp0 cp1 cq0 cq1
    have Kp3 := Lib.hid (heap_keep k1 Kp.out)
    clear Kp
    have Kq3 := Lib.hid (heap_keep k1 Kq.out)
    clear Kq
    have B3 := Lib.hid (B.out.trans (k1.mono B.out.size))
    clear k1 B
    have cp0 := cell_at (i := 0) Kp3.out
    have cp1 := cell_at (i := 1) Kp3.out
    have cq0 := cell_at (i := 0) Kq3.out
    have cq1 := cell_at (i := 1) Kq3.out
    go_wp2_with fail
    refine (H2.out _).mono ?_
    rintro e w2 ⟨rfl, k2⟩
    clear cp0 cp1 cq0 cq1
    have Kp4 := Lib.hid (heap_keep k2 Kp3.out)
    clear Kp3
    have Kq4 := Lib.hid (heap_keep k2 Kq3.out)
    clear Kq3
    have B4 := Lib.hid (B3.out.trans (k2.mono B3.out.size))
    clear k2 B3
    have cp0 := cell_at (i := 0) Kp4.out
    have cp1 := cell_at (i := 1) Kp4.out
    have cq0 := cell_at (i := 0) Kq4.out
    have cq1 := cell_at (i := 1) Kq4.out
    clear H1 H2
    go_upto_region 6 with fail
    go_cut [69] (fun v69 wx => v69 = .bool false ∧ Hid (wx.heap[p]? = some (.cells #[.int .i64 (i : Int), .int .i64 (u : Int)] 79 (0, 0))) ∧ Hid (wx.heap[q]? = some (.cells #[.int .i64 (k : Int), .int .i64 (v : Int)] 79 (0, 0))) ∧ Hid (Below w.heap.size w wx))
    case first =>
      clear H3 H4 N1 N2
      have hc : (i < k ∨ i = k ∧ u < v) ∨ (k < i ∨ i = k ∧ v < u) ∨ (i = k ∧ u = v) := by omega
      rcases hc with hc | hc | hc
      · have dm : ¬ ((n : Int) < (m : Int)) := by have := M1.out (by omega); omega
        have P1 := Lib.hid (ahead_yes (i : Int) (u : Int) (k : Int) (v : Int) (by omega))
        have P2 := Lib.hid (ahead_no (k : Int) (v : Int) (i : Int) (u : Int) (by omega))
        go_wp2_with fail
        refine (P1.out _).mono ?_
        rintro e w3 ⟨rfl, k3⟩
        clear cp0 cp1 cq0 cq1
        have Kp5 := Lib.hid (heap_keep k3 Kp4.out)
        clear Kp4
        have Kq5 := Lib.hid (heap_keep k3 Kq4.out)
        clear Kq4
        have B5 := Lib.hid (B4.out.trans (k3.mono B4.out.size))
        clear k3 B4
        have cp0 := cell_at (i := 0) Kp5.out
        have cp1 := cell_at (i := 1) Kp5.out
        have cq0 := cell_at (i := 0) Kq5.out
        have cq1 := cell_at (i := 1) Kq5.out
        go_wp2_with fail
        refine (P2.out _).mono ?_
        rintro e w4 ⟨rfl, k4⟩
        clear cp0 cp1 cq0 cq1
        have Kp6 := Lib.hid (heap_keep k4 Kp5.out)
        clear Kp5
        have Kq6 := Lib.hid (heap_keep k4 Kq5.out)
        clear Kq5
        have B6 := Lib.hid (B5.out.trans (k4.mono B5.out.size))
        clear k4 B5
        have cp0 := cell_at (i := 0) Kp6.out
        have cp1 := cell_at (i := 1) Kp6.out
        have cq0 := cell_at (i := 0) Kq6.out
        have cq1 := cell_at (i := 1) Kq6.out
        go_wp2_with fail
        go_meet
        exact ⟨by first | rfl | (simp only [Value.bool.injEq, decide_eq_false_iff_not]; omega), Kp6, Kq6, B6⟩
      · have dm : ¬ ((m : Int) < (n : Int)) := by have := M2.out (by omega); omega
        have P1 := Lib.hid (ahead_no (i : Int) (u : Int) (k : Int) (v : Int) (by omega))
        have P2 := Lib.hid (ahead_yes (k : Int) (v : Int) (i : Int) (u : Int) (by omega))
        go_wp2_with fail
        refine (P1.out _).mono ?_
        rintro e w3 ⟨rfl, k3⟩
        clear cp0 cp1 cq0 cq1
        have Kp5 := Lib.hid (heap_keep k3 Kp4.out)
        clear Kp4
        have Kq5 := Lib.hid (heap_keep k3 Kq4.out)
        clear Kq4
        have B5 := Lib.hid (B4.out.trans (k3.mono B4.out.size))
        clear k3 B4
        have cp0 := cell_at (i := 0) Kp5.out
        have cp1 := cell_at (i := 1) Kp5.out
        have cq0 := cell_at (i := 0) Kq5.out
        have cq1 := cell_at (i := 1) Kq5.out
        go_wp2_with fail
        refine (P2.out _).mono ?_
        rintro e w4 ⟨rfl, k4⟩
        clear cp0 cp1 cq0 cq1
        have Kp6 := Lib.hid (heap_keep k4 Kp5.out)
        clear Kp5
        have Kq6 := Lib.hid (heap_keep k4 Kq5.out)
        clear Kq5
        have B6 := Lib.hid (B5.out.trans (k4.mono B5.out.size))
        clear k4 B5
        have cp0 := cell_at (i := 0) Kp6.out
        have cp1 := cell_at (i := 1) Kp6.out
        have cq0 := cell_at (i := 0) Kq6.out
        have cq1 := cell_at (i := 1) Kq6.out
        go_wp2_with fail
        go_meet
        exact ⟨by first | rfl | (simp only [Value.bool.injEq, decide_eq_false_iff_not]; omega), Kp6, Kq6, B6⟩
      · have P1 := Lib.hid (ahead_no (i : Int) (u : Int) (k : Int) (v : Int) (by omega))
        have P2 := Lib.hid (ahead_no (k : Int) (v : Int) (i : Int) (u : Int) (by omega))
        clear hc
        go_wp2_with fail
        refine (P1.out _).mono ?_
        rintro e w3 ⟨rfl, k3⟩
        clear cp0 cp1 cq0 cq1
        have Kp5 := Lib.hid (heap_keep k3 Kp4.out)
        clear Kp4
        have Kq5 := Lib.hid (heap_keep k3 Kq4.out)
        clear Kq4
        have B5 := Lib.hid (B4.out.trans (k3.mono B4.out.size))
        clear k3 B4
        have cp0 := cell_at (i := 0) Kp5.out
        have cp1 := cell_at (i := 1) Kp5.out
        have cq0 := cell_at (i := 0) Kq5.out
        have cq1 := cell_at (i := 1) Kq5.out
        go_wp2_with fail
        refine (P2.out _).mono ?_
        rintro e w4 ⟨rfl, k4⟩
        clear cp0 cp1 cq0 cq1
        have Kp6 := Lib.hid (heap_keep k4 Kp5.out)
        clear Kp5
        have Kq6 := Lib.hid (heap_keep k4 Kq5.out)
        clear Kq5
        have B6 := Lib.hid (B5.out.trans (k4.mono B5.out.size))
        clear k4 B5
        have cp0 := cell_at (i := 0) Kp6.out
        have cp1 := cell_at (i := 1) Kp6.out
        have cq0 := cell_at (i := 0) Kq6.out
        have cq1 := cell_at (i := 1) Kq6.out
        go_wp2_with fail
        go_meet
        exact ⟨by first | rfl | (simp only [Value.bool.injEq, decide_eq_false_iff_not]; omega), Kp6, Kq6, B6⟩
    case rest =>
      obtain ⟨rfl, Kp6, Kq6, B6⟩ := hcut
      clear cp0 cp1 cq0 cq1 Kp4 Kq4 B4 M1 M2
      have cp0 := cell_at (i := 0) Kp6.out
      have cp1 := cell_at (i := 1) Kp6.out
      have cq0 := cell_at (i := 0) Kq6.out
      have cq1 := cell_at (i := 1) Kq6.out
      go_upto_region 8 with fail
      go_cut [13, 14] (fun v13 v14 wx => ∃ x y : Nat, v13 = .pointer (some ⟨x, 0, none⟩) ∧ v14 = .pointer (some ⟨y, 0, none⟩) ∧ Hid (wx.heap[x]? = some (.cells #[.int .i64 (lx : Int), .int .i64 (cx : Int)] 79 (0, 0))) ∧ Hid (wx.heap[y]? = some (.cells #[.int .i64 (ly : Int), .int .i64 (cy : Int)] 79 (0, 0))) ∧ Hid (wx.heap[p]? = some (.cells #[.int .i64 (i : Int), .int .i64 (u : Int)] 79 (0, 0))) ∧ Hid (wx.heap[q]? = some (.cells #[.int .i64 (k : Int), .int .i64 (v : Int)] 79 (0, 0))) ∧ Hid (Below w.heap.size w wx))
      case first =>
        have hpw := heap_lt Kp6.out
        have hqw := heap_lt Kq6.out
        have HS0 : Hid (wc.cell? ⟨p, 0, none⟩ = some (.int .i64 (i : Int)) ∧ wc.cell? ⟨q, 0, none⟩ = some (.int .i64 (k : Int))) := Lib.hid ⟨cp0, cq0⟩
        clear cp0 cp1 cq0 cq1
        go_region_held3 (fun w' => w'.cell? ⟨p, 0, none⟩ = some (.int .i64 (i : Int)) ∧ w'.cell? ⟨q, 0, none⟩ = some (.int .i64 (k : Int))) (repeat' (first | with_reducible assumption | with_reducible refine s_alloc ?_ _ | with_reducible refine s_drew ?_ | with_reducible refine s_set ?_ (by omega) (by omega) | with_reducible refine s_keep ?_ kq2 | with_reducible refine s_keep ?_ kq1 | exact HS0.out)) (first | (go_at_call_of 37 (Value.int .i64 (i : Int)); refine (H3.out _).mono ?_; rintro e wq1 ⟨rfl, kq1⟩; have sz1 := kq1.size; (try simp only [World.size_alloc, World.size_drew] at sz1); have hp1 : p < wq1.heap.size := (by omega); have hq1 : q < wq1.heap.size := (by omega); have kb1 : Below wc.heap.size wc wq1 := (by first | exact below_drew kq1 | exact (alloc_below wc _).trans ((below_drew kq1).mono (alloc_below wc _).size) | exact ((alloc_below wc _).trans ((alloc_below _ _).mono (alloc_below wc _).size)).trans ((below_drew kq1).mono ((alloc_below wc _).trans ((alloc_below _ _).mono (alloc_below wc _).size)).size)); first | (have a1 := heap_keep (below_drew kq1) (heap_keep (alloc_below ((wc).alloc (.cells #[.int .i64 0, .int .i64 0] 79)) (.cells #[.int .i64 0, .int .i64 0] 79)) (alloc_top (wc) #[.int .i64 0, .int .i64 0] 79)); have a2 := heap_keep (below_drew kq1) (alloc_top ((wc).alloc (.cells #[.int .i64 0, .int .i64 0] 79)) #[.int .i64 0, .int .i64 0] 79); (try simp only [World.size_alloc] at a1 a2); have a1c0 := cell_at (i := 0) a1; have a1f0 := frozen_of_row _ _ 0 _ _ a1; have a1c1 := cell_at (i := 1) a1; have a1f1 := frozen_of_row _ _ 1 _ _ a1; have a2c0 := cell_at (i := 0) a2; have a2f0 := frozen_of_row _ _ 0 _ _ a2; have a2c1 := cell_at (i := 1) a2; have a2f1 := frozen_of_row _ _ 1 _ _ a2) | (have a1 := heap_keep (below_drew kq1) (alloc_top (wc) #[.int .i64 0, .int .i64 0] 79); (try simp only [World.size_alloc, World.size_drew] at a1); have a1c0 := cell_at (i := 0) a1; have a1f0 := frozen_of_row _ _ 0 _ _ a1; have a1c1 := cell_at (i := 1) a1; have a1f1 := frozen_of_row _ _ 1 _ _ a1) | skip) | (go_at_call_of 37 (Value.int .i64 (k : Int)); refine (H4.out _).mono ?_; rintro e wq2 ⟨rfl, kq2⟩; have sz2 := kq2.size; (try simp only [World.size_alloc] at sz2); have kb2 : Below wc.heap.size wc wq2 := (by first | exact kb1.trans (kq2.mono kb1.size) | exact kb1.trans (((alloc_below wq1 _).trans (kq2.mono (alloc_below wq1 _).size)).mono kb1.size) | exact kb1.trans ((((alloc_below wq1 _).trans ((alloc_below _ _).mono (alloc_below wq1 _).size)).trans (kq2.mono ((alloc_below wq1 _).trans ((alloc_below _ _).mono (alloc_below wq1 _).size)).size)).mono kb1.size)); (try have : (wc.heap.size) ≠ (wc.heap.size + 1) := (by omega)); (try have : (wc.heap.size + 1) ≠ (wc.heap.size) := (by omega)); (try have : (wc.heap.size) ≠ (wq1.heap.size) := (by omega)); (try have : (wq1.heap.size) ≠ (wc.heap.size) := (by omega)); (try have : (wc.heap.size) ≠ (wq1.heap.size + 1) := (by omega)); (try have : (wq1.heap.size + 1) ≠ (wc.heap.size) := (by omega)); (try have : (wc.heap.size) ≠ (wq2.heap.size) := (by omega)); (try have : (wq2.heap.size) ≠ (wc.heap.size) := (by omega)); (try have : (wc.heap.size) ≠ (wq2.heap.size + 1) := (by omega)); (try have : (wq2.heap.size + 1) ≠ (wc.heap.size) := (by omega)); (try have : (wc.heap.size + 1) ≠ (wq1.heap.size) := (by omega)); (try have : (wq1.heap.size) ≠ (wc.heap.size + 1) := (by omega)); (try have : (wc.heap.size + 1) ≠ (wq1.heap.size + 1) := (by omega)); (try have : (wq1.heap.size + 1) ≠ (wc.heap.size + 1) := (by omega)); (try have : (wc.heap.size + 1) ≠ (wq2.heap.size) := (by omega)); (try have : (wq2.heap.size) ≠ (wc.heap.size + 1) := (by omega)); (try have : (wc.heap.size + 1) ≠ (wq2.heap.size + 1) := (by omega)); (try have : (wq2.heap.size + 1) ≠ (wc.heap.size + 1) := (by omega)); (try have : (wq1.heap.size) ≠ (wq1.heap.size + 1) := (by omega)); (try have : (wq1.heap.size + 1) ≠ (wq1.heap.size) := (by omega)); (try have : (wq1.heap.size) ≠ (wq2.heap.size) := (by omega)); (try have : (wq2.heap.size) ≠ (wq1.heap.size) := (by omega)); (try have : (wq1.heap.size) ≠ (wq2.heap.size + 1) := (by omega)); (try have : (wq2.heap.size + 1) ≠ (wq1.heap.size) := (by omega)); (try have : (wq1.heap.size + 1) ≠ (wq2.heap.size) := (by omega)); (try have : (wq2.heap.size) ≠ (wq1.heap.size + 1) := (by omega)); (try have : (wq1.heap.size + 1) ≠ (wq2.heap.size + 1) := (by omega)); (try have : (wq2.heap.size + 1) ≠ (wq1.heap.size + 1) := (by omega)); (try have : (wq2.heap.size) ≠ (wq2.heap.size + 1) := (by omega)); (try have : (wq2.heap.size + 1) ≠ (wq2.heap.size) := (by omega)); first | (have b1 := heap_keep kq2 (heap_keep (alloc_below ((wq1).alloc (.cells #[.int .i64 0, .int .i64 0] 79)) (.cells #[.int .i64 0, .int .i64 0] 79)) (alloc_top wq1 #[.int .i64 0, .int .i64 0] 79)); have b2 := heap_keep kq2 (alloc_top ((wq1).alloc (.cells #[.int .i64 0, .int .i64 0] 79)) #[.int .i64 0, .int .i64 0] 79); (try simp only [World.size_alloc] at b1 b2); have b1c0 := cell_at (i := 0) b1; have b1f0 := frozen_of_row _ _ 0 _ _ b1; have b1c1 := cell_at (i := 1) b1; have b1f1 := frozen_of_row _ _ 1 _ _ b1; have b2c0 := cell_at (i := 0) b2; have b2f0 := frozen_of_row _ _ 0 _ _ b2; have b2c1 := cell_at (i := 1) b2; have b2f1 := frozen_of_row _ _ 1 _ _ b2) | (have b1 := heap_keep kq2 (alloc_top wq1 #[.int .i64 0, .int .i64 0] 79); (try simp only [World.size_alloc, World.size_drew] at b1); have b1u := heap_keep (alloc_below wq2 (.cells #[.int .i64 0, .int .i64 0] 79)) b1; have b1v := heap_keep (alloc_below wq2 (.cells #[.int .i64 (lx : Int), .int .i64 (cx : Int)] 79)) b1; have b1c0 := cell_at (i := 0) b1; have b1f0 := frozen_of_row _ _ 0 _ _ b1; have b1c1 := cell_at (i := 1) b1; have b1f1 := frozen_of_row _ _ 1 _ _ b1; have b1uc0 := cell_at (i := 0) b1u; have b1uf0 := frozen_of_row _ _ 0 _ _ b1u; have b1uc1 := cell_at (i := 1) b1u; have b1uf1 := frozen_of_row _ _ 1 _ _ b1u; have b1vc0 := cell_at (i := 0) b1v; have b1vf0 := frozen_of_row _ _ 0 _ _ b1v; have b1vc1 := cell_at (i := 1) b1v; have b1vf1 := frozen_of_row _ _ 1 _ _ b1v; (try (have b2 := heap_keep kq2 (heap_keep (alloc_below wq1 (.cells #[.int .i64 0, .int .i64 0] 79)) a1); have b2c0 := cell_at (i := 0) b2; have b2f0 := frozen_of_row _ _ 0 _ _ b2; have b2c1 := cell_at (i := 1) b2; have b2f1 := frozen_of_row _ _ 1 _ _ b2))) | ((try (have b1 := heap_keep kq2 a1; have b1u := heap_keep (alloc_below wq2 (.cells #[.int .i64 0, .int .i64 0] 79)) b1; have b1v := heap_keep (alloc_below wq2 (.cells #[.int .i64 (lx : Int), .int .i64 (cx : Int)] 79)) b1; have b1c0 := cell_at (i := 0) b1; have b1f0 := frozen_of_row _ _ 0 _ _ b1; have b1c1 := cell_at (i := 1) b1; have b1f1 := frozen_of_row _ _ 1 _ _ b1; have b1uc0 := cell_at (i := 0) b1u; have b1uf0 := frozen_of_row _ _ 0 _ _ b1u; have b1uc1 := cell_at (i := 1) b1u; have b1uf1 := frozen_of_row _ _ 1 _ _ b1u; have b1vc0 := cell_at (i := 0) b1v; have b1vf0 := frozen_of_row _ _ 0 _ _ b1v; have b1vc1 := cell_at (i := 1) b1v; have b1vf1 := frozen_of_row _ _ 1 _ _ b1v)); (try (have b2 := heap_keep kq2 a2; have b2c0 := cell_at (i := 0) b2; have b2f0 := frozen_of_row _ _ 0 _ _ b2; have b2c1 := cell_at (i := 1) b2; have b2f1 := frozen_of_row _ _ 1 _ _ b2)))))
        all_goals (go_wp2_with fail)
        all_goals go_meet
        all_goals refine ⟨_, _, rfl, rfl, ?_⟩
        all_goals first
          | with_reducible exact rise_c B6.out kb2 Kp6.out Kq6.out b1 b2 hpw hqw (by omega) (by omega) (by omega)
          | with_reducible exact rise_c B6.out kb2 Kp6.out Kq6.out b2 b1 hpw hqw (by omega) (by omega) (by omega)
          | with_reducible exact rise_c B6.out (kb2.trans ((alloc_below wq2 _).mono kb2.size)) Kp6.out Kq6.out b1u (alloc_top wq2 #[.int .i64 0, .int .i64 0] 79) hpw hqw (by omega) (by omega) (by omega)
          | with_reducible exact rise_d B6.out (kb2.trans ((alloc_below wq2 _).mono kb2.size)) Kp6.out Kq6.out (alloc_top wq2 #[.int .i64 (lx : Int), .int .i64 (cx : Int)] 79) b1v hpw hqw (by omega) (by omega)
          | with_reducible exact rise_a B6.out kb2 Kp6.out Kq6.out
          | with_reducible exact rise_b B6.out kb2 Kp6.out Kq6.out
      case rest =>
        obtain ⟨x, y, rfl, rfl, Kx, Ky, Kp8, Kq8, B8⟩ := hcut
        clear H3 H4 Kp6 Kq6 B6 cp0 cp1 cq0 cq1
        have cp0 := cell_at (i := 0) Kp8.out
        have cp1 := cell_at (i := 1) Kp8.out
        have cq0 := cell_at (i := 0) Kq8.out
        have cq1 := cell_at (i := 1) Kq8.out
        have cx0 := cell_at (i := 0) Kx.out
        have cx1 := cell_at (i := 1) Kx.out
        have cy0 := cell_at (i := 0) Ky.out
        have cy1 := cell_at (i := 1) Ky.out
        have hc : i < k ∨ k < i ∨ i = k := by omega
        rcases hc with hc | hc | hc
        · have P1 := Lib.hid (ahead_no (ly : Int) (cy : Int) (lx : Int) (cx : Int) (by have := N1.out (by omega); omega))
          have t1 : ¬ ((k : Int) < (i : Int)) := by omega
          have t2 : ((i : Int) < (k : Int)) := by omega
          go_wp2_with fail
          refine (P1.out _).mono ?_
          rintro e w1 ⟨rfl, k1⟩
          clear cp0 cp1 cq0 cq1 cx0 cx1 cy0 cy1
          have Kp5 := Lib.hid (heap_keep k1 Kp8.out)
          clear Kp8
          have Kq5 := Lib.hid (heap_keep k1 Kq8.out)
          clear Kq8
          have Kx5 := Lib.hid (heap_keep k1 Kx.out)
          clear Kx
          have Ky5 := Lib.hid (heap_keep k1 Ky.out)
          clear Ky
          have B5 := Lib.hid (B8.out.trans (k1.mono B8.out.size))
          clear k1 B8
          have cp0 := cell_at (i := 0) Kp5.out
          have cp1 := cell_at (i := 1) Kp5.out
          have cq0 := cell_at (i := 0) Kq5.out
          have cq1 := cell_at (i := 1) Kq5.out
          have cx0 := cell_at (i := 0) Kx5.out
          have cx1 := cell_at (i := 1) Kx5.out
          have cy0 := cell_at (i := 0) Ky5.out
          have cy1 := cell_at (i := 1) Ky5.out
          go_wp2_with fail
          refine (works_any _).mono ?_
          rintro e w2 ⟨rfl, k2⟩
          clear cp0 cp1 cq0 cq1 cx0 cx1 cy0 cy1
          have Kp6 := Lib.hid (heap_keep k2 Kp5.out)
          clear Kp5
          have Kq6 := Lib.hid (heap_keep k2 Kq5.out)
          clear Kq5
          have Kx6 := Lib.hid (heap_keep k2 Kx5.out)
          clear Kx5
          have Ky6 := Lib.hid (heap_keep k2 Ky5.out)
          clear Ky5
          have B6 := Lib.hid (B5.out.trans (k2.mono B5.out.size))
          clear k2 B5
          have cp0 := cell_at (i := 0) Kp6.out
          have cp1 := cell_at (i := 1) Kp6.out
          have cq0 := cell_at (i := 0) Kq6.out
          have cq1 := cell_at (i := 1) Kq6.out
          have cx0 := cell_at (i := 0) Kx6.out
          have cx1 := cell_at (i := 1) Kx6.out
          have cy0 := cell_at (i := 0) Ky6.out
          have cy1 := cell_at (i := 1) Ky6.out
          go_wp2_with fail
          go_ret
          exact ⟨rfl, B6.out⟩
        · have P2 := Lib.hid (ahead_no (lx : Int) (cx : Int) (ly : Int) (cy : Int) (by have := N2.out (by omega); omega))
          have t1 : ((k : Int) < (i : Int)) := by omega
          have t2 : ¬ ((i : Int) < (k : Int)) := by omega
          go_wp2_with fail
          refine (P2.out _).mono ?_
          rintro e w1 ⟨rfl, k1⟩
          clear cp0 cp1 cq0 cq1 cx0 cx1 cy0 cy1
          have Kp5 := Lib.hid (heap_keep k1 Kp8.out)
          clear Kp8
          have Kq5 := Lib.hid (heap_keep k1 Kq8.out)
          clear Kq8
          have Kx5 := Lib.hid (heap_keep k1 Kx.out)
          clear Kx
          have Ky5 := Lib.hid (heap_keep k1 Ky.out)
          clear Ky
          have B5 := Lib.hid (B8.out.trans (k1.mono B8.out.size))
          clear k1 B8
          have cp0 := cell_at (i := 0) Kp5.out
          have cp1 := cell_at (i := 1) Kp5.out
          have cq0 := cell_at (i := 0) Kq5.out
          have cq1 := cell_at (i := 1) Kq5.out
          have cx0 := cell_at (i := 0) Kx5.out
          have cx1 := cell_at (i := 1) Kx5.out
          have cy0 := cell_at (i := 0) Ky5.out
          have cy1 := cell_at (i := 1) Ky5.out
          go_wp2_with fail
          refine (works_any _).mono ?_
          rintro e w2 ⟨rfl, k2⟩
          clear cp0 cp1 cq0 cq1 cx0 cx1 cy0 cy1
          have Kp6 := Lib.hid (heap_keep k2 Kp5.out)
          clear Kp5
          have Kq6 := Lib.hid (heap_keep k2 Kq5.out)
          clear Kq5
          have Kx6 := Lib.hid (heap_keep k2 Kx5.out)
          clear Kx5
          have Ky6 := Lib.hid (heap_keep k2 Ky5.out)
          clear Ky5
          have B6 := Lib.hid (B5.out.trans (k2.mono B5.out.size))
          clear k2 B5
          have cp0 := cell_at (i := 0) Kp6.out
          have cp1 := cell_at (i := 1) Kp6.out
          have cq0 := cell_at (i := 0) Kq6.out
          have cq1 := cell_at (i := 1) Kq6.out
          have cx0 := cell_at (i := 0) Kx6.out
          have cx1 := cell_at (i := 1) Kx6.out
          have cy0 := cell_at (i := 0) Ky6.out
          have cy1 := cell_at (i := 1) Ky6.out
          go_wp2_with fail
          go_ret
          exact ⟨rfl, B6.out⟩
        · have P1 := Lib.hid (ahead_no (ly : Int) (cy : Int) (lx : Int) (cx : Int) (by have := N1.out (by omega); omega))
          have P2 := Lib.hid (ahead_no (lx : Int) (cx : Int) (ly : Int) (cy : Int) (by have := N2.out (by omega); omega))
          have t1 : ¬ ((k : Int) < (i : Int)) := by omega
          have t2 : ¬ ((i : Int) < (k : Int)) := by omega
          go_wp2_with fail
          refine (P1.out _).mono ?_
          rintro e w1 ⟨rfl, k1⟩
          clear cp0 cp1 cq0 cq1 cx0 cx1 cy0 cy1
          have Kp5 := Lib.hid (heap_keep k1 Kp8.out)
          clear Kp8
          have Kq5 := Lib.hid (heap_keep k1 Kq8.out)
          clear Kq8
          have Kx5 := Lib.hid (heap_keep k1 Kx.out)
          clear Kx
          have Ky5 := Lib.hid (heap_keep k1 Ky.out)
          clear Ky
          have B5 := Lib.hid (B8.out.trans (k1.mono B8.out.size))
          clear k1 B8
          have cp0 := cell_at (i := 0) Kp5.out
          have cp1 := cell_at (i := 1) Kp5.out
          have cq0 := cell_at (i := 0) Kq5.out
          have cq1 := cell_at (i := 1) Kq5.out
          have cx0 := cell_at (i := 0) Kx5.out
          have cx1 := cell_at (i := 1) Kx5.out
          have cy0 := cell_at (i := 0) Ky5.out
          have cy1 := cell_at (i := 1) Ky5.out
          go_wp2_with fail
          refine (P2.out _).mono ?_
          rintro e w2 ⟨rfl, k2⟩
          clear cp0 cp1 cq0 cq1 cx0 cx1 cy0 cy1
          have Kp6 := Lib.hid (heap_keep k2 Kp5.out)
          clear Kp5
          have Kq6 := Lib.hid (heap_keep k2 Kq5.out)
          clear Kq5
          have Kx6 := Lib.hid (heap_keep k2 Kx5.out)
          clear Kx5
          have Ky6 := Lib.hid (heap_keep k2 Ky5.out)
          clear Ky5
          have B6 := Lib.hid (B5.out.trans (k2.mono B5.out.size))
          clear k2 B5
          have cp0 := cell_at (i := 0) Kp6.out
          have cp1 := cell_at (i := 1) Kp6.out
          have cq0 := cell_at (i := 0) Kq6.out
          have cq1 := cell_at (i := 1) Kq6.out
          have cx0 := cell_at (i := 0) Kx6.out
          have cx1 := cell_at (i := 1) Kx6.out
          have cy0 := cell_at (i := 0) Ky6.out
          have cy1 := cell_at (i := 1) Ky6.out
          go_wp2_with fail
          refine (works_any _).mono ?_
          rintro e w3 ⟨rfl, k3⟩
          clear cp0 cp1 cq0 cq1 cx0 cx1 cy0 cy1
          have Kp7 := Lib.hid (heap_keep k3 Kp6.out)
          clear Kp6
          have Kq7 := Lib.hid (heap_keep k3 Kq6.out)
          clear Kq6
          have Kx7 := Lib.hid (heap_keep k3 Kx6.out)
          clear Kx6
          have Ky7 := Lib.hid (heap_keep k3 Ky6.out)
          clear Ky6
          have B7 := Lib.hid (B6.out.trans (k3.mono B6.out.size))
          clear k3 B6
          have cp0 := cell_at (i := 0) Kp7.out
          have cp1 := cell_at (i := 1) Kp7.out
          have cq0 := cell_at (i := 0) Kq7.out
          have cq1 := cell_at (i := 1) Kq7.out
          have cx0 := cell_at (i := 0) Kx7.out
          have cx1 := cell_at (i := 1) Kx7.out
          have cy0 := cell_at (i := 0) Ky7.out
          have cy1 := cell_at (i := 1) Ky7.out
          go_wp2_with fail
          go_ret
          exact ⟨rfl, B7.out⟩
end Go.Proofs.Ytlgjlfljohapfaa
