/-
  emendref06.Lines AT EVERY TEXT of at most 1000000 bytes: a slice in new memory that reads as the text's lines; no memory that was there turns. Condition: the text's length.
-/
import Derived.Test.YtnmbclkpncjebaaRefB
import Derived.Test.YtnmbclkpncjebaaLrow
namespace Go.Proofs.Ytnmbclkpncjebaa
open Go.RowKit

theorem Try.infoRow : (Try.prog.info? 30).map (fun i => (i.zero, i.size, i.bytes)) = some (some (.agg #[.int .i64 0, .int .i64 0]), 2, 16) := by kernel_rfl
def rcell (r : Nat × Nat) : List Value := [.int .i64 (r.1 : Int), .int .i64 (r.2 : Int)]
def rcells (l : List (Nat × Nat)) : List Value := l.flatMap rcell
theorem rcells_snoc (l : List (Nat × Nat)) (r : Nat × Nat) : rcells (l ++ [r]) = rcells l ++ rcell r := by simp [rcells]
/-- Was the byte ahead of a place a 13? -/
def pB (s : ByteArray) (i : Nat) : Bool := decide (0 < i) && nth s.data.toList (i - 1) == 13
theorem rest_cons (s : ByteArray) (i : Nat) (h : i < s.size) : rest s i = s[i]'h :: rest s (i + 1) := by
  unfold rest
  exact List.drop_eq_getElem_cons (show i < s.data.toList.length from h)
theorem nth_at (s : ByteArray) (i : Nat) (h : i < s.size) : nth s.data.toList i = (s[i]'h).toNat := by
  unfold nth
  rw [List.getD_eq_getElem?_getD, Array.getElem?_toList, Array.getElem?_eq_getElem (show i < s.data.size from h)]
  rfl
theorem pB_next (s : ByteArray) (i : Nat) (h : i < s.size) : pB s (i + 1) = (s[i]'h == 13) := by
  unfold pB
  rw [Nat.add_sub_cancel, nth_at s i h, decide_eq_true (by omega), Bool.true_and]
  generalize s[i]'h = c
  by_cases e : c = 13
  · subst e; rfl
  · have : c.toNat ≠ 13 := fun x => e (UInt8.toNat_inj.1 (by rw [x]; rfl))
    rw [show (c == 13) = false by simpa using e]
    simpa using this
/-- What Lines hands back. -/
def LinesEnd (s : ByteArray) (w : World) (e : Ending) (w' : World) : Prop := ∃ v, e = .returned v ∧ w'.ownsRow w.heap.size 30 2 v (rows s.data.toList 0).length (rcells (rows s.data.toList 0)) ∧ Below w.heap.size w w'
set_option maxRecDepth 100000 in
set_option maxHeartbeats 2000000 in
theorem refLines_any (s : ByteArray) (hs : s.size ≤ 1000000) (w : World) : Calls Try.prog 12 #[.string s] w (LinesEnd s w) := by
  obtain ⟨i0, hi, hz0, hz1, hz2⟩ := info_parts Try.infoRow
  go_enter Try.func12, Try.ntmps12
  go_wp2_with fail
  go_loopw [3, 4, 5] (fun v a u wr => ∃ (i f n : Nat) (l : List (Nat × Nat)), i ≤ s.size ∧ f ≤ i ∧ n ≤ i ∧ u = .int .i64 (i : Int) ∧ a = .int .i64 (f : Int) ∧ Hid (l.length = n) ∧ wr.ownsRow w.heap.size 30 2 v n (rcells l) ∧ Hid (Below w.heap.size w wr) ∧ Hid (l ++ rowsD (rest s i) (pB s i) f i = rows s.data.toList 0)) (fun _ _ u _ => s.size - (intOf u).toNat)
  case atStart => exact ⟨0, 0, 0, [], Nat.zero_le _, Nat.le_refl _, Nat.le_refl _, rfl, rfl, Lib.hid rfl, World.ownsRow_nil _ _ _ _, Lib.hid (Below.refl _ _), Lib.hid (by rw [rest_zero, ← rowsD_rows]; rfl)⟩
  case round =>
    obtain ⟨i, f, n, l, hp, hf, hn, rfl, rfl, hlen, hown, hb, hl⟩ := hrel
    by_cases hlt : i < s.size
    · obtain ⟨x, hx⟩ : ∃ x, s[i]'hlt = x := ⟨_, rfl⟩
      have hpn := pB_next s i hlt
      have hrc := rest_cons s i hlt
      rw [hx] at hpn hrc
      have HR : Hid (l ++ (if x = 10 ∧ pB s i = true then rowsD (rest s (i + 1)) (pB s (i + 1)) (i + 1) (i + 1) else if isEnd x then (f, i) :: rowsD (rest s (i + 1)) (pB s (i + 1)) (i + 1) (i + 1) else rowsD (rest s (i + 1)) (pB s (i + 1)) f (i + 1)) = rows s.data.toList 0) := Lib.hid (by
        rw [← hl.out, hrc, rowsD, hpn]
        congr 1
        by_cases h10 : x = 10
        · subst h10; rfl
        · by_cases h13 : x = 13
          · subst h13; rfl
          · rw [show (x == 13) = false by simpa using h13])
      have HPB : Hid (pB s i = (decide (0 < i) && nth s.data.toList (i - 1) == 13)) := Lib.hid rfl
      clear hpn hrc hl
      by_cases h10 : x = 10
      · subst h10
        by_cases h0 : 0 < i
        · have hlt1 : i - 1 < s.size := by omega
          obtain ⟨y, hy⟩ : ∃ y, s[i - 1]'hlt1 = y := ⟨_, rfl⟩
          have hyn := nth_at s (i - 1) hlt1
          rw [hy] at hyn
          by_cases h13 : y = 13
          · have hpb : pB s i = true := by rw [HPB.out, hyn, h13, decide_eq_true h0]; rfl
            have hr := HR.out
            rw [if_pos ⟨rfl, hpb⟩] at hr
            have HR2 := Lib.hid hr
            clear hr hpb HR HPB hyn
            subst h13
            go_wp2_with fail
            go_roundw
            case rel => exact ⟨i + 1, i + 1, n, l, by omega, by omega, by omega, by go_num, by go_num, Lib.hid (hlen.out), hown, hb, Lib.hid (by first | exact HR2.out | (rw [List.append_assoc]; exact HR2.out))⟩
            case measure => simp [intOf]; omega
          · have hpb : pB s i = false := by
              rw [HPB.out, hyn, decide_eq_true h0, Bool.true_and]
              have : y.toNat ≠ 13 := fun e => h13 (UInt8.toNat_inj.1 (by rw [e]; rfl))
              simpa using this
            have hr := HR.out
            rw [if_neg (by rw [hpb]; simp), show isEnd 10 = true from rfl, if_pos rfl] at hr
            have HR2 := Lib.hid hr
            have e13 : ((y.toNat : Int) == 13) = false := by
              have : y.toNat ≠ 13 := fun e => h13 (UInt8.toNat_inj.1 (by rw [e]; rfl))
              simp only [beq_eq_false_iff_ne, ne_eq]; omega
            clear hr hpb HR HPB hyn h13
            go_wp2_with (at_builtin; refine wpList_append_own _ rfl _ _ 24 rfl w.heap.size 30 i0 (.agg #[.int .i64 0, .int .i64 0]) 2 16 Try.underlying24 hi hz0 hz1 hz2 rfl (by decide) _ _ _ rfl (hown.alloc _) ⟨wr.heap.size, 0, none⟩ 1 1 [.int .i64 (f : Int), .int .i64 (i : Int)] rfl rfl ?c1 ?c2 ?c3 ?c4 ?c5 ?_)
            case c1 => exact new_add _ _ _
            case c2 => simp [Value.oneCell']
            case c3 => unfold maxLen; omega
            case c4 => omega
            case c5 => simp only [World.size_alloc]; have := hb.out.size; omega
            intro v' w2 hown' hgrow hne
            have HB2 : Hid (Below w.heap.size w w2) := Lib.hid ((hb.out.alloc hb.out.size _).grown hgrow (by simp only [World.size_alloc]; have := hb.out.size; omega) (fun j ej => (World.ownsRow.lt hown j ej).1))
            have hr2 : rcells l ++ [Value.int .i64 (f : Int), .int .i64 (i : Int)] = rcells (l ++ [(f, i)]) := by
              rw [rcells_snoc]
              rfl
            rw [hr2] at hown'
            have HO2 := Lib.hid hown'
            clear hr2 hown' hgrow hne hown
            go_wp2_with fail
            go_roundw
            case rel => exact ⟨i + 1, i + 1, n + 1, l ++ [(f, i)], by omega, by omega, by omega, by go_num, by go_num, Lib.hid (by rw [List.length_append, hlen.out]; rfl), HO2.out, HB2, Lib.hid (by first | exact HR2.out | (rw [List.append_assoc]; exact HR2.out))⟩
            case measure => simp [intOf]; omega
        · obtain rfl : i = 0 := by omega
          have hr := HR.out
          rw [if_neg (by rw [HPB.out]; simp), show isEnd 10 = true from rfl, if_pos rfl] at hr
          have HR2 := Lib.hid hr
          clear hr HR HPB h0
          go_wp2_with (at_builtin; refine wpList_append_own _ rfl _ _ 24 rfl w.heap.size 30 i0 (.agg #[.int .i64 0, .int .i64 0]) 2 16 Try.underlying24 hi hz0 hz1 hz2 rfl (by decide) _ _ _ rfl (hown.alloc _) ⟨wr.heap.size, 0, none⟩ 1 1 [.int .i64 (f : Int), .int .i64 0] rfl rfl ?c1 ?c2 ?c3 ?c4 ?c5 ?_)
          case c1 => exact new_add _ _ _
          case c2 => simp [Value.oneCell']
          case c3 => unfold maxLen; omega
          case c4 => omega
          case c5 => simp only [World.size_alloc]; have := hb.out.size; omega
          intro v' w2 hown' hgrow hne
          have HB2 : Hid (Below w.heap.size w w2) := Lib.hid ((hb.out.alloc hb.out.size _).grown hgrow (by simp only [World.size_alloc]; have := hb.out.size; omega) (fun j ej => (World.ownsRow.lt hown j ej).1))
          have hr2 : rcells l ++ [Value.int .i64 (f : Int), .int .i64 0] = rcells (l ++ [(f, 0)]) := by
            rw [rcells_snoc]
            rfl
          rw [hr2] at hown'
          have HO2 := Lib.hid hown'
          clear hr2 hown' hgrow hne hown
          go_wp2_with fail
          go_roundw
          case rel => exact ⟨1, 1, n + 1, l ++ [(f, 0)], by omega, by omega, by omega, by go_num, by go_num, Lib.hid (by rw [List.length_append, hlen.out]; rfl), HO2.out, HB2, Lib.hid (by first | exact HR2.out | (rw [List.append_assoc]; exact HR2.out))⟩
          case measure => simp [intOf]; omega
      · have e10 : ((x.toNat : Int) == 10) = false := by
          have : x.toNat ≠ 10 := fun e => h10 (UInt8.toNat_inj.1 (by rw [e]; rfl))
          simp only [beq_eq_false_iff_ne, ne_eq]; omega
        by_cases h13 : x = 13
        · subst h13
          have hr := HR.out
          rw [if_neg (fun y => h10 y.1), show isEnd 13 = true from rfl, if_pos rfl] at hr
          have HR2 := Lib.hid hr
          clear hr HR HPB e10
          go_wp2_with (at_builtin; refine wpList_append_own _ rfl _ _ 24 rfl w.heap.size 30 i0 (.agg #[.int .i64 0, .int .i64 0]) 2 16 Try.underlying24 hi hz0 hz1 hz2 rfl (by decide) _ _ _ rfl (hown.alloc _) ⟨wr.heap.size, 0, none⟩ 1 1 [.int .i64 (f : Int), .int .i64 (i : Int)] rfl rfl ?c1 ?c2 ?c3 ?c4 ?c5 ?_)
          case c1 => exact new_add _ _ _
          case c2 => simp [Value.oneCell']
          case c3 => unfold maxLen; omega
          case c4 => omega
          case c5 => simp only [World.size_alloc]; have := hb.out.size; omega
          intro v' w2 hown' hgrow hne
          have HB2 : Hid (Below w.heap.size w w2) := Lib.hid ((hb.out.alloc hb.out.size _).grown hgrow (by simp only [World.size_alloc]; have := hb.out.size; omega) (fun j ej => (World.ownsRow.lt hown j ej).1))
          have hr2 : rcells l ++ [Value.int .i64 (f : Int), .int .i64 (i : Int)] = rcells (l ++ [(f, i)]) := by
            rw [rcells_snoc]
            rfl
          rw [hr2] at hown'
          have HO2 := Lib.hid hown'
          clear hr2 hown' hgrow hne hown
          go_wp2_with fail
          go_roundw
          case rel => exact ⟨i + 1, i + 1, n + 1, l ++ [(f, i)], by omega, by omega, by omega, by go_num, by go_num, Lib.hid (by rw [List.length_append, hlen.out]; rfl), HO2.out, HB2, Lib.hid (by first | exact HR2.out | (rw [List.append_assoc]; exact HR2.out))⟩
          case measure => simp [intOf]; omega
        · have e13 : ((x.toNat : Int) == 13) = false := by
            have : x.toNat ≠ 13 := fun e => h13 (UInt8.toNat_inj.1 (by rw [e]; rfl))
            simp only [beq_eq_false_iff_ne, ne_eq]; omega
          have hie : isEnd x = false := by simp [isEnd, h10, h13]
          have hr := HR.out
          rw [if_neg (fun y => h10 y.1), hie, if_neg (by simp)] at hr
          have HR2 := Lib.hid hr
          clear hr HR HPB hie h10 h13
          go_wp2_with fail
          go_roundw
          case rel => exact ⟨i + 1, f, n, l, by omega, by omega, by omega, by go_num, by go_num, Lib.hid (hlen.out), hown, hb, Lib.hid (by first | exact HR2.out | (rw [List.append_assoc]; exact HR2.out))⟩
          case measure => simp [intOf]; omega
    · have hr := hl.out
      rw [rest_end s i hlt, rowsD] at hr
      obtain rfl : i = s.size := by omega
      have HR2 := Lib.hid hr
      clear hr hl
      go_wp2_with (at_builtin; refine wpList_append_own _ rfl _ _ 24 rfl w.heap.size 30 i0 (.agg #[.int .i64 0, .int .i64 0]) 2 16 Try.underlying24 hi hz0 hz1 hz2 rfl (by decide) _ _ _ rfl (hown.alloc _) ⟨wr.heap.size, 0, none⟩ 1 1 [.int .i64 (f : Int), .int .i64 (s.size : Int)] rfl rfl ?c1 ?c2 ?c3 ?c4 ?c5 ?_)
      case c1 => exact new_add _ _ _
      case c2 => simp [Value.oneCell']
      case c3 => unfold maxLen; omega
      case c4 => omega
      case c5 => simp only [World.size_alloc]; have := hb.out.size; omega
      intro v' w2 hown' hgrow hne
      have HB2 : Hid (Below w.heap.size w w2) := Lib.hid ((hb.out.alloc hb.out.size _).grown hgrow (by simp only [World.size_alloc]; have := hb.out.size; omega) (fun j ej => (World.ownsRow.lt hown j ej).1))
      have hr2 : rcells l ++ [Value.int .i64 (f : Int), .int .i64 (s.size : Int)] = rcells (l ++ [(f, s.size)]) := by
        rw [rcells_snoc]
        rfl
      rw [hr2] at hown'
      have HO2 := Lib.hid hown'
      clear hr2 hown' hgrow hne hown
      go_wp2_with fail
      obtain ⟨A, c, rfl⟩ := slice_form HO2.out
      go_ret
      exact ⟨_, rfl, by rw [← HR2.out, List.length_append, hlen.out]; exact HO2.out, HB2.out⟩
end Go.Proofs.Ytnmbclkpncjebaa
