/-
  strings.EqualFold AT EVERY TEXT s AND EVERY TEXT t OF LETTERS AND MARKS OF ASCII that are one another's only kin. No memory that was there turns. Condition: what unicode.asciiFold holds (Facts).
-/
import Derived.Test.YtmaihiklcdidbaaDoorShelf
import Derived.Test.YtmaihiklcdidbaaDoorUtf
import Derived.Test.YtmaihiklcdidbaaDoorKit
import Derived.ScopeJumps
import Derived.Scope
namespace Go.Proofs.YtmaihiklcdidbaaDoor
open Go.RowKit

/-- What unicode.asciiFold holds. -/
def foldT (i : Nat) : Nat := if 65 ≤ i ∧ i ≤ 90 then i + 32 else if 97 ≤ i ∧ i ≤ 122 then (if i = 107 then 8490 else if i = 115 then 383 else i - 32) else i
structure Facts (W : World) : Prop where
  max : ∃ m, W.cell? ⟨0, 0, none⟩ = some (.int .i64 m)
  syn : ∃ ev, W.cell? ⟨5, 0, none⟩ = some ev ∧ (ev = .nilIface ∨ ∃ te pe, ev = .iface te pe)
  fold : ∀ i, i < 128 → W.cell? ⟨2, i, none⟩ = some (.int .u16 (foldT i : Nat))
  pow : Lib.TabIs Tryd.prog W "internal/strconv.uint64pow10" .u64 Lib.pow10Tab
theorem cell_keep {W W' : World} {a i : Nat} {v : Value} (hb : Below W.heap.size W W') (h : W.cell? ⟨a, i, none⟩ = some v) : W'.cell? ⟨a, i, none⟩ = some v := by
  have hlt : a < W.heap.size := by
    rcases Nat.lt_or_ge a W.heap.size with h' | h'
    · exact h'
    · simp [World.cell?, Array.getElem?_eq_none h'] at h
  rw [hb.cell (p := ⟨a, i, none⟩) hlt]; exact h
/-- A letter or mark with at most one kin, of ASCII. -/
def OkF (c : UInt8) : Prop := c.toNat < 128 ∧ foldT c.toNat < 128 ∧ foldT (foldT c.toNat) = c.toNat
theorem foldEq_big {x y : UInt8} (hx : 128 ≤ x.toNat) (hy : y.toNat < 128) : Lib.foldEq x y = false := by
  unfold Lib.foldEq
  simp only [decide_eq_false_iff_not]
  omega
set_option maxRecDepth 100000 in
set_option maxHeartbeats 1000000 in
theorem simpleFold_any (x : Nat) (hx : x < 128) (w : World) (hF : Facts w) : Calls Tryd.prog 71 #[.int .i32 x] w fun e w' => e = .returned (.int .i32 (foldT x : Nat)) ∧ w = w' := by
  have hc := hF.fold x hx
  have hf : foldT x ≤ 8490 := by
    unfold foldT
    repeat' split
    all_goals omega
  generalize foldT x = y at *
  clear hF
  have i0 : ¬ ((x : Int) < 0) := by omega
  have i1 : ¬ ((1114111 : Int) < x) := by omega
  have i2 : (x : Int) < 128 := by omega
  go_enter Tryd.func71, Tryd.ntmps71
  go_wp2_with fail
  go_ret
  exact ⟨rfl, rfl⟩

set_option maxRecDepth 100000 in
set_option maxHeartbeats 1000000 in
theorem decAscii_any (t : ByteArray) (y : UInt8) (hy : t.data.toList[0]? = some y) (hy1 : y.toNat < 128) (w : World) : Calls Tryd.prog 70 #[.string t] w fun e w' => e = .returned (.tuple #[.int .i32 (y.toNat : Nat), .int .i64 1]) ∧ w = w' := by
  have h0 : 0 < t.size := by
    have := (List.getElem?_eq_some_iff.1 hy).1
    rw [← Lib.size_eq] at this
    exact this
  have h1 : t[0] = y := by
    have h2 := Lib.data_getElem? t 0 h0
    rw [hy] at h2
    injection h2 with h2
    exact h2.symm
  subst h1
  have hemp : t.toList.isEmpty = false := by
    rw [Lib.toList_data]
    cases hl : t.data.toList with
    | nil => exfalso; rw [Lib.size_eq, hl] at h0; simp at h0
    | cons a l => rfl
  have i1 : ((t[0].toNat : Nat) : Int) < 128 := by omega
  go_enter Tryd.func70, Tryd.ntmps70
  go_wp2_with fail
  go_ret2
  exact ⟨rfl, rfl⟩
/-- Where the way by points begins: the texts are not the same. -/
def JumpF (s t : ByteArray) (i : Nat) : Prop := Lib.equalFold s.data.toList t.data.toList = false ∧ ∃ x, s.data.toList[i]? = some x ∧ 128 ≤ x.toNat
def JF (s t : ByteArray) (w : World) : Act → World → Prop := fun a' w' => w' = w ∧ ∃ (i : Nat) (u : Nat → Value), a' = { tmps := List.toArray (.string s :: .string t :: u 2 :: u 3 :: u 4 :: .int .i64 i :: u 6 :: u 7 :: u 8 :: u 9 :: u 10 :: u 11 :: u 12 :: u 13 :: u 14 :: u 15 :: u 16 :: u 17 :: u 18 :: u 19 :: u 20 :: u 21 :: u 22 :: u 23 :: u 24 :: u 25 :: u 26 :: u 27 :: u 28 :: u 29 :: u 30 :: u 31 :: u 32 :: u 33 :: u 34 :: u 35 :: u 36 :: u 37 :: u 38 :: u 39 :: u 40 :: u 41 :: u 42 :: u 43 :: u 44 :: u 45 :: u 46 :: u 47 :: u 48 :: u 49 :: u 50 :: u 51 :: u 52 :: u 53 :: u 54 :: u 55 :: u 56 :: u 57 :: u 58 :: u 59 :: u 60 :: u 61 :: u 62 :: u 63 :: u 64 :: u 65 :: u 66 :: u 67 :: u 68 :: u 69 :: u 70 :: u 71 :: u 72 :: u 73 :: u 74 :: u 75 :: u 76 :: u 77 :: u 78 :: u 79 :: u 80 :: u 81 :: u 82 :: u 83 :: u 84 :: u 85 :: u 86 :: u 87 :: u 88 :: u 89 :: u 90 :: u 91 :: u 92 :: u 93 :: u 94 :: u 95 :: u 96 :: u 97 :: u 98 :: u 99 :: u 100 :: u 101 :: u 102 :: u 103 :: u 104 :: u 105 :: u 106 :: u 107 :: u 108 :: u 109 :: u 110 :: u 111 :: u 112 :: u 113 :: u 114 :: u 115 :: u 116 :: u 117 :: u 118 :: u 119 :: u 120 :: u 121 :: u 122 :: []), defers := [] } ∧ i < s.size ∧ i < t.size ∧ JumpF s t i
theorem jf_mk {s t : ByteArray} {w : World} {T : Array Value} {i : Nat} (ha : T = (fun (u : Nat → Value) => List.toArray (Value.string s :: Value.string t :: u 2 :: u 3 :: u 4 :: Value.int .i64 i :: u 6 :: u 7 :: u 8 :: u 9 :: u 10 :: u 11 :: u 12 :: u 13 :: u 14 :: u 15 :: u 16 :: u 17 :: u 18 :: u 19 :: u 20 :: u 21 :: u 22 :: u 23 :: u 24 :: u 25 :: u 26 :: u 27 :: u 28 :: u 29 :: u 30 :: u 31 :: u 32 :: u 33 :: u 34 :: u 35 :: u 36 :: u 37 :: u 38 :: u 39 :: u 40 :: u 41 :: u 42 :: u 43 :: u 44 :: u 45 :: u 46 :: u 47 :: u 48 :: u 49 :: u 50 :: u 51 :: u 52 :: u 53 :: u 54 :: u 55 :: u 56 :: u 57 :: u 58 :: u 59 :: u 60 :: u 61 :: u 62 :: u 63 :: u 64 :: u 65 :: u 66 :: u 67 :: u 68 :: u 69 :: u 70 :: u 71 :: u 72 :: u 73 :: u 74 :: u 75 :: u 76 :: u 77 :: u 78 :: u 79 :: u 80 :: u 81 :: u 82 :: u 83 :: u 84 :: u 85 :: u 86 :: u 87 :: u 88 :: u 89 :: u 90 :: u 91 :: u 92 :: u 93 :: u 94 :: u 95 :: u 96 :: u 97 :: u 98 :: u 99 :: u 100 :: u 101 :: u 102 :: u 103 :: u 104 :: u 105 :: u 106 :: u 107 :: u 108 :: u 109 :: u 110 :: u 111 :: u 112 :: u 113 :: u 114 :: u 115 :: u 116 :: u 117 :: u 118 :: u 119 :: u 120 :: u 121 :: u 122 :: [])) (fun k => T.getD k undef)) (h1 : i < s.size) (h2 : i < t.size) (hj : JumpF s t i) : JF s t w { tmps := T, defers := [] } w := ⟨rfl, i, fun k => T.getD k undef, congrArg (fun T => ({ tmps := T, defers := [] } : Act)) ha, h1, h2, hj⟩
theorem below_iter (w : World) (s : ByteArray) (pos : Nat) : Below w.heap.size w (w.iter s pos) := (Below.refl _ _).alloc (Nat.le_refl _) _
theorem tab_below {W W' : World} {nm : String} {k : IntKind} {l : List Int} (h : Lib.TabIs Tryd.prog W nm k l) (hb : Below W.heap.size W W') : Lib.TabIs Tryd.prog W' nm k l := by
  unfold Lib.TabIs World.var? at h ⊢
  cases hg : Tryd.prog.globalNamed nm with
  | none => rw [hg] at h; cases h
  | some g =>
    rw [hg] at h
    simp only [Option.bind_some] at h ⊢
    have hlt : g < W.heap.size := by
      rcases Nat.lt_or_ge g W.heap.size with h' | h'
      · exact h'
      · simp [Array.getElem?_eq_none h'] at h
    rw [hb.block g hlt]
    exact h
theorem ext_list (s : ByteArray) (a b : Nat) : (s.extract a b).data.toList = (s.data.toList.drop a).take (b - a) := by
  rw [ByteArray.data_extract, Array.toList_extract, List.extract_eq_take_drop]
theorem decode_big (s : ByteArray) (x : UInt8) (h : s.data.toList[0]? = some x) (hx : 128 ≤ x.toNat) : 128 ≤ (Utf8.decode s 0).1 := by
  rw [decode_pt]
  split
  · decide
  · rename_i hp
    have e : pt (s.data.toList.drop 0) = (decN (nth s.data.toList 0) (nth s.data.toList 1) (nth s.data.toList 2) (nth s.data.toList 3)).1 := rfl
    have e0 : nth s.data.toList 0 = x.toNat := by unfold nth; rw [List.getD_eq_getElem?_getD, h]; rfl
    have hb : x.toNat < 256 := x.toNat_lt
    rw [e, e0] at hp ⊢
    revert hp
    unfold decN
    repeat' split
    all_goals (intro hp; simp only at hp ⊢; omega)
theorem Facts.below {W W' : World} (h : Facts W) (hb : Below W.heap.size W W') : Facts W' :=
  ⟨by obtain ⟨m, hm⟩ := h.max; exact ⟨m, cell_keep hb hm⟩, by obtain ⟨ev, h1, h2⟩ := h.syn; exact ⟨ev, cell_keep hb h1, h2⟩, fun i hi => cell_keep hb (h.fold i hi), tab_below h.pow hb⟩
set_option maxRecDepth 100000 in
set_option maxHeartbeats 8000000 in
theorem fold_any (s t : ByteArray) (hs : s.size < 4294967281) (ht : ∀ (j : Nat) b, t.data.toList[j]? = some b → OkF b) (w : World) (hF : Facts w) :
    Calls Tryd.prog 54 #[.string s, .string t] w fun e w' => e = .returned (.bool (Lib.equalFold s.data.toList t.data.toList)) ∧ Below w.heap.size w w' := by
  have HT : Hid (∀ (j : Nat) b, t.data.toList[j]? = some b → OkF b) := Lib.hid ht
  have HF := Lib.hid hF
  clear ht hF
  obtain ⟨M, hM⟩ : ∃ M : Nat, min (s.size : Int) (t.size : Int) = (M : Int) := ⟨min s.size t.size, by omega⟩
  have hMs : M ≤ s.size := by omega
  have hMt : M ≤ t.size := by omega
  have hMe : M = s.size ∨ M = t.size := by omega
  go_enter Tryd.func54, Tryd.ntmps54
  go_wp2
  refine wp_scope_jumps 0 (JF s t w) (fun _ _ => 0) rfl ?_ ?_
  · go_wp2
    go_loopg [5] M (fun g s5 wx => w = wx ∧ ∃ i : Nat, i + g = M ∧ s5 = .int .i64 i ∧ Hid (Lib.equalFold (s.data.toList.drop i) (t.data.toList.drop i) = Lib.equalFold s.data.toList t.data.toList))
    case atStart => exact ⟨rfl, 0, by omega, rfl, Lib.hid rfl⟩
    case round =>
      obtain ⟨rfl, i, hig, rfl, HI⟩ := hrel
      clear hM
      cases gk with
      | zero =>
        have hiM : ¬ ((i : Int) < (M : Int)) := by omega
        obtain rfl : i = M := by omega
        have hE : Lib.equalFold s.data.toList t.data.toList = decide (s.size = t.size) := by
          rw [← HI.out, Lib.equalFold_end _ _ (by
            rcases hMe with h | h
            · exact Or.inl (List.drop_eq_nil_of_le (by rw [← Lib.size_eq]; omega))
            · exact Or.inr (List.drop_eq_nil_of_le (by rw [← Lib.size_eq]; omega))), List.length_drop, List.length_drop, ← Lib.size_eq, ← Lib.size_eq]
          exact decide_eq_decide.2 (by omega)
        by_cases hst : s.size = t.size
        · have hb : ((s.size : Int) == (t.size : Int)) = true := beq_iff_eq.2 (by omega)
          go_wp2
          simp only [Exit.jump]
          go_ret
          exact ⟨by rw [hE]; simp [hst], Below.refl _ _⟩
        · have hb : ((s.size : Int) == (t.size : Int)) = false := beq_eq_false_iff_ne.2 (by omega)
          go_wp2
          simp only [Exit.jump]
          go_ret
          exact ⟨by rw [hE]; simp [hst], Below.refl _ _⟩
      | succ g =>
        have hiM : (i : Int) < (M : Int) := by omega
        have hisz : (i : Int) < (s.size : Int) := by omega
        have hitz : (i : Int) < (t.size : Int) := by omega
        obtain ⟨x, hx⟩ : ∃ x : UInt8, s[i]'(by omega) = x := ⟨_, rfl⟩
        obtain ⟨y, hy⟩ : ∃ y : UInt8, t[i]'(by omega) = y := ⟨_, rfl⟩
        have hxl : s.data.toList[i]? = some x := by rw [← hx]; exact Lib.data_getElem? s i (by omega)
        have hyl : t.data.toList[i]? = some y := by rw [← hy]; exact Lib.data_getElem? t i (by omega)
        have hy128 : y.toNat < 128 := (HT.out i y hyl).1
        have hx256 : x.toNat < 256 := x.toNat_lt
        have hor : bits .or .u8 (x.toNat : Int) (y.toNat : Int) = ((x.toNat ||| y.toNat : Nat) : Int) := u8_or_nat _ _ (by omega) (by omega)
        have Hx : Hid (s.data.toList[i]? = some x ∧ t.data.toList[i]? = some y) := Lib.hid ⟨hxl, hyl⟩
        clear hxl hyl
        by_cases hx128 : x.toNat < 128
        · have hor128 : ¬ ((128 : Int) ≤ ((x.toNat ||| y.toNat : Nat) : Int)) := by have := Nat.or_lt_two_pow (n := 7) hx128 hy128; omega
          go_wp2
          all_goals (try simp only [beq_iff_eq, beq_eq_false_iff_ne, ne_eq] at *)
          all_goals first
            | (go_roundg g
               case measure => omega
               case rel => exact ⟨rfl, i + 1, by omega, by first | rfl | simp, Lib.hid (by rw [← HI.out, Lib.drop_at Hx.out.1, Lib.drop_at Hx.out.2, Lib.equalFold_yes _ _ _ _ (decide_eq_true (by omega))])⟩)
            | (simp only [Exit.jump]
               go_ret
               refine ⟨?_, Below.refl _ _⟩
               rw [← HI.out, Lib.drop_at Hx.out.1, Lib.drop_at Hx.out.2, Lib.equalFold_no _ _ _ _ (decide_eq_false (by omega))]
               rfl)
        · have hor128 : (128 : Int) ≤ ((x.toNat ||| y.toNat : Nat) : Int) := by have := @Nat.left_le_or x.toNat y.toNat; omega
          have HN : Hid (JumpF s t i) := Lib.hid ⟨by rw [← HI.out, Lib.drop_at Hx.out.1, Lib.drop_at Hx.out.2, Lib.equalFold_no _ _ _ _ (foldEq_big (by omega) hy128)], x, Hx.out.1, by omega⟩
          go_wp2
          go_step3
          exact ⟨rfl, jf_mk rfl (by omega) (by omega) HN.out⟩
  · rintro a' w' ⟨rfl, i, u, rfl, hi1, hi2, hj⟩
    have HJ := Lib.hid hj
    clear hj
    have hi1' : (i : Int) < (s.size : Int) := by omega
    have hi2' : (i : Int) < (t.size : Int) := by omega
    obtain ⟨hne, x, hx, hxb⟩ := HJ.out
    have HN := Lib.hid hne
    clear hne HJ
    have hsz : (s.extract i s.size).size = s.size - i := by rw [ByteArray.size_extract]; omega
    have htz : (t.extract i t.size).size = t.size - i := by rw [ByteArray.size_extract]; omega
    have hs0 : (s.extract i s.size).data.toList[0]? = some x := by
      rw [ext_list]
      rw [List.getElem?_take_of_lt (by omega), List.getElem?_drop]
      exact hx
    obtain ⟨y, hy⟩ : ∃ y : UInt8, t[i]'(by omega) = y := ⟨_, rfl⟩
    have hyl : t.data.toList[i]? = some y := by rw [← hy]; exact Lib.data_getElem? t i (by omega)
    have hyk := HT.out i y hyl
    have HD : Hid (∀ w, Calls Tryd.prog 70 #[.string (t.extract i t.size)] w fun e w' => e = .returned (.tuple #[.int .i32 (y.toNat : Nat), .int .i64 1]) ∧ w = w') := Lib.hid (fun w => decAscii_any _ y (by rw [ext_list, List.getElem?_take_of_lt (by omega), List.getElem?_drop]; exact hyl) hyk.1 w)
    have hdc := decode_big (s.extract i s.size) x hs0 hxb
    have hle1 : (0 : Int) ≤ i := by omega
    go_wp2_with fail
    generalize s.extract i s.size = S at *
    generalize t.extract i t.size = T at *
    have HW := Lib.hid (World.iter_heap w' S 0)
    have HB := Lib.hid (below_iter w' S 0)
    have HF1 := Lib.hid (HF.out.below HB.out)
    generalize w'.iter S 0 = W1 at *
    go_loopw [1] (fun v1 wr => v1 = .string T ∧ wr = W1) (fun _ _ => 1)
    case atStart => exact ⟨rfl, rfl⟩
    case round =>
      obtain ⟨rfl, rfl⟩ := hrel
      have hp : 0 < S.size := by omega
      have hnx : ∀ ty, (Instr.next (.pointer (some ⟨w'.heap.size, 0, none⟩)) true ty).run Tryd.prog wr = _ := fun ty => Lib.run_next_any_at wr w'.heap.size S 0 ty HW.out hp
      generalize (Utf8.decode S 0).1 = r at *
      generalize (Utf8.decode S 0).2 = k at *
      have hr : 128 ≤ r := hdc
      clear hs0 hx hyl
      have hy1 := hyk.1
      have hz1 := hyk.2.1
      have hz2 := hyk.2.2
      have HS : Hid (∀ w, Facts w → Calls Tryd.prog 71 #[.int .i32 (y.toNat : Nat)] w fun e w' => e = .returned (.int .i32 (foldT y.toNat : Nat)) ∧ w = w') := Lib.hid (fun w hF => simpleFold_any y.toNat hyk.1 w hF)
      have HS2 : Hid (∀ w, Facts w → Calls Tryd.prog 71 #[.int .i32 (foldT y.toNat : Nat)] w fun e w' => e = .returned (.int .i32 (y.toNat : Nat)) ∧ w = w') := Lib.hid (fun w hF => by have := simpleFold_any (foldT y.toNat) hz1 w hF; rw [hz2] at this; exact this)
      clear hyk hz2 hdc
      generalize foldT y.toNat = z at *
      generalize y.toNat = y0 at *
      have q1 : ((y0 : Int) == (r : Int)) = false := by simp only [beq_eq_false_iff_ne, ne_eq]; omega
      have q2 : (y0 : Int) < (r : Int) := by omega
      have q3 : ¬ ((r : Int) < 128) := by omega
      have q4 : ((T.size : Int) == 0) = false := by simp only [beq_eq_false_iff_ne, ne_eq]; omega
      go_wp2_with fail
      refine (HD.out _).mono ?_
      rintro e w1 ⟨rfl, rfl⟩
      go_wp2_with fail
      have HB2 := Lib.hid (Lib.below_iterAt HB.out (Nat.le_refl _) S k)
      have HF2 := Lib.hid (HF.out.below HB2.out)
      generalize wr.iterAt w'.heap.size S k = W2 at *
      refine (HS.out _ HF2.out).mono ?_
      rintro e w1 ⟨rfl, rfl⟩
      go_wp2_with fail
      go_loop [13] (fun v => ∃ b : Bool, v = .int .i32 ((if b then y0 else z : Nat) : Int)) (fun v => if intOf v = (y0 : Int) then 0 else 1)
      case atStart => exact ⟨false, rfl⟩
      case round =>
        obtain ⟨b, rfl⟩ := hrel
        obtain ⟨v, hv⟩ : ∃ v, (if b = true then y0 else z : Nat) = v := ⟨_, rfl⟩
        rw [hv]
        by_cases he : v = y0
        · clear hv
          subst he
          have e1 : ((v : Int) != (v : Int)) = false := by simp
          go_wp2_with fail
          simp only [Exit.jump]
          go_ret
          exact ⟨by rw [HN.out]; rfl, HB2.out⟩
        · obtain rfl : z = v := by
            cases b with
            | true => exact absurd hv.symm he
            | false => exact hv
          clear hv
          have e1 : ((z : Int) != (y0 : Int)) = true := by simp; omega
          have e2 : (z : Int) < (r : Int) := by omega
          go_wp2_with fail
          refine (HS2.out _ HF2.out).mono ?_
          rintro e w1 ⟨rfl, rfl⟩
          go_wp2_with fail
          go_round
          case rel => exact ⟨true, rfl⟩
          case measure =>
            show (if ((y0 : Nat) : Int) = (y0 : Int) then 0 else 1) < (if ((z : Nat) : Int) = (y0 : Int) then 0 else 1)
            rw [if_pos rfl, if_neg (by omega)]
            decide
end Go.Proofs.YtmaihiklcdidbaaDoor
