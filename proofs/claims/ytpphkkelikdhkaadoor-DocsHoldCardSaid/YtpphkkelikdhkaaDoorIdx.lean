/-
  strings.IndexAny AND strings.ContainsAny OF A LINE'S END (13 or 10) AT EVERY TEXT of at most 1000000 bytes, points or none: where the first such byte stands; no memory that was there turns. Condition: the text's length.
-/
import Derived.Test.YtpphkkelikdhkaaDoorUnits
import Derived.Test.YtpphkkelikdhkaaDoorShelf
import Derived.Test.YtpphkkelikdhkaaDoorLrow
import Derived.Lib.OthersKept
import Derived.Lib.IndexBytes
import Derived.Laws.Runes
import Derived.WalkMore
import Derived.Deep.QuietTactic
import Derived.BigQuiet
namespace Go.Proofs.YtpphkkelikdhkaaDoor
open Go.RowKit

/-- Where the first byte of a line's end stands, or -1. -/
def idxV (l : List UInt8) : Int := if endI l < l.length then endI l else -1
theorem contains_end (c : UInt8) : ([13, 10] : List UInt8).contains c = isEnd c := by
  unfold isEnd
  simp only [List.contains_cons, List.contains_nil, Bool.or_false]
  exact Bool.or_comm _ _
theorem noAny_take {l : List UInt8} {i : Nat} (h : Lib.NoAny l [13, 10] i) : ∀ c ∈ l.take i, isEnd c = false := by
  intro c hc
  obtain ⟨j, hj, rfl⟩ := List.mem_iff_getElem.1 hc
  rw [List.length_take] at hj
  have := h j _ (by omega) (List.getElem?_eq_getElem (show j < l.length by omega))
  rw [contains_end] at this
  rw [List.getElem_take]
  exact this
theorem idxV_none {l : List UInt8} (h : Lib.NoAny l [13, 10] l.length) : idxV l = -1 := by
  have h1 := noAny_take h
  rw [List.take_length] at h1
  unfold idxV
  rw [endI_none l h1, if_neg (by omega)]
theorem idxV_hit {l : List UInt8} {i : Nat} (h : Lib.NoAny l [13, 10] i) (hi : i < l.length) (hc : isEnd l[i] = true) : idxV l = i := by
  have h1 := noAny_take h
  have hl : (l.take i).length = i := by rw [List.length_take]; omega
  have e : endI l = i := by
    have : l = l.take i ++ (l[i] :: l.drop (i + 1)) := by rw [← List.drop_eq_getElem_cons hi, List.take_append_drop]
    rw [this, endI_append _ _ h1, hl, endI_cons_true _ _ hc]
    rfl
  unfold idxV
  rw [e, if_pos hi]
theorem idxV_any (l : List UInt8) : Lib.indexAny l [13, 10] = idxV l := by
  induction l with
  | nil => rfl
  | cons c t ih =>
    have h1 := endI_le t
    rw [Lib.indexAny, contains_end, ih]
    unfold idxV
    have e : endI (c :: t) = if isEnd c then 0 else endI t + 1 := by
      unfold endI
      rw [List.findIdx_cons]
      cases isEnd c <;> rfl
    rw [e, List.length_cons]
    by_cases hc : isEnd c = true
    · rw [if_pos hc, if_pos hc, if_pos (by omega)]
      rfl
    · rw [if_neg hc, if_neg hc]
      by_cases ht : endI t < t.length
      · rw [if_pos ht, if_pos (show endI t + 1 < t.length + 1 by omega), if_neg (by simp <;> omega)]
        omega
      · rw [if_neg ht, if_neg (show ¬ endI t + 1 < t.length + 1 by omega)]
        rfl
theorem decN_high (a b c d : Nat) (h : 128 ≤ a) (hp : 0 ≤ (decN a b c d).1) : 128 ≤ (decN a b c d).1 := by
  revert hp
  unfold decN
  rw [if_neg (by omega)]
  repeat' split
  all_goals first | (intro _; simp only; omega) | (intro x; simp at x)
theorem piece_high (l : List UInt8) (h : 128 ≤ nth l 0) (j : Nat) (hj : j < wd l) : 128 ≤ nth l j := by
  have h4 := wd_le4 l
  obtain ⟨h1, h2, h3⟩ := decN_wide (nth l 0) (nth l 1) (nth l 2) (nth l 3)
  have hw : (decN (nth l 0) (nth l 1) (nth l 2) (nth l 3)).2 = wd l := rfl
  rw [hw] at h1 h2 h3
  match j, hj with
  | 0, _ => exact h
  | 1, hj => have := h1 (by omega); omega
  | 2, hj => have := h2 (by omega); omega
  | 3, hj => have := h3 (by omega); omega
  | j + 4, hj => omega
/-- Which of 13, 10 a point is. -/
def hitV (r : Int) : Int := if r = 13 then 0 else if r = 10 then 1 else -1
theorem hitV_index (c : UInt8) : Lib.indexByte [13, 10] c = hitV c.toNat := by
  unfold hitV
  by_cases h1 : c = 13
  · subst h1; rfl
  · by_cases h2 : c = 10
    · subst h2; rfl
    · have e1 : ¬ ((c.toNat : Int) = 13) := fun e => h1 (UInt8.toNat_inj.1 (by show c.toNat = 13; omega))
      have e2 : ¬ ((c.toNat : Int) = 10) := fun e => h2 (UInt8.toNat_inj.1 (by show c.toNat = 10; omega))
      rw [if_neg e1, if_neg e2]
      simp [Lib.indexByte, Ne.symm h1, Ne.symm h2]
theorem hit_end {r : Int} {c : UInt8} (h : 0 ≤ hitV r) (e : r = (c.toNat : Int)) : isEnd c = true := by
  rw [e, ← hitV_index] at h
  by_cases h1 : c = 13
  · subst h1; rfl
  · by_cases h2 : c = 10
    · subst h2; rfl
    · rw [hitV_index] at h
      unfold hitV at h
      have e1 : ¬ ((c.toNat : Int) = 13) := fun e => h1 (UInt8.toNat_inj.1 (by show c.toNat = 13; omega))
      have e2 : ¬ ((c.toNat : Int) = 10) := fun e => h2 (UInt8.toNat_inj.1 (by show c.toNat = 10; omega))
      rw [if_neg e1, if_neg e2] at h
      exact absurd h (by decide)
theorem miss_end {r : Int} {c : UInt8} (h : ¬ 0 ≤ hitV r) (e : r = (c.toNat : Int)) : isEnd c = false := by
  by_cases h1 : c = 13
  · subst h1 e; exact absurd (by decide) h
  · by_cases h2 : c = 10
    · subst h2 e; exact absurd (by decide) h
    · simp [isEnd, h1, h2]
theorem hitV_far (r : Int) (h : 128 ≤ r) : hitV r = -1 := by unfold hitV; rw [if_neg (by omega), if_neg (by omega)]
theorem quiet1 {P : Program} {f : FuncId} {args : Array Value} {w : World} {n : Nat} {v : Value} (h : Calls P f args (w.drewN (1 + n)) fun e w' => e = .returned v ∧ w' = w.drewN (1 + n)) :
    Calls P f args (w.drewN (1 + n)) fun e w'' => e = .returned v ∧ ∃ m, w'' = w.drewN (1 + m) := h.mono fun _ _ ⟨he, hm⟩ => ⟨he, n, hm⟩
set_option maxRecDepth 100000 in
set_option maxHeartbeats 2000000 in
theorem indexRune_any (r : Int) (h0 : 0 ≤ r) (h1 : r ≤ 1114111) (w : World) : Calls Tryd.prog 101 #[.string ⟨#[13, 10]⟩, .int .i32 r] w fun e w' => e = .returned (.int .i64 (hitV r)) ∧ Below w.heap.size w w' := by
  by_cases ha : r < 128
  · refine (Tryd.strings_IndexRune_ascii ⟨#[13, 10]⟩ r w h0 ha).mono ?_
    rintro e w' ⟨rfl, rfl⟩
    refine ⟨ret_i64 ?_, Below.refl _ _⟩
    rw [show ((⟨#[13, 10]⟩ : ByteArray).data.toList) = [13, 10] from rfl, hitV_index]
    congr 1
    simp
    omega
  rw [hitV_far r (by omega)]
  by_cases hf : r = 65533
  · subst hf
    clear ha h0 h1
    go_enter Tryd.func101, Tryd.ntmps101
    go_wp2_with fail
    go_loopw [] (fun wr => ∃ pos : Nat, wr = w.iter ⟨#[13, 10]⟩ pos ∧ pos ≤ 2) (fun wr => 2 - wr.iterPos w.heap.size)
    case atStart => exact ⟨0, rfl, by omega⟩
    case round =>
      obtain ⟨pos, rfl, hp⟩ := hrel
      match pos, hp with
      | 0, _ =>
        have hnx := fun ty => run_next_ascii (P := Tryd.prog) w ⟨#[13, 10]⟩ 0 ty (by decide) (by decide)
        have e0 : ((⟨#[13, 10]⟩ : ByteArray)[0]'(by decide)).toNat = 13 := rfl
        rw [e0] at hnx
        clear e0
        go_wp2
        go_roundw
        case rel => exact ⟨1, rfl, by omega⟩
        case measure => simp
      | 1, _ =>
        have hnx := fun ty => run_next_ascii (P := Tryd.prog) w ⟨#[13, 10]⟩ 1 ty (by decide) (by decide)
        have e0 : ((⟨#[13, 10]⟩ : ByteArray)[1]'(by decide)).toNat = 10 := rfl
        rw [e0] at hnx
        clear e0
        go_wp2
        go_roundw
        case rel => exact ⟨2, rfl, by omega⟩
        case measure => simp
      | 2, _ =>
        have hnx := fun ty => run_next_end (P := Tryd.prog) w ⟨#[13, 10]⟩ 2 ty (by decide)
        go_wp2
        go_ret
        exact ⟨rfl, below_iter _ _ _⟩
      | k + 3, hp => omega
  · have HV := Lib.hid (fun w => Tryd.utf8_ValidRune r w)
    have b1 : decide (r < 128) = false := by simp; omega
    have b2 : (r == 65533) = false := by simpa using hf
    cases hv : Lib.validRune r with
    | false =>
      rw [hv] at HV
      clear hv hf ha
      go_enter Tryd.func101, Tryd.ntmps101
      go_wp2_with fail
      refine (HV.out _).mono ?_
      rintro e w' ⟨rfl, rfl⟩
      go_wp2_with fail
      go_ret
      exact ⟨rfl, Below.refl _ _⟩
    | true =>
      rw [hv] at HV
      have hs : (⟨#[13, 10]⟩ : ByteArray).size = 2 := rfl
      have HB := Lib.hid (fun (z : ByteArray) (c : Int) (w : World) => Tryd.strings_IndexByte z c w)
      obtain ⟨b, hcv, g1, g2, g3⟩ : ∃ b : ByteArray, (∀ W, (convert 21 9 (.int .i32 r)).run Tryd.prog W = .ok (.string b) W) ∧ 2 ≤ b.size ∧ b.size ≤ 4 ∧ ∀ h : b.size - 1 < b.size, 128 ≤ (b[b.size - 1]'h).toNat :=
        ⟨Utf8.encode r, fun W => run_convert_int_string W 21 9 .i32 r (by rw [Tryd.underlying21]; rfl) Tryd.underlying9, encode_facts r ((validRune_eq r).trans hv) (by omega)⟩
      clear hv hf
      obtain ⟨n, hn⟩ : ∃ n, b.size = n := ⟨_, rfl⟩
      by_cases h2 : n = 2
      · subst h2
        have hlt : 1 < b.size := by omega
        have hz : (b[1]'hlt).toNat ≠ 10 := by
          have := g3 (by omega)
          simp only [hn] at this
          intro e
          have h3 : 128 ≤ (b[1]'hlt).toNat := this
          omega
        have hne : (((10 : Int)) == (((b[1]'hlt).toNat : Nat) : Int)) = false := by simp; omega
        generalize hx : (b[1]'hlt).toNat = x at *
        go_enter Tryd.func101, Tryd.ntmps101
        go_wp2_with fail
        refine (HV.out _).mono ?_
        rintro e w' ⟨rfl, rfl⟩
        go_wp2_with fail
        go_step3
        go_wp2_with fail
        go_loopw [9] (fun u wr => u = .int .i64 1 ∧ wr = w') (fun _ _ => 0)
        case atStart => exact ⟨rfl, rfl⟩
        case round =>
          obtain ⟨rfl, rfl⟩ := hrel
          go_wp2_with fail
          go_step3
          go_wp2_with fail
          have hn2 : (((((⟨#[13, 10]⟩ : ByteArray)[1]'(by decide)).toNat : Nat) : Int) != (x : Int)) = true := by
            rw [show (((((⟨#[13, 10]⟩ : ByteArray)[1]'(by decide)).toNat : Nat) : Int)) = 10 from rfl, bne, hne]; rfl
          go_region
          go_wp2_with fail
          have hw2 : IntKind.i64.wrap 2 = 2 := rfl
          have hsl : ∀ W, (Instr.slice 9 (.string ⟨#[13, 10]⟩) (some (.int .i64 2)) none none).run Tryd.prog W = .ok (.string ⟨#[]⟩) W := fun W => by
            rw [run_slice_string_from_if W 9 ⟨#[13, 10]⟩ .i64 2 Tryd.underlying9, if_pos (by decide)]; rfl
          have HB0 : Hid (∀ w, Calls Tryd.prog 105 #[.string ⟨#[]⟩, .int .u8 (x : Int)] w fun e w' => e = .returned (.int .i64 (-1)) ∧ w' = w) := Lib.hid (fun w => HB.out ⟨#[]⟩ x w)
          go_quiet (first | exact quiet1 (HB0.out _))
          go_wp2_with fail
          simp only [Exit.noGoto, Exit.inBlock]
          simp (config := { zetaDelta := true }) only [Exit.noGoto, Exit.inBlock, Exit.then]
          go_ret
          exact ⟨rfl, ⟨rfl, rfl, rfl, Nat.le_refl _, fun _ _ => rfl⟩⟩
      · have h3 : 3 ≤ n := by omega
        have h4 : n ≤ 4 := by omega
        have d1 : decide ((n : Int) - 1 < 2) = false := by simp; omega
        clear g1 g2 g3 h2
        go_enter Tryd.func101, Tryd.ntmps101
        go_wp2_with fail
        refine (HV.out _).mono ?_
        rintro e w' ⟨rfl, rfl⟩
        go_wp2_with fail
        go_step3
        go_wp2_with fail
        go_loopw [9] (fun u wr => u = .int .i64 ((n : Int) - 1) ∧ wr = w') (fun _ _ => 0)
        case atStart => exact ⟨rfl, rfl⟩
        case round =>
          obtain ⟨rfl, rfl⟩ := hrel
          go_wp2_with fail
          simp only [Exit.noGoto, Exit.inBlock]
          go_ret
          exact ⟨rfl, Below.refl _ _⟩
set_option maxRecDepth 100000 in
set_option maxHeartbeats 2000000 in
theorem indexAny_short (s : ByteArray) (h8 : s.size ≤ 8) (w : World) : Calls Tryd.prog 99 #[.string s, .string ⟨#[13, 10]⟩] w fun e w' => e = .returned (.int .i64 (idxV s.data.toList)) ∧ Below w.heap.size w w' := by
  have HS := Lib.hid (fun w => Tryd.strings_shouldUseASCIISet s.size w)
  have hd8 : decide ((8 : Int) < (s.size : Int)) = false := by simp; omega
  rw [hd8] at HS
  have hsl : s.data.toList.length = s.size := rfl
  have HL := Lib.hid hsl
  clear hd8 hsl
  go_enter Tryd.func99, Tryd.ntmps99
  go_wp2_with fail
  refine (HS.out _).mono ?_
  rintro e w' ⟨rfl, hw⟩
  rw [hw]
  clear hw
  go_wp2_with fail
  go_loopw [] (fun wr => ∃ pos : Nat, wr.heap[w.heap.size]? = some (.stringIter s pos) ∧ pos ≤ s.size ∧ Hid (Below w.heap.size w wr) ∧ Hid (Lib.NoAny s.data.toList [13, 10] pos)) (fun wr => s.size - wr.iterPos w.heap.size)
  case atStart => exact ⟨0, World.iter_heap _ _ _, Nat.zero_le _, Lib.hid (below_iter _ _ _), Lib.hid (Lib.NoAny.zero _ _)⟩
  case round =>
    obtain ⟨pos, hit, hps, hb, hno⟩ := hrel
    by_cases hp : pos < s.size
    · have hnx : ∀ ty, (Instr.next (.pointer (some ⟨w.heap.size, 0, none⟩)) true ty).run Tryd.prog wr = _ := fun ty => Lib.run_next_any_at wr w.heap.size s pos ty hit hp
      have hw := rest_wd s pos hp
      have hdw := decode_wd s pos
      have hlow : (Utf8.decode s pos).1 < 1114112 := by
        rw [decode_rest]
        have := pt_le (rest s pos)
        split
        · decide
        · show (pt (rest s pos)).toNat < _
          omega
      have hx0 : nth (rest s pos) 0 = (s[pos]'hp).toNat := by
        unfold nth rest
        rw [List.getD_eq_getElem?_getD, List.getElem?_drop, Nat.add_zero, Array.getElem?_toList, Array.getElem?_eq_getElem (show pos < s.data.size from hp)]
        rfl
      have hrune : (nth (rest s pos) 0 < 128 → (Utf8.decode s pos).1 = nth (rest s pos) 0 ∧ wd (rest s pos) = 1) ∧ (128 ≤ nth (rest s pos) 0 → 128 ≤ (Utf8.decode s pos).1) := by
        rw [decode_rest]
        constructor
        · intro h
          have e : dec (rest s pos) = ((nth (rest s pos) 0 : Int), 1) := by unfold dec decN; rw [if_pos h]
          have e1 : pt (rest s pos) = (nth (rest s pos) 0 : Int) := by unfold pt; rw [e]
          have e2 : wd (rest s pos) = 1 := by unfold wd; rw [e]
          rw [if_neg (by omega), e1, e2]
          exact ⟨Int.toNat_natCast _, rfl⟩
        · intro h
          by_cases hq : pt (rest s pos) < 0
          · rw [if_pos hq]; decide
          · rw [if_neg hq]
            have := decN_high _ (nth (rest s pos) 1) (nth (rest s pos) 2) (nth (rest s pos) 3) h (show 0 ≤ pt (rest s pos) by omega)
            have h3 : 128 ≤ pt (rest s pos) := this
            show 128 ≤ (pt (rest s pos)).toNat
            omega
      have hnext : ∀ j, pos ≤ j → j < pos + wd (rest s pos) → (hj : j < s.size) → 128 ≤ nth (rest s pos) 0 → isEnd (s[j]'hj) = false := by
        intro j h1 h2 hj h128
        have h3 := piece_high (rest s pos) h128 (j - pos) (by omega)
        have h4 : nth (rest s pos) (j - pos) = (s[j]'hj).toNat := by
          unfold nth rest
          rw [List.getD_eq_getElem?_getD, List.getElem?_drop, show pos + (j - pos) = j by omega, Array.getElem?_toList, Array.getElem?_eq_getElem (show j < s.data.size from hj)]
          rfl
        rw [h4] at h3
        unfold isEnd
        rw [Bool.or_eq_false_iff]
        constructor
        · rw [beq_eq_false_iff_ne]; intro e; rw [e] at h3; exact absurd h3 (by decide)
        · rw [beq_eq_false_iff_ne]; intro e; rw [e] at h3; exact absurd h3 (by decide)
      rw [hdw] at hnx
      have hW := Lib.iterAt_heap wr w.heap.size s pos (pos + wd (rest s pos)) hit
      have hB : Below w.heap.size w (wr.iterAt w.heap.size s (pos + wd (rest s pos))) := Lib.below_iterAt hb.out (Nat.le_refl _) s (pos + wd (rest s pos))
      have HR := Lib.hid (fun w => indexRune_any ((Utf8.decode s pos).1 : Int) (by omega) (by omega) w)
      have HN1 : Hid (nth (rest s pos) 0 < 128 → isEnd (s[pos]'hp) = false → Lib.NoAny s.data.toList [13, 10] (pos + wd (rest s pos))) := Lib.hid (fun h he => by
        rw [(hrune.1 h).2]
        exact hno.out.succ (Lib.data_getElem? s pos hp) (by rw [contains_end]; exact he))
      have HN2 : Hid (128 ≤ nth (rest s pos) 0 → Lib.NoAny s.data.toList [13, 10] (pos + wd (rest s pos))) := Lib.hid (fun h j b hj hbj => by
        by_cases hjp : j < pos
        · exact hno.out j b hjp hbj
        · have hjs : j < s.size := by omega
          rw [Lib.data_getElem? s j hjs] at hbj
          injection hbj with hbj
          subst hbj
          rw [contains_end]
          exact hnext j (by omega) hj hjs h)
      have HE : Hid (isEnd (s[pos]'hp) = true → idxV s.data.toList = (pos : Int)) := Lib.hid (fun he => idxV_hit hno.out (show pos < s.data.toList.length from hp) he)
      have HX := Lib.hid hx0
      have HRU := Lib.hid hrune
      clear hnext hno hb hx0 hrune hdw
      generalize wd (rest s pos) = k at *
      generalize (Utf8.decode s pos).1 = r at *
      generalize wr.iterAt w.heap.size s (pos + k) = W at *
      have HW := Lib.hid hW
      have HB := Lib.hid hB
      have HI := Lib.hid hit
      clear hW hB hit
      by_cases hh : 0 ≤ hitV r
      · have hlt : nth (rest s pos) 0 < 128 := by
          rcases Nat.lt_or_ge (nth (rest s pos) 0) 128 with h | h
          · exact h
          · have := HRU.out.2 h
            rw [hitV_far r (by omega)] at hh
            exact absurd hh (by decide)
        have HC := Lib.hid (HE.out (hit_end hh (by rw [(HRU.out.1 hlt).1, HX.out])))
        have d0 : decide (0 ≤ hitV r) = true := decide_eq_true hh
        clear hlt HN1 HN2 HE HRU HX
        go_wp2_with fail
        refine (HR.out _).mono ?_
        rintro e w' ⟨rfl, hb1⟩
        have HB1 := Lib.hid (HB.out.trans (hb1.mono HB.out.size))
        clear hb1
        generalize hitV r = v at *
        go_wp2_with fail
        go_ret
        exact ⟨ret_i64 HC.out.symm, HB1.out⟩
      · have HN : Hid (Lib.NoAny s.data.toList [13, 10] (pos + k)) := by
          rcases Nat.lt_or_ge (nth (rest s pos) 0) 128 with h | h
          · exact Lib.hid (HN1.out h (miss_end hh (by rw [(HRU.out.1 h).1, HX.out])))
          · exact Lib.hid (HN2.out h)
        have d0 : decide (0 ≤ hitV r) = false := decide_eq_false hh
        clear HN1 HN2 HE HRU HX
        go_wp2_with fail
        refine (HR.out _).mono ?_
        rintro e w' ⟨rfl, hb1⟩
        have HW1 := Lib.hid (heap_keep hb1 HW.out)
        have HB1 := Lib.hid (HB.out.trans (hb1.mono HB.out.size))
        clear hb1
        generalize hitV r = v at *
        go_wp2_with fail
        go_roundw
        case rel => exact ⟨pos + k, HW1.out, by omega, HB1, HN⟩
        case measure => rw [iterPos_of HW1.out, iterPos_of HI.out]; omega
    · have hnx : ∀ ty, (Instr.next (.pointer (some ⟨w.heap.size, 0, none⟩)) true ty).run Tryd.prog wr = _ := fun ty => Lib.run_next_end_at wr w.heap.size s pos ty hit hp
      obtain rfl : pos = s.size := by omega
      go_wp2
      go_ret
      exact ⟨ret_i64 (idxV_none (by rw [HL.out]; exact hno.out)).symm, hb.out⟩
theorem zeroSet : ∀ w, (zeroValue 140).run Tryd.prog w = .ok (.agg (Array.replicate 256 (.bool false))) w := (zero_of_info (n := 256) (by kernel_rfl)).1
theorem indexAny_crlf (s : ByteArray) (hs : s.size ≤ 1000000) (w : World) : Calls Tryd.prog 99 #[.string s, .string ⟨#[13, 10]⟩] w fun e w' => e = .returned (.int .i64 (idxV s.data.toList)) ∧ Below w.heap.size w w' := by
  by_cases h8 : s.size ≤ 8
  · exact indexAny_short s h8 w
  · refine (Tryd.strings_IndexAny_long zeroSet s ⟨#[13, 10]⟩ w (by decide) (by omega) (by omega) (by decide) ?_).mono ?_
    · intro j b hj
      have : b ∈ ([13, 10] : List UInt8) := List.mem_of_getElem? hj
      simp at this
      rcases this with rfl | rfl <;> decide
    · rintro e w' ⟨rfl, rfl⟩
      exact ⟨ret_i64 (idxV_any _), ((alloc_below _ _).trans ((alloc_below _ _).mono (alloc_below w _).size))⟩
end Go.Proofs.YtpphkkelikdhkaaDoor
