/-
  jtext's findString AT EVERY TEXT of at most 1000000 bytes, from every place of it: what it returns; no memory that was there turns. Conditions: the text's length; the variables that are read hold what their text lays (Facts).
-/
import Derived.Test.YtmkjoonbjmieoaaDoorQEsc2
import Derived.Laws.BytesString
import Derived.Lib.RuneBytes
namespace Go.Proofs.YtmkjoonbjmieoaaDoor
open Go.RowKit

/-- Bytes as cells. -/
def bcells (l : List UInt8) : List Value := l.map fun c => Value.int .u8 (c.toNat : Int)
theorem bcells_append (a b : List UInt8) : bcells (a ++ b) = bcells a ++ bcells b := List.map_append
theorem bcells_len (l : List UInt8) : (bcells l).length = l.length := List.length_map _
theorem bcells_enc (n : Nat) : bcells (encL n) = (encN n).map fun (x : Nat) => Value.int .u8 ((UInt8.ofNat x).toNat : Int) := by
  unfold bcells encL; rw [List.map_map]; rfl
theorem runeCells_enc (n : Nat) (h : isPt (n : Int) = true) : Lib.runeCells (n : Int) = bcells (encL n) := by
  unfold isPt at h
  rw [decide_eq_true_eq] at h
  rw [bcells_enc]
  unfold Lib.runeCells encN
  by_cases h1 : n < 128
  · rw [if_pos h1, Lib.encodeRuneZ_one (by omega) (by omega)]
    simp only [List.map_cons, List.map_nil, ofNat_toNat n (by omega)]
  · rw [if_neg h1]
    by_cases h2 : n < 2048
    · rw [if_pos h2, Lib.encodeRuneZ_two (by omega) (by omega)]
      simp only [List.map_cons, List.map_nil, ofNat_toNat (192 + n / 64) (by omega), ofNat_toNat (128 + n % 64) (by omega)]
      rfl
    · rw [if_neg h2]
      by_cases h3 : n < 65536
      · rw [if_pos h3, Lib.encodeRuneZ_three (by omega)]
        simp only [List.map_cons, List.map_nil, ofNat_toNat (224 + n / 4096) (by omega), ofNat_toNat (128 + n / 64 % 64) (by omega), ofNat_toNat (128 + n % 64) (by omega)]
        rfl
      · rw [if_neg h3, Lib.encodeRuneZ_four (by omega) (by omega)]
        simp only [List.map_cons, List.map_nil, ofNat_toNat (240 + n / 262144) (by omega), ofNat_toNat (128 + n / 4096 % 64) (by omega), ofNat_toNat (128 + n / 64 % 64) (by omega), ofNat_toNat (128 + n % 64) (by omega)]
        rfl
theorem fold_push (l : List Int) : ∀ a : ByteArray, l.foldl (fun r n => r.push (UInt8.ofNat n.toNat)) a = ⟨a.data ++ (l.map fun n => UInt8.ofNat n.toNat).toArray⟩ := by
  induction l with
  | nil => intro a; simp
  | cons x l ih =>
    intro a
    rw [List.foldl_cons, ih]
    simp [ByteArray.push]
theorem cells_ints (l : List UInt8) : bcells l = (l.map fun c => (c.toNat : Int)).map (Value.int .u8) := by
  unfold bcells; rw [List.map_map]; rfl
theorem ints_back (l : List UInt8) : (l.map fun c => (c.toNat : Int)).map (fun n => UInt8.ofNat n.toNat) = l := by
  rw [List.map_map]
  conv => rhs; rw [← List.map_id l]
  congr 1
  funext c
  simp
/-- A row of bytes as a text. -/
theorem str_conv {W : World} {B : Nat} {v : Value} {l : List UInt8} (h : W.ownsRow B 5 1 v l.length (bcells l)) : (convert 35 9 v).run Tryd.prog W = .ok (.string ⟨l.toArray⟩) W := by
  rcases h.2 with ⟨rfl, h0⟩ | ⟨g, cap, cur, rfl, _, hg, _, _, _, ht⟩
  · have e : l = [] := List.eq_nil_of_length_eq_zero h0
    subst e
    rw [run_convert_bytes_string W 35 9 5 _ _ _ Tryd.underlying35 Tryd.underlying5 Tryd.underlying9]
    rfl
  · rw [run_convert_bytes_string W 35 9 5 _ _ _ Tryd.underlying35 Tryd.underlying5 Tryd.underlying9]
    rw [run_bytesToString W ⟨g, 0, none⟩ _ _ (l.map fun c => (c.toNat : Int)) (by
      rw [← cells_ints, ← bcells_len l]
      refine run_loadCells_list W ⟨g, 0, none⟩ (bcells l) (fun j v hj => ?_)
      rw [show (⟨g, 0, none⟩ : Addr).add j = ⟨g, 0 + j, none⟩ from by rw [Addr.add_lit], Nat.zero_add]
      have hj' : j < l.length := by rw [← bcells_len l]; exact (List.getElem?_eq_some_iff.1 hj).1
      have : W.cell? ⟨g, j, none⟩ = cur[j]? := by simp [World.cell?, hg]
      rw [this, ← Array.getElem?_toList]
      rw [← ht, List.getElem?_take, if_pos (by omega)] at hj
      exact hj)]
    rw [fold_push, ints_back]
    simp [ByteArray.empty, ByteArray.emptyWithCapacity]
    rfl
theorem isPt_ptR (l : List UInt8) : isPt (((ptR l).toNat : Nat) : Int) = true := by
  have hd : ∀ a b c d : Nat, 0 ≤ (decN a b c d).1 → isPt (decN a b c d).1 = true := by
    intro a b c d
    unfold decN isPt
    repeat' split
    all_goals (simp only [decide_eq_true_eq]; omega)
  unfold ptR
  split
  · decide
  · have := hd (nth l 0) (nth l 1) (nth l 2) (nth l 3) (show 0 ≤ pt l by omega)
    have e : (((pt l).toNat : Nat) : Int) = pt l := by omega
    rw [e]; exact this
theorem withinP_pt {l : List UInt8} {p n : Nat} (hl : l ≠ []) (h : withinP l = some (p, n)) : isPt (p : Int) = true ∧ 1 ≤ n ∧ n ≤ l.length := by
  have hpos := List.length_pos_iff.2 hl
  unfold withinP at h
  split at h
  · cases he : escP (l.drop 1) with
    | none => rw [he] at h; cases h
    | some x =>
      obtain ⟨q, m⟩ := x
      rw [he] at h
      simp only [Option.map_some, Option.some.injEq, Prod.mk.injEq] at h
      have := escP_le he
      rw [List.length_drop] at this
      rw [← h.1]
      exact ⟨this.2.2, by omega, by omega⟩
  · split at h
    · cases h
    · simp only [Option.some.injEq, Prod.mk.injEq] at h
      rw [← h.1]
      exact ⟨isPt_ptR l, by have := wd_pos l; omega, by have := wd_le l hl; omega⟩
/-- A string goes on behind a point of it. -/
theorem strP_within (l : List UInt8) (h : l ≠ []) (h1 : nth l 0 ≠ 34) : strP l = match withinP l with
      | none => none
      | some (p, k) => match strP (l.drop k) with
        | none => none
        | some (x, n) => some (encL p ++ x, n + k) := by
  unfold withinP
  by_cases h2 : nth l 0 = 92
  · rw [if_pos h2, strP_esc l h h2]
    cases escP (l.drop 1) with
    | none => rfl
    | some x => rfl
  · rw [if_neg h2]
    by_cases h3 : ptR l < 32
    · rw [if_pos h3, strP_low l h h1 h2 h3]
    · rw [if_neg h3, strP_pt l h h1 h2 h3]
      rfl
/-- A string that a text begins with: what it says, and its bytes. -/
def tokStr (l : List UInt8) : Option (List UInt8 × Nat) := if fst (is1 34) l then (strP (l.drop 1)).map (fun x => (x.1, x.2 + 1)) else none
/-- What a finder of strings hands back. -/
def strV (k : Nat) : Option (List UInt8 × Nat) → Value
  | some (x, n) => .tuple #[.string ⟨x.toArray⟩, .int .i64 ((k + n : Nat) : Int)]
  | none => .tuple #[.string ⟨#[]⟩, .int .i64 (k : Int)]
theorem strV_shape (k : Nat) (o : Option (List UInt8 × Nat)) : ∃ x y, strV k o = .tuple #[.string x, .int .i64 y] := by
  cases o with
  | none => exact ⟨_, _, rfl⟩
  | some p => exact ⟨_, _, rfl⟩
/-- What a string says from a place on, behind what it has said. -/
def go (acc : List UInt8) (n : Nat) : Option (List UInt8 × Nat) → Option (List UInt8 × Nat)
  | some (x, k) => some (acc ++ x, k + n)
  | none => none
theorem go_within (acc : List UInt8) (m : Nat) (l : List UInt8) (h : l ≠ []) (h1 : nth l 0 ≠ 34) (p k : Nat) (hw : withinP l = some (p, k)) : go acc m (strP l) = go (acc ++ encL p) (m + k) (strP (l.drop k)) := by
  rw [strP_within l h h1, hw]
  simp only
  cases strP (l.drop k) with
  | none => rfl
  | some x =>
    simp only [go, List.append_assoc, Option.some.injEq, Prod.mk.injEq, true_and]
    omega
theorem go_none (acc : List UInt8) (m : Nat) (l : List UInt8) (h : l ≠ []) (h1 : nth l 0 ≠ 34) (hw : withinP l = none) : go acc m (strP l) = none := by
  rw [strP_within l h h1, hw]; rfl
theorem ownsRow_below {W W' : World} {B e n sz : Nat} {v : Value} {xs : List Value} (h : W.ownsRow B e sz v n xs) (hb : Below W.heap.size W W') : W'.ownsRow B e sz v n xs := by
  refine ⟨h.1, ?_⟩
  rcases h.2 with h0 | ⟨g, cap, cur, h1, h2, hg, h3, h4, h5, h6⟩
  · exact .inl h0
  · exact .inr ⟨g, cap, cur, h1, h2, (hb.block g (Array.getElem?_eq_some_iff.1 hg).1).trans hg, h3, h4, h5, h6⟩
theorem below_append {w W W' : World} {e sz n : Nat} {v : Value} {xs : List Value} {o : Obj} (hb : Below w.heap.size w W) (h : W.ownsRow w.heap.size e sz v n xs) (hg : (W.alloc o).grownBy W' v.ownBlock) : Below w.heap.size w W' := by
  have h1 := hb.alloc hb.size o
  refine h1.grown hg h1.size ?_
  intro k hk
  rcases h.2 with ⟨rfl, _⟩ | ⟨g, cap, cur, rfl, h2, _⟩
  · cases hk
  · cases hk; exact h2
theorem bytes_size (l : List UInt8) : (⟨l.toArray⟩ : ByteArray).size = l.length := rfl
set_option maxRecDepth 100000 in
set_option maxHeartbeats 300000 in
theorem findString_any (s : ByteArray) (k : Nat) (hk : k < s.size) (hs : s.size ≤ 1000000) (w : World) (hF : Facts w) :
    Calls Tryd.prog 47 #[.string s, .int .i64 k] w fun e w' => e = .returned (strV k (tokStr (rest s k))) ∧ Below w.heap.size w w' := by
  have hz : (Tryd.prog.info? 5).map (fun i => (i.zero, i.size, i.bytes)) = some (some (.int .u8 0), 1, 1) := by kernel_rfl
  have HF := Lib.hid hF
  unfold tokStr
  by_cases h34 : fst (is1 34) (rest s k) = true
  · rw [if_pos h34, rest_drop]
    have HC := Lib.hid (fun w => stands_yes s ⟨#[34]⟩ k h34 w)
    obtain ⟨R, hR⟩ : ∃ R, R = strP (rest s (k + 1)) := ⟨_, rfl⟩
    rw [← hR]
    have HR : Hid (go [] 0 (strP (rest s (k + 1))) = R) := Lib.hid (by
      rw [hR]
      cases strP (rest s (k + 1)) with
      | none => rfl
      | some x => simp [go])
    clear h34 hF hz hR
    go_enter Tryd.func47, Tryd.ntmps47
    go_wp2_with fail
    refine (HC.out _).mono ?_
    rintro e w' ⟨rfl, rfl⟩
    go_wp2_with fail
    go_loopw [6, 7] (fun v u wr => ∃ (i : Nat) (acc : List UInt8) (v0 : Value), v0 = v ∧ k + 1 ≤ i ∧ i ≤ s.size ∧ u = .int .i64 i ∧ Hid (acc.length ≤ 4 * i) ∧ Hid (wr.ownsRow w.heap.size 5 1 v0 acc.length (bcells acc)) ∧ Hid (Below w.heap.size w wr) ∧ Hid (go acc (i - (k + 1)) (strP (rest s i)) = R)) (fun _ u _ => s.size - (intOf u).toNat)
    case atStart => exact ⟨k + 1, [], _, rfl, Nat.le_refl _, by omega, rfl, Lib.hid (by simp), Lib.hid ⟨rfl, .inl ⟨rfl, rfl⟩⟩, Lib.hid (Below.refl _ _), Lib.hid (by rw [Nat.sub_self]; exact HR.out)⟩
    case round =>
      obtain ⟨i, acc, v, rfl, hki, hi, rfl, hacc, hown, hb, hrel⟩ := hrel
      by_cases hlt : i < s.size
      · have h0 := nth_rest s i hlt
        have hne := rest_ne s i hlt
        by_cases hq : s[i].toNat = 34
        · have e1 : (((s[i].toNat : Nat) : Int) == 34) = true := by simp [hq]
          have hcv := str_conv hown.out
          have HV : Hid (strV k (R.map (fun x => (x.1, x.2 + 1))) = .tuple #[.string ⟨acc.toArray⟩, .int .i64 ((i : Int) + 1)]) := Lib.hid (by
            rw [← hrel.out, strP_end _ hne (by rw [h0]; exact hq)]
            show Value.tuple #[.string ⟨(acc ++ []).toArray⟩, .int .i64 ((k + (1 + (i - (k + 1)) + 1) : Nat) : Int)] = _
            rw [List.append_nil, show ((k + (1 + (i - (k + 1)) + 1) : Nat) : Int) = (i : Int) + 1 by omega])
          clear hq h0 hne HC HF
          go_wp2_with fail
          go_ret2
          exact ⟨congrArg Ending.returned HV.out.symm, hb.out⟩
        · have e1 : (((s[i].toNat : Nat) : Int) == 34) = false := by simp; omega
          have hn34 : nth (rest s i) 0 ≠ 34 := by rw [h0]; exact hq
          have HP := Lib.hid (fun (W : World) (h : Facts W) => pointWithin_any s i hlt hs W h)
          have HFR := Lib.hid (HF.out.below hb.out)
          cases hw : withinP (rest s i) with
          | none =>
            rw [hw] at HP
            unfold winV at HP
            have HV : Hid (strV k (R.map (fun x => (x.1, x.2 + 1))) = .tuple #[.string ⟨#[]⟩, .int .i64 (k : Int)]) := Lib.hid (by rw [← hrel.out, go_none _ _ _ hne hn34 hw]; rfl)
            have e2 : (((i : Nat) : Int) == ((i : Nat) : Int)) = true := by simp
            clear hq h0 hne HC HF hw hn34 hown
            go_wp2_with fail
            refine (HP.out _ HFR.out).mono ?_
            rintro e w1 ⟨rfl, hb1⟩
            have HB1 := Lib.hid (hb.out.trans (hb1.mono hb.out.size))
            clear hb1
            go_wp2_with fail
            go_ret2
            exact ⟨congrArg Ending.returned HV.out.symm, HB1.out⟩
          | some x =>
            obtain ⟨p, n⟩ := x
            rw [hw] at HP
            unfold winV at HP
            obtain ⟨hpt, hn1, hn2⟩ := withinP_pt hne hw
            rw [rest_len] at hn2
            have HG : Hid (go (acc ++ encL p) (i + n - (k + 1)) (strP (rest s (i + n))) = R) := Lib.hid (by
              rw [← hrel.out, go_within _ _ _ hne hn34 p n hw, rest_drop, show i - (k + 1) + n = i + n - (k + 1) by omega])
            have hle := encL_len p
            have hac := hacc.out
            have hpb : (p : Int) ≤ 1114111 := by unfold isPt at hpt; rw [decide_eq_true_eq] at hpt; omega
            have HRC := Lib.hid (runeCells_enc p hpt)
            have HA := Lib.hid (fun (W : World) (h : W.ownsRow w.heap.size 5 1 v acc.length (bcells acc)) (hB : w.heap.size ≤ W.heap.size) => Tryd.utf8_AppendRune_plain w.heap.size v acc.length (bcells acc) (p : Int) (by omega) (by omega) W h (by omega) hB)
            have HACC : Hid ((acc ++ encL p).length ≤ 4 * (i + n)) := Lib.hid (by rw [List.length_append]; omega)
            have e2 : ((((i + n : Nat) : Nat) : Int) == ((i : Nat) : Int)) = false := by simp only [beq_eq_false_iff_ne, ne_eq]; omega
            clear hq h0 hne HC HF hw hn34 hac hle hpt
            go_wp2_with fail
            refine (HP.out _ HFR.out).mono ?_
            rintro e w1 ⟨rfl, hb1⟩
            have HB1 := Lib.hid (hb.out.trans (hb1.mono hb.out.size))
            have HO1 := Lib.hid (ownsRow_below hown.out hb1)
            clear hb1
            go_wp2_with fail
            refine (HA.out _ HO1.out HB1.out.size).mono ?_
            rintro e w2 ⟨v2, rfl, hown2, o, hgr⟩
            rw [HRC.out] at hown2
            have HB2 := Lib.hid (below_append HB1.out HO1.out hgr)
            rw [← bcells_append, bcells_len, ← List.length_append] at hown2
            have HO2 := Lib.hid hown2
            clear hown2 hgr
            go_wp2_with fail
            go_roundw
            case rel => exact ⟨i + n, acc ++ encL p, _, rfl, by omega, by omega, rfl, HACC, HO2, HB2, HG⟩
            case measure => simp [intOf]; omega
      · have HV : Hid (strV k (R.map (fun x => (x.1, x.2 + 1))) = .tuple #[.string ⟨#[]⟩, .int .i64 (k : Int)]) := Lib.hid (by rw [← hrel.out, rest_end s i hlt]; rfl)
        clear HC HF hown
        go_wp2_with fail
        go_ret2
        exact ⟨congrArg Ending.returned HV.out.symm, hb.out⟩
  · have h34f : fst (is1 34) (rest s k) = false := by simpa using h34
    have HC := Lib.hid (fun w => stands_no s ⟨#[34]⟩ k h34f w)
    rw [if_neg h34]
    show Calls _ _ _ _ fun e w' => e = .returned (.tuple #[.string ⟨#[]⟩, .int .i64 (k : Int)]) ∧ _
    clear h34 h34f hF hz HF
    go_enter Tryd.func47, Tryd.ntmps47
    go_wp2_with fail
    refine (HC.out _).mono ?_
    rintro e w' ⟨rfl, rfl⟩
    go_wp2_with fail
    go_ret2
    exact ⟨rfl, Below.refl _ _⟩
end Go.Proofs.YtmkjoonbjmieoaaDoor
