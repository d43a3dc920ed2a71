/-
  lines' endFrom, spans and the iterator that spans makes, AT EVERY TEXT of at most 1000000 bytes, FOR EVERY LOOP BODY that leaves the text's cell: the lines with their numbers, one behind the other. Condition: the text's length.
-/
import Derived.RangeFuncNested
import Derived.RangeFuncFrom
import Derived.RangeFuncBound
import Derived.RangeFuncCalls
import Derived.RangeFuncLeaves
import Derived.Shelf.Abstract
import Derived.OwnWalkIn
import Derived.TacticsInMore
import Derived.LoopNIn
import Derived.LoopIn
import Derived.Test.YtpphkkelikdhkaaDoorIdx
namespace Go.Proofs.YtpphkkelikdhkaaDoor
open Go.RowKit Go.Shelf

/-- Where the line ends that begins at a place; where the next one begins; is there a next one? -/
def toV (s : ByteArray) (k : Nat) : Nat := if endI (rest s k) < (rest s k).length then k + endI (rest s k) else s.size
def nextV (s : ByteArray) (k : Nat) : Nat := if endI (rest s k) < (rest s k).length then k + nextI (rest s k) else 0
def moreV (s : ByteArray) (k : Nat) : Bool := decide (endI (rest s k) < (rest s k).length)
theorem toV_yes {s : ByteArray} {k : Nat} (h : endI (rest s k) < (rest s k).length) : toV s k = k + endI (rest s k) := by unfold toV; rw [if_pos h]
theorem nextV_yes {s : ByteArray} {k : Nat} (h : endI (rest s k) < (rest s k).length) : nextV s k = k + nextI (rest s k) := by unfold nextV; rw [if_pos h]
theorem moreV_yes {s : ByteArray} {k : Nat} (h : endI (rest s k) < (rest s k).length) : moreV s k = true := decide_eq_true h
theorem toV_no {s : ByteArray} {k : Nat} (h : ¬ endI (rest s k) < (rest s k).length) : toV s k = s.size := by unfold toV; rw [if_neg h]
theorem nextV_no {s : ByteArray} {k : Nat} (h : ¬ endI (rest s k) < (rest s k).length) : nextV s k = 0 := by unfold nextV; rw [if_neg h]
theorem moreV_no {s : ByteArray} {k : Nat} (h : ¬ endI (rest s k) < (rest s k).length) : moreV s k = false := decide_eq_false h
theorem ext_rest (s : ByteArray) (k : Nat) : (s.extract k s.size).data.toList = rest s k := Lib.extract_to_end s k
theorem ext_size (s : ByteArray) (k : Nat) (hk : k ≤ s.size) : (s.extract k s.size).size = s.size - k := by
  rw [ByteArray.size_extract]
  omega
theorem prefix_end (l : List UInt8) : Lib.hasPrefix l [13, 10] = decide (endW l = 2) := by
  unfold Lib.hasPrefix endW
  match l with
  | [] => rfl
  | [c] => simp [List.isPrefixOf]
  | c :: d :: t =>
    by_cases h1 : c = 13
    · by_cases h2 : d = 10
      · subst h1 h2; rfl
      · subst h1
        simp [List.isPrefixOf, h2, Ne.symm h2]
    · simp [List.isPrefixOf, h1, Ne.symm h1]
theorem ret_ends {a b c d : Nat} {x y : Bool} (h1 : a = c) (h2 : b = d) (h3 : x = y) : Ending.returned (.tuple #[.int .i64 (a : Int), .int .i64 (b : Int), .bool x]) = .returned (.tuple #[.int .i64 (c : Int), .int .i64 (d : Int), .bool y]) := by rw [h1, h2, h3]
set_option maxRecDepth 100000 in
set_option maxHeartbeats 2000000 in
theorem endFrom_any (s : ByteArray) (k : Nat) (hk : k ≤ s.size) (hs : s.size ≤ 1000000) (w : World) :
    Calls Tryd.prog 98 #[.string s, .int .i64 (k : Int)] w fun e w' => e = .returned (.tuple #[.int .i64 (toV s k : Int), .int .i64 (nextV s k : Int), .bool (moreV s k)]) ∧ Below w.heap.size w w' := by
  have HI := indexAny_crlf (s.extract k s.size) (by rw [ext_size s k hk]; omega) w
  rw [ext_rest] at HI
  have hl := rest_len s k
  by_cases h : endI (rest s k) < (rest s k).length
  · rw [toV_yes h, nextV_yes h, moreV_yes h]
    have hv : idxV (rest s k) = endI (rest s k) := by unfold idxV; rw [if_pos h]
    rw [hv] at HI
    have hn : nextI (rest s k) = endI (rest s k) + endW (rest s (k + endI (rest s k))) := by
      unfold nextI
      rw [rest, List.drop_drop]
      rfl
    rw [hn]
    have hw := endW_12 (rest s (k + endI (rest s k)))
    have hp := Tryd.strings_HasPrefix (s.extract (k + endI (rest s k)) s.size) ⟨#[13, 10]⟩
    rw [ext_rest, show ((⟨#[13, 10]⟩ : ByteArray).data.toList) = [13, 10] from rfl, prefix_end] at hp
    generalize endI (rest s k) = i at *
    generalize endW (rest s (k + i)) = m at *
    have HC := Lib.hid HI
    have HP := Lib.hid hp
    clear HI hp hv hn
    by_cases h2 : m = 2
    · subst h2
      have HP2 : Hid (∀ w, Calls Tryd.prog 100 #[.string (s.extract (k + i) s.size), .string ⟨#[13, 10]⟩] w fun e w' => e = .returned (.bool true) ∧ w' = w) := Lib.hid HP.out
      clear HP
      go_enter Tryd.func98, Tryd.ntmps98
      go_wp2_with fail
      refine HC.out.mono ?_
      rintro e w1 ⟨rfl, hb⟩
      have HB := Lib.hid hb
      clear hb
      go_wp2_with fail
      refine (HP2.out _).mono ?_
      rintro e w2 ⟨rfl, rfl⟩
      go_wp2_with fail
      go_ret3
      exact ⟨by first | rfl | exact ret_ends (by omega) (by omega) rfl, HB.out⟩
    · have e : decide (m = 2) = false := by simpa using h2
      rw [e] at HP
      have HP2 : Hid (∀ w, Calls Tryd.prog 100 #[.string (s.extract (k + i) s.size), .string ⟨#[13, 10]⟩] w fun e w' => e = .returned (.bool false) ∧ w' = w) := Lib.hid HP.out
      obtain rfl : m = 1 := by omega
      clear HP e
      go_enter Tryd.func98, Tryd.ntmps98
      go_wp2_with fail
      refine HC.out.mono ?_
      rintro e w1 ⟨rfl, hb⟩
      have HB := Lib.hid hb
      clear hb
      go_wp2_with fail
      refine (HP2.out _).mono ?_
      rintro e w2 ⟨rfl, rfl⟩
      go_wp2_with fail
      go_ret3
      exact ⟨by first | rfl | exact ret_ends (by omega) (by omega) rfl, HB.out⟩
  · rw [toV_no h, nextV_no h, moreV_no h]
    have hv : idxV (rest s k) = -1 := by unfold idxV; rw [if_neg h]
    rw [hv] at HI
    have HC := Lib.hid HI
    clear HI hv
    go_enter Tryd.func98, Tryd.ntmps98
    go_wp2_with fail
    refine HC.out.mono ?_
    rintro e w1 ⟨rfl, hb⟩
    have HB := Lib.hid hb
    clear hb
    go_wp2_with fail
    go_ret3
    exact ⟨rfl, HB.out⟩

/-- A line with its number: the number, where it begins, where it ends. -/
abbrev LRow := Nat × Nat × Nat
def encR (x : LRow) : Array Value := #[.int .i64 (x.1 : Int), .agg #[.int .i64 (x.2.1 : Int), .int .i64 (x.2.2 : Int)]]
/-- Lines with their numbers, from a number on. -/
def nrows : List (Nat × Nat) → Nat → List LRow
  | [], _ => []
  | r :: rs, i => (i, r.1, r.2) :: nrows rs (i + 1)
theorem nrows_len (rs : List (Nat × Nat)) : ∀ i, (nrows rs i).length = rs.length := by
  induction rs with
  | nil => intro i; rfl
  | cons r rs ih => intro i; rw [nrows, List.length_cons, List.length_cons, ih]
theorem nrows_at (rs : List (Nat × Nat)) : ∀ (i j : Nat) (x : LRow), (nrows rs i)[j]? = some x → x.1 = i + j ∧ rs[j]? = some x.2 := by
  induction rs with
  | nil => intro i j x h; simp [nrows] at h
  | cons r rs ih =>
    intro i j x h
    cases j with
    | zero => obtain rfl : (i, r.1, r.2) = x := by simpa [nrows] using h
              exact ⟨rfl, rfl⟩
    | succ j =>
      obtain ⟨h1, h2⟩ := ih (i + 1) j x (by simpa [nrows] using h)
      exact ⟨by omega, by simpa using h2⟩
/-- The lines of a text with their numbers. -/
def linesOf (s : ByteArray) : List LRow := nrows (rows s.data.toList 0) 0
theorem linesOf_len (s : ByteArray) : (linesOf s).length = (rows s.data.toList 0).length := nrows_len _ _
theorem linesOf_le (s : ByteArray) : (linesOf s).length ≤ s.size + 1 := by
  rw [linesOf_len]
  exact rows_len _ 0
theorem linesOf_at {s : ByteArray} {j : Nat} {x : LRow} (h : (linesOf s)[j]? = some x) : x.1 = j ∧ (rows s.data.toList 0)[j]? = some x.2 := by
  have := nrows_at _ _ _ _ h
  exact ⟨by omega, this.2⟩
/-- The body leaves the text's cell. -/
def KpN (N : Nat) (s : ByteArray) (W W' : World) : Prop := W.heap[N]? = some (.cells #[.string s] 9 (0, 0)) → W'.heap[N]? = some (.cells #[.string s] 9 (0, 0))
theorem grown_of_below {W W' : World} (h : Below W.heap.size W W') : W.grownBy W' none := ⟨h.os, h.tape, h.output, h.size, fun k hk _ => h.block k hk⟩
set_option maxHeartbeats 4000000 in
set_option maxRecDepth 100000 in
theorem spans_seq (n : Nat) (s : ByteArray) (hs : s.size ≤ 1000000) (N : Nat) (w : World) (hN : w.heap[N]? = some (.cells #[.string s] 9 (0, 0))) :
    SeqStopsK Fence.wide n Tryd.prog 97 #[.pointer (some ⟨N, 0, none⟩)] encR (KpN N s) (fun xs => xs = linesOf s) (fun pre => ∃ r, linesOf s = pre ++ r) (s.size + 2) w := by
  intro l J Jx W hbW hAJ hAJx hY h0
  have hNW : W.heap[N]? = some (.cells #[.string s] 9 (0, 0)) := heap_keep hbW hN
  refine callsIn_of_wp Tryd.func97 rfl trivial ?_ rfl
  simp only [Tryd.ntmps97, List.size_toArray, List.length_cons, List.length_nil, Nat.reduceAdd, Nat.reduceSub, Array.replicate_succ, Array.replicate_zero, List.push_toArray, List.append_toArray, List.nil_append, List.cons_append]
  gi_wp2_with fail
  gi_loopw [3, 4] (fun u v wr => ∃ (pre : List LRow) (k i : Nat), u = .int .i64 (k : Int) ∧ v = .int .i64 (i : Int) ∧ k ≤ s.size ∧ i ≤ k ∧ pre.length = i ∧ Hid (linesOf s = pre ++ nrows (rows (rest s k) k) i) ∧ Hid (wr.heap[N]? = some (.cells #[.string s] 9 (0, 0))) ∧ Hid (J pre wr)) (fun u _ _ => s.size - (intOf u).toNat)
  case atStart => exact ⟨[], 0, 0, rfl, rfl, Nat.zero_le _, Nat.le_refl _, rfl, Lib.hid (by rw [rest_zero]; rfl), Lib.hid hNW, Lib.hid h0⟩
  case round =>
    obtain ⟨pre, k, i, rfl, rfl, hk, hi, hpi, hl, hc, hJ⟩ := hrel
    have HC := Lib.hid (endFrom_any s k hk hs wr)
    have a1 := cell_at (i := 0) hc.out
    have hkl := rest_len s k
    by_cases hm : endI (rest s k) < (rest s k).length
    · rw [toV_yes hm, nextV_yes hm, moreV_yes hm] at HC
      have hg := nextI_gt (rest s k)
      have hle := nextI_le (rest s k) hm
      have HL : Hid (linesOf s = (pre ++ [(i, k, k + endI (rest s k))]) ++ nrows (rows (rest s (k + nextI (rest s k))) (k + nextI (rest s k))) (i + 1)) := Lib.hid (by
        rw [hl.out, rows_more _ _ hm, nrows, rest, List.drop_drop, List.append_assoc]
        rfl)
      have HY : Hid (∀ W1, J pre W1 → YieldAt Fence.wide (n - 1) Tryd.prog l #[.int .i64 (i : Int), .agg #[.int .i64 (k : Int), .int .i64 ((k + endI (rest s k) : Nat) : Int)]] W1 fun e W' => (e = .returned (.bool true) ∧ J (pre ++ [(i, k, k + endI (rest s k))]) W' ∧ KpN N s W1 W') ∨ (e = .returned (.bool false) ∧ Jx (pre ++ [(i, k, k + endI (rest s k))]) W')) := Lib.hid (fun W1 h => hY pre (i, k, k + endI (rest s k)) W1 h (by omega))
      generalize endI (rest s k) = ei at *
      generalize nextI (rest s k) = ni at *
      generalize ht : k + ei = to at *
      generalize hx : k + ni = nx at *
      clear hm hl hY h0 hNW
      gi_wp2_with fail
      refine ⟨trivial, (fun h => by cases h), (callsIn_wide.2 HC.out).mono ?_⟩
      rintro e w1 ⟨rfl, hb⟩
      have HJ1 := Lib.hid (hAJ pre wr w1 none hJ.out (grown_of_below hb) (fun r e => by cases e))
      have HC1 := Lib.hid (heap_keep hb hc.out)
      obtain ⟨fn, tmps, assign, body, hy, hR⟩ := HY.out w1 HJ1.out
      have HR := Lib.hid hR
      clear hR hb hJ hc a1 HC HY
      gi_wp2_with fail
      refine ⟨(fun h => by cases h), HR.out.mono ?_⟩
      rintro e W2 (⟨rfl, hJ2, hK2⟩ | ⟨rfl, hJx⟩)
      · have HJ2 := Lib.hid hJ2
        have HC2 := Lib.hid (hK2 HC1.out)
        clear hJ2 hK2 HR
        gi_wp2_with fail
        refine ⟨⟨pre ++ [(i, k, to)], nx, i + 1, rfl, by go_num, by omega, by omega, by rw [List.length_append, hpi]; rfl, HL, HC2, HJ2⟩, ?_⟩
        simp [intOf]
        omega
      · gi_wp2_with fail
        refine bodyPost_ret (results_none rfl _ _ _) rfl ?_
        exact ⟨⟨_, rfl⟩, .inr ⟨_, ⟨_, HL.out⟩, hJx⟩⟩
    · rw [toV_no hm, nextV_no hm, moreV_no hm] at HC
      have HL : Hid (linesOf s = pre ++ [(i, k, s.size)]) := Lib.hid (by
        rw [hl.out, rows_last _ _ hm, hkl, show k + (s.size - k) = s.size by omega]
        rfl)
      have HY : Hid (∀ W1, J pre W1 → YieldAt Fence.wide (n - 1) Tryd.prog l #[.int .i64 (i : Int), .agg #[.int .i64 (k : Int), .int .i64 (s.size : Int)]] W1 fun e W' => (e = .returned (.bool true) ∧ J (pre ++ [(i, k, s.size)]) W' ∧ KpN N s W1 W') ∨ (e = .returned (.bool false) ∧ Jx (pre ++ [(i, k, s.size)]) W')) := Lib.hid (fun W1 h => hY pre (i, k, s.size) W1 h (by omega))
      clear hm hl hY h0 hNW hkl
      gi_wp2_with fail
      refine ⟨trivial, (fun h => by cases h), (callsIn_wide.2 HC.out).mono ?_⟩
      rintro e w1 ⟨rfl, hb⟩
      have HJ1 := Lib.hid (hAJ pre wr w1 none hJ.out (grown_of_below hb) (fun r e => by cases e))
      obtain ⟨fn, tmps, assign, body, hy, hR⟩ := HY.out w1 HJ1.out
      have HR := Lib.hid hR
      clear hR hb hJ hc a1 HC HY
      gi_wp2_with fail
      refine ⟨(fun h => by cases h), HR.out.mono ?_⟩
      rintro e W2 (⟨rfl, hJ2, hK2⟩ | ⟨rfl, hJx⟩)
      · gi_wp2_with fail
        refine bodyPost_ret (results_none rfl _ _ _) rfl ?_
        exact ⟨⟨_, rfl⟩, .inl ⟨_, HL.out.symm, hJ2⟩⟩
      · gi_wp2_with fail
        refine bodyPost_ret (results_none rfl _ _ _) rfl ?_
        exact ⟨⟨_, rfl⟩, .inr ⟨_, ⟨[], by rw [HL.out]; simp⟩, hJx⟩⟩
end Go.Proofs.YtpphkkelikdhkaaDoor
