/-
  jtext's Quote AT EVERY TEXT of at most 1000000 bytes: what it returns; no memory that was there turns. Conditions: the text's length; the variables that are read hold what their text lays (Facts).
-/
import Derived.Test.YtmkjoonbjmieoaaDoorQApp
import Derived.Test.YtmkjoonbjmieoaaDoorQPast
namespace Go.Proofs.YtmkjoonbjmieoaaDoor
open Go.RowKit

/-- A byte as it stands in a string of JSON. -/
def qB (c : UInt8) : List UInt8 := if c.toNat < 128 then qP c.toNat else [c]
def bodyQ (l : List UInt8) : List UInt8 := l.flatMap qB
def quoteL (l : List UInt8) : List UInt8 := 34 :: (bodyQ l ++ [34])
theorem bodyQ_append (a b : List UInt8) : bodyQ (a ++ b) = bodyQ a ++ bodyQ b := List.flatMap_append
theorem enc_ascii (n : Nat) (h : n < 128) : encL n = [UInt8.ofNat n] := by unfold encL encN; rw [if_pos h]; rfl
theorem qP_len (p : Nat) : (qP p).length ≤ 6 := by
  unfold qP
  have := encL_len p
  repeat' split
  all_goals first | (simp; done) | omega
theorem encN_far (n : Nat) (h : 128 ≤ n) (hn : n ≤ 1114111) : ∀ x ∈ encN n, 128 ≤ x ∧ x < 256 := by
  intro x hx
  unfold encN at hx
  rw [if_neg (by omega)] at hx
  repeat' split at hx
  all_goals (simp only [List.mem_cons, List.not_mem_nil, or_false] at hx; omega)
theorem bodyQ_far : ∀ l : List UInt8, (∀ c ∈ l, 128 ≤ c.toNat) → bodyQ l = l
  | [], _ => rfl
  | c :: l, h => by
    have hc := h c List.mem_cons_self
    have ih := bodyQ_far l (fun d hd => h d (List.mem_cons_of_mem _ hd))
    show qB c ++ bodyQ l = _
    rw [ih]
    unfold qB
    rw [if_neg (by omega)]
    rfl
theorem encL_far (n : Nat) (h : 128 ≤ n) (hn : n ≤ 1114111) : ∀ c ∈ encL n, 128 ≤ c.toNat := by
  intro c hc
  unfold encL at hc
  obtain ⟨x, hx, rfl⟩ := List.mem_map.1 hc
  have := encN_far n h hn x hx
  rw [ofNat_toNat x this.2]; exact this.1
/-- A point's bytes, each as it stands there, are the point as it stands there. -/
theorem bodyQ_piece (l : List UInt8) (h : l ≠ []) (hp : 0 ≤ pt l) : bodyQ (l.take (wd l)) = qP (pt l).toNat := by
  by_cases h0 : nth l 0 < 128
  · obtain ⟨e1, e2⟩ := ptR_near l h0
    have e3 : pt l = (nth l 0 : Nat) := by
      unfold ptR at e1
      rw [if_neg (by omega)] at e1
      exact e1
    rw [e2, e3, Int.toNat_natCast]
    cases l with
    | nil => exact absurd rfl h
    | cons c l =>
      have e4 : nth (c :: l) 0 = c.toNat := rfl
      rw [e4] at h0 ⊢
      show qB c ++ [] = _
      unfold qB
      rw [if_pos h0, List.append_nil]
  · have h128 := ptR_far l (by omega)
    have hr : ptR l = pt l := by unfold ptR; rw [if_neg (by omega)]
    rw [hr] at h128
    have hle := pt_le l
    rw [← enc_dec l h hp, bodyQ_far _ (encL_far _ (by omega) (by omega))]
    unfold qP
    rw [if_neg (by omega), if_neg (by omega), if_neg (by omega), if_neg (by omega), if_neg (by omega), if_neg (by omega), if_neg (by omega), if_neg (by omega)]
theorem bodyQ_next (l : List UInt8) (h : l ≠ []) (hp : 0 ≤ pt l) : bodyQ l = qP (pt l).toNat ++ bodyQ (l.drop (wd l)) := by
  rw [← bodyQ_piece l h hp, ← bodyQ_append, List.take_append_drop]
theorem quo_start (w : World) (s : ByteArray) : ((w.alloc (Obj.cells #[Value.int IntKind.u8 34] 5)).iter s 0).ownsRow w.heap.size 5 1 (.slice (some ⟨w.heap.size, 0, none⟩) 1 1) [(34 : UInt8)].length (bcells [34]) := by
  refine ownsRow_below (W := w.alloc (Obj.cells #[Value.int IntKind.u8 34] 5)) ⟨rfl, .inr ⟨w.heap.size, 1, #[Value.int IntKind.u8 34], rfl, Nat.le_refl _, ?_, Nat.le_refl _, by unfold maxLen; omega, rfl, rfl⟩⟩ (below_iter _ _ _)
  unfold World.alloc
  exact Array.getElem?_push_size
theorem ownsRow_iter {W : World} {B k e n sz : Nat} {v : Value} {xs : List Value} {s : ByteArray} {pos : Nat} (h : W.ownsRow B e sz v n xs) (hit : W.heap[k]? = some (.stringIter s pos)) (p2 : Nat) : (W.iterAt k s p2).ownsRow B e sz v n xs := by
  refine ⟨h.1, ?_⟩
  rcases h.2 with h0 | ⟨g, cap, cur, h1, h2, hg, h3, h4, h5, h6⟩
  · exact .inl h0
  · refine .inr ⟨g, cap, cur, h1, h2, ?_, h3, h4, h5, h6⟩
    rw [Lib.iterAt_other _ _ _ _ _ (fun e => by rw [e, hit] at hg; cases hg)]
    exact hg
/-- What Quote hands back. -/
def quoteV (l : List UInt8) : Value := if good l < l.length then .tuple #[.string ⟨#[]⟩, .int .i64 8] else .tuple #[.string ⟨(quoteL l).toArray⟩, .int .i64 0]
theorem isPt_pt (l : List UInt8) (h : 0 ≤ pt l) : isPt (((pt l).toNat : Nat) : Int) = true := by
  have hr : ptR l = pt l := by unfold ptR; rw [if_neg (by omega)]
  rw [← hr]
  exact isPt_ptR l
set_option maxRecDepth 100000 in
set_option maxHeartbeats 4000000 in
theorem quote_any (s : ByteArray) (hs : s.size ≤ 1000000) (w : World) (hF : Facts w) :
    Calls Tryd.prog 52 #[.string s] w fun e w' => e = .returned (quoteV s.data.toList) ∧ Below w.heap.size w w' := by
  obtain ⟨i0, hi, hz0, hz1, hz2⟩ := info_parts Tryd.info5
  have HP := Lib.hid (fun (w : World) (hF : Facts w) => pastUTF8_any s w hF)
  have HF := Lib.hid hF
  have hgl := good_le s.data.toList
  have hsl : s.data.toList.length = s.size := rfl
  unfold quoteV
  rw [hsl] at hgl ⊢
  by_cases hg : good s.data.toList < s.size
  · rw [if_pos hg]
    generalize good s.data.toList = g at *
    clear hF hsl hi hz0 hz1 hz2
    go_enter Tryd.func52, Tryd.ntmps52
    go_wp2_with fail
    refine (HP.out _ HF.out).mono ?_
    rintro e w1 ⟨rfl, hb⟩
    have HB1 := Lib.hid hb
    clear hb
    go_wp2_with fail
    go_ret2
    exact ⟨rfl, HB1.out⟩
  · rw [if_neg hg]
    have e1 : good s.data.toList = s.size := by omega
    have HG0 : Hid (0 + good (rest s 0) = s.size) := Lib.hid (by rw [rest_zero, e1]; omega)
    rw [e1] at HP
    clear hg e1 hF hgl hsl
    go_enter Tryd.func52, Tryd.ntmps52
    go_wp2_with fail
    refine (HP.out _ HF.out).mono ?_
    rintro e w1 ⟨rfl, hb⟩
    have HB1 := Lib.hid hb
    clear hb HP
    go_wp2_with fail
    go_loopw [4] (fun v wr => ∃ (pos : Nat) (acc : List UInt8) (v0 : Value), v0 = v ∧ wr.heap[w1.heap.size + 1]? = some (.stringIter s pos) ∧ pos ≤ s.size ∧ Hid (acc.length ≤ 6 * pos + 1) ∧ Hid (wr.ownsRow w1.heap.size 5 1 v0 acc.length (bcells acc)) ∧ Hid (w1.heap.size ≤ wr.heap.size) ∧ Hid (Below w.heap.size w wr) ∧ Hid (pos + good (rest s pos) = s.size) ∧ Hid (acc ++ (bodyQ (rest s pos) ++ [34]) = quoteL s.data.toList)) (fun _ wr => s.size - wr.iterPos (w1.heap.size + 1))
    case atStart =>
      have hs1 : (w1.alloc (Obj.cells #[Value.int IntKind.u8 34] 5)).heap.size = w1.heap.size + 1 := World.size_alloc _ _
      refine ⟨0, [34], _, rfl, ?_, Nat.zero_le _, Lib.hid (by simp), Lib.hid (quo_start w1 s), Lib.hid ?_, Lib.hid ?_, HG0, Lib.hid (by rw [rest_zero]; rfl)⟩
      · have := World.iter_heap (w1.alloc (Obj.cells #[Value.int IntKind.u8 34] 5)) s 0
        rw [hs1] at this; exact this
      · have := (below_iter (w1.alloc (Obj.cells #[Value.int IntKind.u8 34] 5)) s 0).size
        omega
      · exact (HB1.out.alloc HB1.out.size _).trans ((below_iter _ s 0).mono (by rw [hs1]; have := HB1.out.size; omega))
    case round =>
      obtain ⟨pos, acc, v, rfl, hit, hple, hacc, hown, hws, hb, hgood, hrel⟩ := hrel
      by_cases hp : pos < s.size
      · have hnx : ∀ ty, (Instr.next (.pointer (some ⟨w1.heap.size + 1, 0, none⟩)) true ty).run Tryd.prog wr = _ := fun ty => Lib.run_next_any_at wr (w1.heap.size + 1) s pos ty hit hp
        obtain ⟨e1, e2⟩ := decode_ptR s pos
        have hne := rest_ne s pos hp
        have hw := wd_le _ hne
        have hwp := wd_pos (rest s pos)
        rw [rest_len] at hw
        have hpt : 0 ≤ pt (rest s pos) := by
          have h1 := hgood.out
          rcases Int.lt_or_le (pt (rest s pos)) 0 with h | h
          · rw [good_bad _ hne h] at h1; omega
          · exact h
        have hr : ptR (rest s pos) = (((pt (rest s pos)).toNat : Nat) : Int) := by unfold ptR; rw [if_neg (by omega)]; omega
        have HG : Hid (pos + wd (rest s pos) + good (rest s (pos + wd (rest s pos))) = s.size) := Lib.hid (by
          rw [← hgood.out, good_cons _ hne (by omega), rest_drop]; omega)
        have HR : Hid ((acc ++ qP (pt (rest s pos)).toNat) ++ (bodyQ (rest s (pos + wd (rest s pos))) ++ [34]) = quoteL s.data.toList) := Lib.hid (by
          rw [← hrel.out, bodyQ_next _ hne hpt, rest_drop]; simp)
        have hip := isPt_pt _ hpt
        rw [e2, e1, hr] at hnx
        generalize (pt (rest s pos)).toNat = p at *
        generalize wd (rest s pos) = k at *
        have hW := Lib.iterAt_heap wr (w1.heap.size + 1) s pos (pos + k) hit
        have hB : Below w.heap.size w (wr.iterAt (w1.heap.size + 1) s (pos + k)) := Lib.below_iterAt hb.out (by have := HB1.out.size; omega) s (pos + k)
        have hownW := ownsRow_iter hown.out hit (pos + k)
        have hWS : w1.heap.size ≤ (wr.iterAt (w1.heap.size + 1) s (pos + k)).heap.size := by rw [Lib.iterAt_size]; exact hws.out
        generalize wr.iterAt (w1.heap.size + 1) s (pos + k) = W at *
        have hql := qP_len p
        have HA := Lib.hid (appendQuoted_any w1.heap.size v acc p hip W hownW (by have := hacc.out; omega) hWS)
        have HW := Lib.hid hW
        have HB := Lib.hid hB
        have HI := Lib.hid hit
        have HLE := Lib.hid (show (acc ++ qP p).length ≤ 6 * (pos + k) + 1 by rw [List.length_append]; have := hacc.out; omega)
        have HWS := Lib.hid hWS
        clear hW hWS hB hit e1 e2 hne hpt hr hip hownW hql hrel hgood hown hacc
        go_wp2_with fail
        refine HA.out.mono ?_
        rintro e w2 ⟨v2, rfl, h1, hk⟩
        have HB2 := Lib.hid (HB.out.trans (hk.below.mono HB1.out.size))
        have HW2 := Lib.hid (hk.other _ _ HW.out (fun _ _ _ h => by cases h))
        have HO2 := Lib.hid h1
        have HS2 := Lib.hid (Nat.le_trans HWS.out hk.size)
        clear h1 hk
        go_wp2_with fail
        go_roundw
        case rel => exact ⟨pos + k, acc ++ qP p, _, rfl, HW2.out, by omega, HLE, HO2, HS2, HB2, HG, HR⟩
        case measure => rw [iterPos_of HW2.out, iterPos_of HI.out]; omega
      · have hnx : ∀ ty, (Instr.next (.pointer (some ⟨w1.heap.size + 1, 0, none⟩)) true ty).run Tryd.prog wr = _ := fun ty => Lib.run_next_end_at wr (w1.heap.size + 1) s pos ty hit hp
        have HR : Hid (acc ++ [34] = quoteL s.data.toList) := Lib.hid (by rw [← hrel.out, rest_end s pos hp]; rfl)
        have HO := Lib.hid hown.out
        have HLA := Lib.hid (show acc.length ≤ 6000001 by have := hacc.out; omega)
        clear hit hrel hgood hacc
        go_wp2_with (at_builtin; refine wpList_append_own _ rfl _ _ 35 rfl w1.heap.size 5 i0 (.int .u8 0) 1 1 Tryd.underlying35 hi hz0 hz1 hz2 rfl (by decide) _ _ _ rfl (HO.out.alloc _) ⟨wr.heap.size, 0, none⟩ 1 1 [.int .u8 34] rfl rfl ?c1 ?c2 ?c3 ?c4 ?c5 ?_)
        case c1 => exact new_add _ _ _
        case c2 => simp [Value.oneCell']
        case c3 => have := HLA.out; unfold maxLen; omega
        case c4 => have := HLA.out; omega
        case c5 => rw [World.size_alloc]; have := hws.out; omega
        intro v2 w2 hown2 hg2 hne2
        have hk := (kp_below ((Below.refl _ _).alloc (Nat.le_refl _) (.cells #[.int .u8 34] 5)) hws.out).trans (kp_grown (HO.out.alloc _) hg2 (by rw [World.size_alloc]; have := hws.out; omega))
        have HB2 := Lib.hid (hb.out.trans (hk.below.mono HB1.out.size))
        have hrow : w2.ownsRow w1.heap.size 5 1 v2 (quoteL s.data.toList).length (bcells (quoteL s.data.toList)) := by
          rw [← HR.out, List.length_append, bcells_append]; exact hown2
        have hcv := str_conv hrow
        clear hown2 hg2 hne2 hk hrow
        go_wp2_with fail
        go_ret2
        exact ⟨rfl, HB2.out⟩
end Go.Proofs.YtmkjoonbjmieoaaDoor
