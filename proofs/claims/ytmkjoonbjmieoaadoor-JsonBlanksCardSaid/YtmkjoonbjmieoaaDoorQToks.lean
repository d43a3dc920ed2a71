/-
  jtext's tokenAt and Tokens AT EVERY TEXT of at most 1000000 bytes: what they return; no memory that was there turns. Conditions: the text's length; the variables that are read hold what their text lays (Facts).
-/
import Derived.Test.YtmkjoonbjmieoaaDoorQTokA
import Derived.Test.YtmkjoonbjmieoaaDoorQTokB
import Derived.Test.YtmkjoonbjmieoaaDoorQTokC
import Derived.Test.YtmkjoonbjmieoaaDoorQPlain2
import Derived.Test.YtmkjoonbjmieoaaDoorQPast
namespace Go.Proofs.YtmkjoonbjmieoaaDoor
open Go.RowKit

/-- A text of bytes. -/
def txt (l : List UInt8) : ByteArray := ⟨l.toArray⟩
theorem txt_take (s : ByteArray) (k n : Nat) : s.extract k (k + n) = txt ((rest s k).take n) := by
  apply ByteArray.ext
  show (s.extract k (k + n)).data = ((rest s k).take n).toArray
  rw [← extract_take]
/-- What tokenAt hands back. -/
def tokV (k : Nat) : Option Tk → Value
  | some (q, x, n) => .tuple #[.agg #[.int .i64 (q : Int), .string (txt x), .int .i64 (k : Int), .int .i64 ((k + n : Nat) : Int)], .bool true]
  | none => .tuple #[.agg #[.int .i64 0, .string ⟨#[]⟩, .int .i64 0, .int .i64 0], .bool false]
theorem tokenAt_any (s : ByteArray) (k : Nat) (hs : s.size ≤ 1000000) (hk : k < s.size) (a : Nat) (w : World) (hF : Facts w) (hK : Known w a) : Calls Tryd.prog 26 #[.slice (some ⟨a, 0, none⟩) 4 4, .string s, .int .i64 k] w fun e w' => e = .returned (tokV k (tokP (rest s k))) ∧ Below w.heap.size w w' := by
  unfold tokP
  by_cases h1 : markLen (rest s k) = 0
  · rw [if_neg (by omega)]
    by_cases h2 : wordLen (rest s k) = 0
    · rw [if_neg (by omega)]
      by_cases h3 : numLen (rest s k) = 0
      · rw [if_neg (by omega)]
        cases h4 : tokStr (rest s k) with
        | none => exact tokenAt_none s k hs hk h1 h2 h3 h4 a w hF hK
        | some y =>
          obtain ⟨x, n⟩ := y
          have hl := tokStr_len h4
          rw [rest_len] at hl
          exact tokenAt_str s k hs hk h1 h2 h3 x n h4 (by omega) (by omega) a w hF hK
      · rw [if_pos h3]
        have := tokenAt_num s k hs hk h1 h2 _ rfl h3 a w hF hK
        rw [txt_take] at this
        exact this
    · rw [if_pos h2]
      have := tokenAt_word s k hs hk h1 _ rfl h2 a w hF hK
      rw [txt_take] at this
      exact this
  · rw [if_pos h1]
    have := tokenAt_mark s k hs hk _ rfl h1 a w hF hK
    rw [txt_take] at this
    exact this
theorem Tryd.info61 : (Tryd.prog.info? 61).map (fun i => (i.zero, i.size, i.bytes)) = some (some (.agg #[.int .i64 0, .string ⟨#[]⟩, .int .i64 0, .int .i64 0]), 4, 40) := by kernel_rfl
def tcell (t : Tok) : List Value := [.int .i64 (t.1 : Int), .string (txt t.2.1), .int .i64 (t.2.2.1 : Int), .int .i64 (t.2.2.2 : Int)]
def tcells (l : List Tok) : List Value := l.flatMap tcell
theorem tcells_snoc (l : List Tok) (t : Tok) : tcells (l ++ [t]) = tcells l ++ tcell t := by simp [tcells]
theorem new_add2 (w : World) (o : Obj) (l : List Value) (t : TypeId) : ∀ j v, l[j]? = some v → ((w.alloc o).alloc (.cells l.toArray t)).cell? ((⟨w.heap.size + 1, 0, none⟩ : Addr).add j) = some v := by
  intro j v h
  rw [Addr.add_lit, Nat.zero_add, World.cell?_alloc_at _ _ _ _ (World.size_alloc _ _).symm]
  simpa using h
theorem known_keep {w w' : World} {a : Nat} (h : Known w a) (hb : Below w.heap.size w w') : Known w' a :=
  ⟨cell_keep2 hb h.c0, cell_keep2 hb h.c1, cell_keep2 hb h.c2, cell_keep2 hb h.c3, cell_keep2 hb h.c4, cell_keep2 hb h.c5, cell_keep2 hb h.c6, cell_keep2 hb h.c7⟩
theorem known_lt {w : World} {a : Nat} (h : Known w a) : a < w.heap.size := by
  have := h.c0
  rcases Nat.lt_or_ge a w.heap.size with h | h
  · exact h
  · simp [World.cell?, Array.getElem?_eq_none h] at this
theorem cell_block {w w' : World} {a : Nat} (h : w'.heap[a]? = w.heap[a]?) (i : Nat) : w'.cell? ⟨a, i, none⟩ = w.cell? ⟨a, i, none⟩ := by
  simp only [World.cell?, h]
theorem known_block {w w' : World} {a : Nat} (h : Known w a) (hb : w'.heap[a]? = w.heap[a]?) : Known w' a :=
  ⟨(cell_block hb _).trans h.c0, (cell_block hb _).trans h.c1, (cell_block hb _).trans h.c2, (cell_block hb _).trans h.c3, (cell_block hb _).trans h.c4, (cell_block hb _).trans h.c5, (cell_block hb _).trans h.c6, (cell_block hb _).trans h.c7⟩
theorem ownsRow_base {W : World} {B B' e n sz : Nat} {v : Value} {xs : List Value} (h : W.ownsRow B e sz v n xs) (hB : B' ≤ B) : W.ownsRow B' e sz v n xs := by
  refine ⟨h.1, ?_⟩
  rcases h.2 with h0 | ⟨g, cap, cur, h1, h2, h3⟩
  · exact .inl h0
  · exact .inr ⟨g, cap, cur, h1, Nat.le_trans hB h2, h3⟩
theorem own_far {W : World} {B e n sz : Nat} {v : Value} {xs : List Value} (h : W.ownsRow B e sz v n xs) (a : Nat) (ha : a < B ∨ W.heap.size ≤ a) : some a ≠ v.ownBlock := by
  intro ej
  have := World.ownsRow.lt h a ej.symm
  omega
theorem new_cell3 (w : World) (a b c d : Value) (t : TypeId) : (w.alloc (.cells #[a, b, c, d] t)).cell? ⟨w.heap.size, 3, none⟩ = some d := by
  rw [World.cell?_alloc_at _ _ _ _ rfl]; rfl
theorem slice_form {w : World} {base : Nat} {e : TypeId} {size : Nat} {v : Value} {n : Nat} {xs : List Value} (h : w.ownsRow base e size v n xs) : ∃ A c, v = .slice A n c := by
  rcases h.2 with ⟨rfl, h0⟩ | ⟨g, cap, cur, rfl, _⟩
  · subst h0; exact ⟨_, _, rfl⟩
  · exact ⟨_, _, rfl⟩
/-- The tokens of a text, or where there are none, and why. -/
def tokE : Except Nat (List Tok) → Except (Nat × Nat) (List Tok)
  | .ok l => .ok l
  | .error k => .error (k, 4)
def tokensR (l : List UInt8) : Except (Nat × Nat) (List Tok) := if good l < l.length then .error (good l, 8) else tokE (toks 0 l)
def lst : Except (Nat × Nat) (List Tok) → List Tok
  | .ok l => l
  | .error _ => []
def plc : Except (Nat × Nat) (List Tok) → Nat
  | .ok _ => 0
  | .error x => x.1
def err : Except (Nat × Nat) (List Tok) → Nat
  | .ok _ => 0
  | .error x => x.2
/-- What Tokens hands back: a slice in new memory that reads as the tokens, the place, the error. -/
def TokensEnd (s : ByteArray) (w : World) (e : Ending) (w' : World) : Prop :=
  ∃ v, e = .returned (.tuple #[v, .int .i64 (plc (tokensR s.data.toList) : Int), .int .i64 (err (tokensR s.data.toList) : Int)]) ∧
    w'.ownsRow w.heap.size 61 4 v (lst (tokensR s.data.toList)).length (tcells (lst (tokensR s.data.toList))) ∧ Below w.heap.size w w'
theorem ret_v3 {v : Value} {a b c d : Int} (h : a = c) (k : b = d) : Ending.returned (.tuple #[v, .int .i64 a, .int .i64 b]) = .returned (.tuple #[v, .int .i64 c, .int .i64 d]) := by rw [h, k]
set_option maxRecDepth 100000 in
set_option maxHeartbeats 4000000 in
theorem tokens_any (s : ByteArray) (hs : s.size ≤ 1000000) (w : World) (hF : Facts w) : Calls Tryd.prog 13 #[.string s] w (TokensEnd s w) := by
  obtain ⟨i0, hi, hz0, hz1, hz2⟩ := info_parts Tryd.info61
  have HF := Lib.hid hF
  have HP := Lib.hid (fun (w : World) (hF : Facts w) => pastUTF8_any s w hF)
  have hgl := good_le s.data.toList
  have hsl : s.data.toList.length = s.size := rfl
  rw [hsl] at hgl
  unfold TokensEnd tokensR
  rw [hsl]
  by_cases hg : good s.data.toList < s.size
  · simp only [if_pos hg, lst, plc, err]
    generalize good s.data.toList = g at *
    clear hF hi hz0 hz1 hz2 hsl
    go_enter Tryd.func13, Tryd.ntmps13
    go_wp2_with fail
    refine (HP.out _ HF.out).mono ?_
    rintro e w1 ⟨rfl, hb⟩
    have HB1 := Lib.hid hb
    clear hb
    go_wp2_with fail
    go_ret3
    exact ⟨_, rfl, World.ownsRow_nil _ _ _ _, HB1.out⟩
  · have e1 : good s.data.toList = s.size := by omega
    rw [e1] at HP
    obtain ⟨R, hR⟩ : ∃ R, R = toks 0 s.data.toList := ⟨_, rfl⟩
    simp only [if_neg hg, ← hR]
    have HR : Hid (behind [] (toks (0 + run isB (rest s 0)) (rest s (0 + run isB (rest s 0)))) = R) := Lib.hid (by rw [behind_nil, ← rest_drop, ← toks_blanks, rest_zero, hR])
    have hb0 := run_le isB (rest s 0)
    rw [rest_len] at hb0
    have HB0 := Lib.hid (fun w => pastBlanks_any s 0 (by omega) hs w)
    have HFB : Hid (fst isB (rest s (0 + run isB (rest s 0))) = false) := Lib.hid (by rw [← rest_drop]; exact fst_run _ _)
    have hlb : 0 + run isB (rest s 0) ≤ s.size := by omega
    clear hg e1 hR hF hgl hb0 hsl
    generalize 0 + run isB (rest s 0) = p0 at *
    go_enter Tryd.func13, Tryd.ntmps13
    go_wp2_with fail
    refine (HP.out _ HF.out).mono ?_
    rintro e w1 ⟨rfl, hb⟩
    have HB1 := Lib.hid hb
    clear hb
    go_wp2_with fail
    refine (finders_any _).mono ?_
    rintro e w2 ⟨rfl, hk, hb⟩
    have HK := Lib.hid hk
    have HB2 := Lib.hid (HB1.out.trans (hb.mono HB1.out.size))
    clear hb hk
    go_wp2_with fail
    refine (HB0.out _).mono ?_
    rintro e w' ⟨rfl, rfl⟩
    have HKL := Lib.hid (known_lt HK.out)
    have HBL := Lib.hid HB2.out.size
    generalize w1.heap.size = ka at *
    obtain ⟨b2, hb2⟩ : ∃ b, b = w2.heap.size := ⟨_, rfl⟩
    rw [← hb2] at HKL HBL
    have HE2 := Lib.hid hb2
    clear hb2
    clear HP HB1 HB0
    go_wp2_with fail
    go_loopw [2, 7] (fun v u wr => ∃ (pos : Nat) (acc : List Tok) (v0 : Value), v0 = v ∧ pos ≤ s.size ∧ u = .int .i64 pos ∧ Hid (acc.length ≤ pos) ∧ Hid (wr.ownsRow b2 61 4 v0 acc.length (tcells acc)) ∧ Hid (b2 ≤ wr.heap.size) ∧ Hid (Below w.heap.size w wr) ∧ Hid (Known wr ka) ∧ Hid (behind acc (toks pos (rest s pos)) = R) ∧ Hid (fst isB (rest s pos) = false)) (fun _ u _ => s.size - (intOf u).toNat)
    case atStart => exact ⟨p0, [], _, rfl, hlb, rfl, Lib.hid (by simp), Lib.hid (World.ownsRow_nil _ _ _ _), Lib.hid (by rw [HE2.out]; exact Nat.le_refl _), HB2, HK, HR, HFB⟩
    case round =>
      obtain ⟨pos, acc, v, rfl, hpos, rfl, hacc, hown, hws, hb, hk, hrel, hnb⟩ := hrel
      by_cases hlt : pos < s.size
      · have hne := rest_ne s pos hlt
        have HT := Lib.hid (tokenAt_any s pos hs hlt ka wr (HF.out.below hb.out) hk.out)
        cases ht : tokP (rest s pos) with
        | none =>
          rw [ht] at HT
          unfold tokV at HT
          have HV : Hid (R = .error pos) := Lib.hid (by rw [← hrel.out, behind_bad _ _ _ hne hnb.out ht])
          clear ht hne hi hz0 hz1 hz2
          go_wp2_with fail
          refine HT.out.mono ?_
          rintro e w3 ⟨rfl, hb3⟩
          have HB3 := Lib.hid (hb.out.trans (hb3.mono hb.out.size))
          clear hb3
          go_wp2_with fail
          go_ret3
          exact ⟨_, by rw [HV.out]; rfl, by rw [HV.out]; exact World.ownsRow_nil _ _ _ _, HB3.out.alloc HB3.out.size _⟩
        | some x =>
          obtain ⟨q, x, n⟩ := x
          rw [ht] at HT
          have htv : tokV pos (some (q, x, n)) = .tuple #[.agg #[.int .i64 (q : Int), .string (txt x), .int .i64 (pos : Int), .int .i64 ((pos + n : Nat) : Int)], .bool true] := rfl
          rw [htv] at HT
          clear htv
          obtain ⟨hn1, hn2, _⟩ := tokP_len ht
          rw [rest_len] at hn2
          have HV : Hid (behind (acc ++ [(q, x, pos, pos + n)]) (toks (pos + n + run isB (rest s (pos + n))) (rest s (pos + n + run isB (rest s (pos + n))))) = R) := Lib.hid (by
            rw [← hrel.out, behind_step acc pos _ hne hnb.out q x n ht, rest_drop, toks_blanks (pos + n), rest_drop])
          have HFB2 : Hid (fst isB (rest s (pos + n + run isB (rest s (pos + n)))) = false) := Lib.hid (by rw [← rest_drop]; exact fst_run _ _)
          have hr1 := run_le isB (rest s (pos + n))
          rw [rest_len] at hr1
          have HPB : Hid (∀ w, Calls Tryd.prog 25 #[.string s, .int .i64 ((pos + n : Nat) : Int)] w fun e w' => e = .returned (.int .i64 ((pos + n + run isB (rest s (pos + n)) : Nat) : Int)) ∧ w = w') := Lib.hid (fun w => pastBlanks_any s (pos + n) (by omega) hs w)
          generalize run isB (rest s (pos + n)) = m at *
          generalize hto : ((pos + n : Nat) : Int) = z at *
          have HTO := Lib.hid hto
          have HAC := Lib.hid (show acc.length ≤ 1000000 by have := hacc.out; omega)
          have HNL := Lib.hid (show (acc ++ [(q, x, pos, pos + n)]).length ≤ pos + n + m by rw [List.length_append]; have := hacc.out; simp; omega)
          clear ht hne hto hrel hnb hacc
          go_wp2_with fail
          refine HT.out.mono ?_
          rintro e w3 ⟨rfl, hb3⟩
          have HB3 := Lib.hid (hb.out.trans (hb3.mono hb.out.size))
          have hown3 := ownsRow_below hown.out hb3
          have HW3 := Lib.hid (Nat.le_trans hws.out hb3.size)
          have HK3 : Hid (Known w3 ka) := Lib.hid (known_keep hk.out hb3)
          clear hb3 HT
          go_wp2_with (at_builtin; refine wpList_append_own _ rfl _ _ 41 rfl b2 61 i0 (.agg #[.int .i64 0, .string ⟨#[]⟩, .int .i64 0, .int .i64 0]) 4 40 Tryd.underlying41 hi hz0 hz1 hz2 rfl (by decide) _ _ _ rfl ((hown3.alloc _).alloc _) ⟨w3.heap.size + 1, 0, none⟩ 1 1 [.int .i64 (q : Int), .string (txt x), .int .i64 (pos : Int), .int .i64 z] rfl rfl ?c1 ?c2 ?c3 ?c4 ?c5 ?_)
          case c1 => exact new_add2 _ _ _ _
          case c2 => simp [Value.oneCell']
          case c3 => have := HAC.out; unfold maxLen; omega
          case c4 => have := HAC.out; omega
          case c5 => simp only [World.size_alloc]; have := HW3.out; omega
          intro v' w4 hown' hgrow hne
          have hs1 : (w3.alloc (.cells #[.int .i64 (q : Int), .string (txt x), .int .i64 (pos : Int), .int .i64 z] 61)).heap.size = w3.heap.size + 1 := World.size_alloc _ _
          have hs2 : ((w3.alloc (.cells #[.int .i64 (q : Int), .string (txt x), .int .i64 (pos : Int), .int .i64 z] 61)).alloc (.cells #[.int .i64 (q : Int), .string (txt x), .int .i64 (pos : Int), .int .i64 z] 61)).heap.size = w3.heap.size + 1 + 1 := (World.size_alloc _ _).trans (by rw [hs1])
          have kk : Below w3.heap.size w3 ((w3.alloc (.cells #[.int .i64 (q : Int), .string (txt x), .int .i64 (pos : Int), .int .i64 z] 61)).alloc (.cells #[.int .i64 (q : Int), .string (txt x), .int .i64 (pos : Int), .int .i64 z] 61)) := ((Below.refl _ _).alloc (Nat.le_refl _) _).alloc (by rw [hs1]; omega) _
          have HB4 : Hid (Below w.heap.size w w4) := Lib.hid ((HB3.out.trans (kk.mono HB3.out.size)).grown hgrow (by rw [hs2]; have := HB3.out.size; omega) (fun j ej => Nat.le_trans HBL.out (World.ownsRow.lt hown3 j ej).1))
          have HK4 : Hid (Known w4 ka) := Lib.hid (known_block (known_keep HK3.out kk) (hgrow.block ka (by rw [hs2]; have := known_lt HK3.out; omega) (own_far hown3 ka (.inl HKL.out))))
          have hc3 : w4.cell? ⟨w3.heap.size, 3, none⟩ = some (.int .i64 z) := by
            rw [cell_block (hgrow.block w3.heap.size (by rw [hs2]; omega) (own_far hown3 _ (.inr (Nat.le_refl _))))]
            have k2 : Below (w3.alloc (.cells #[.int .i64 (q : Int), .string (txt x), .int .i64 (pos : Int), .int .i64 z] 61)).heap.size (w3.alloc (.cells #[.int .i64 (q : Int), .string (txt x), .int .i64 (pos : Int), .int .i64 z] 61)) ((w3.alloc (.cells #[.int .i64 (q : Int), .string (txt x), .int .i64 (pos : Int), .int .i64 z] 61)).alloc (.cells #[.int .i64 (q : Int), .string (txt x), .int .i64 (pos : Int), .int .i64 z] 61)) := (Below.refl _ _).alloc (Nat.le_refl _) _
            exact cell_keep2 k2 (new_cell3 _ _ _ _ _ _)
          have HW4 : Hid (b2 ≤ w4.heap.size) := Lib.hid (by have := hgrow.size; rw [hs2] at this; have := HW3.out; omega)
          have hr : tcells acc ++ [Value.int .i64 (q : Int), .string (txt x), .int .i64 (pos : Int), .int .i64 z] = tcells (acc ++ [(q, x, pos, pos + n)]) := by
            rw [tcells_snoc, ← HTO.out]; rfl
          rw [hr] at hown'
          have hl1 : acc.length + 1 = (acc ++ [(q, x, pos, pos + n)]).length := by simp
          rw [hl1] at hown'
          have HO4 := Lib.hid hown'
          clear hr hown' hgrow hne hown3 kk hs1 hs2 hl1
          go_wp2_with fail
          refine (HPB.out _).mono ?_
          rintro e w' ⟨rfl, rfl⟩
          go_wp2_with fail
          refine ⟨⟨pos + n + m, acc ++ [(q, x, pos, pos + n)], v', rfl, by omega, by go_num, HNL, HO4, HW4, HB4, HK4, HV, HFB2⟩, ?_⟩
          simp [RowKit.intOf]; omega
      · have HV : Hid (R = .ok acc) := Lib.hid (by rw [← hrel.out, rest_end s pos hlt, toks_end]; simp [behind])
        clear hi hz0 hz1 hz2
        obtain ⟨A, c, rfl⟩ := slice_form hown.out
        go_wp2_with fail
        go_ret3
        exact ⟨_, by rw [HV.out]; rfl, by rw [HV.out]; exact ownsRow_base hown.out HBL.out, hb.out⟩
end Go.Proofs.YtmkjoonbjmieoaaDoor
