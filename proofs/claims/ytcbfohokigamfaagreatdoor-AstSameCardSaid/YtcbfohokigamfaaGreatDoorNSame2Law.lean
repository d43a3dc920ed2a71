/-
  emendref10's Size, emendlaw10.few, emendref10's Same: what they tell of each tree. Conditions: names and rows of less than 2^63 bytes and trees (Lim).
  ast.isToken: what it tells of each text, by the tokens of the text. Conditions: Facts; what num.Float says of the floats that stand in the text (FSpec).
  emendref10's Same, emendlaw10's few, AstSame: what they tell of each tree. Conditions: names and rows of less than 2^63 bytes and trees (Lim); those of works.
  FOR CARDS: an argument of type api.Node opened: a tree in memory (open_node). No condition but those that the theorem says.
  The walk of emendlaw10.AstSame, for its card. Condition: the variables that are read hold what their text lays.
-/
import Derived.Test.YtcbfohokigamfaaGreatDoorNWorks
import Derived.Test.YtcbfohokigamfaaGreatDoorLAwake
import Derived.BigQuiet
import Derived.Lib.SmallJoins
import Derived.Deep.SlicePairs
import Derived.Deep.Strs
import Derived.OpenShut
namespace Go.Proofs.YtcbfohokigamfaaGreatDoor
open Go.RowKit

mutual
def sizeP : Nd → Int → Int
  | .mk _ _ _ _ s l, z => sizePL l (z - 1 - s.size)
def sizePL : List Nd → Int → Int
  | [], z => z
  | n :: l, z => if 0 < z then sizePL l (sizeP n z) else z
end
mutual
/-- Names and rows are not too long. -/
def Lim : Nd → Prop
  | .mk _ _ _ _ s l => s.size ≤ 9223372036854775807 ∧ l.length ≤ 9223372036854775807 ∧ LimL l
def LimL : List Nd → Prop
  | [] => True
  | n :: l => Lim n ∧ LimL l
end
theorem Lim.open {n : Nd} (h : Lim n) : n.name.size ≤ 9223372036854775807 ∧ n.kids.length ≤ 9223372036854775807 ∧ LimL n.kids := by
  cases n
  rw [Lim] at h
  exact h
theorem LimL.mem : ∀ {l : List Nd}, LimL l → ∀ t ∈ l, Lim t
  | [], _, t, ht => by cases ht
  | n :: l, h, t, ht => by
    rw [LimL] at h
    rcases List.mem_cons.1 ht with rfl | ht
    · exact h.1
    · exact LimL.mem h.2 t ht
theorem sizeP_eq (n : Nd) (z : Int) : sizeP n z = sizePL n.kids (z - 1 - n.name.size) := by cases n; rw [sizeP]; rfl
mutual
theorem sizeP_le : ∀ (n : Nd) (z : Int), sizeP n z ≤ z - 1
  | .mk _ _ _ _ s l, z => by
    rw [sizeP]
    have := sizePL_le l (z - 1 - s.size)
    omega
theorem sizePL_le : ∀ (l : List Nd) (z : Int), sizePL l z ≤ z
  | [], z => by rw [sizePL]; exact Int.le_refl _
  | n :: l, z => by
    rw [sizePL]
    split
    · have h1 := sizePL_le l (sizeP n z)
      have h2 := sizeP_le n z
      omega
    · exact Int.le_refl _
end
mutual
theorem sizeP_pos : ∀ (n : Nd) (z : Int), (sz n : Int) < z → sizeP n z = z - sz n
  | .mk _ _ _ _ s l, z, h => by
    rw [sizeP]
    rw [sz] at h ⊢
    rw [sizePL_pos l _ (by push_cast at h; omega)]
    push_cast
    omega
theorem sizePL_pos : ∀ (l : List Nd) (z : Int), (szL l : Int) < z → sizePL l z = z - szL l
  | [], z, h => by rw [sizePL, szL]; simp
  | n :: l, z, h => by
    rw [szL] at h
    push_cast at h
    rw [sizePL, if_pos (by omega), sizeP_pos n z (by omega), sizePL_pos l _ (by omega), szL]
    push_cast
    omega
end
mutual
theorem sizeP_neg : ∀ (n : Nd) (z : Int), z ≤ (sz n : Int) → sizeP n z ≤ 0
  | .mk _ _ _ _ s l, z, h => by
    rw [sizeP]
    rw [sz] at h
    exact sizePL_neg l _ (by push_cast at h; omega)
theorem sizePL_neg : ∀ (l : List Nd) (z : Int), z ≤ (szL l : Int) → sizePL l z ≤ 0
  | [], z, h => by rw [szL] at h; rw [sizePL]; simpa using h
  | n :: l, z, h => by
    rw [szL] at h
    push_cast at h
    rw [sizePL]
    split
    · by_cases h1 : z ≤ (sz n : Int)
      · have h2 := sizeP_neg n z h1
        have h3 := sizePL_le l (sizeP n z)
        omega
      · rw [sizeP_pos n z (by omega)]
        exact sizePL_neg l _ (by omega)
    · omega
end
theorem few_iff (n : Nd) : decide (0 < sizeP n 3000) = decide (sz n < 3000) := by
  rw [Bool.eq_iff_iff, decide_eq_true_eq, decide_eq_true_eq]
  constructor
  · intro h
    rcases Nat.lt_or_ge (sz n) 3000 with h1 | h1
    · exact h1
    · have := sizeP_neg n 3000 (by omega)
      omega
  · intro h
    rw [sizeP_pos n 3000 (by omega)]
    omega
theorem sizeP_low (n : Nd) (h : Lim n) (z : Int) (hz : 0 < z) : -9223372036854775807 ≤ sizeP n z := by
  have key : ∀ f (n : Nd) (z : Int), sz n ≤ f → Lim n → 0 < z → -9223372036854775807 ≤ sizeP n z := by
    intro f
    induction f with
    | zero => intro n z hf; have := sz_pos n; omega
    | succ f ih =>
      intro n z hf h hz
      obtain ⟨h1, h2, h3⟩ := h.open
      rw [sizeP_eq]
      have hk : ∀ (l : List Nd) (z : Int), (∀ t ∈ l, Lim t ∧ sz t ≤ f) → -9223372036854775807 ≤ z → -9223372036854775807 ≤ sizePL l z := by
        intro l
        induction l with
        | nil => intro z _ hz; rw [sizePL]; exact hz
        | cons t l ihl =>
          intro z ht hz
          rw [sizePL]
          split
          · obtain ⟨h4, h5⟩ := ht t (List.mem_cons_self ..)
            exact ihl _ (fun s hs => ht s (List.mem_cons_of_mem _ hs)) (ih t z h5 h4 (by omega))
          · exact hz
      refine hk n.kids _ (fun t ht => ⟨h3.mem t ht, ?_⟩) (by omega)
      obtain ⟨i, hi, e⟩ := List.getElem_of_mem ht
      have := sz_kid (n := n) (m := t) (i := i) (by rw [List.getElem?_eq_getElem hi, e])
      omega
  exact key (sz n) n z (Nat.le_refl _) h hz
set_option maxRecDepth 100000 in
set_option maxHeartbeats 2000000 in
theorem size_any : ∀ (f : Nat) (T : Nd) (u : Value) (z : Int) (w : World), sz T ≤ f → Lim T → 0 < z → z ≤ 3000 → NIn w TT T u →
    Calls Tryz.prog 48 #[u, .int .i64 z] w fun e w' => e = .returned (.int .i64 (sizeP T z)) ∧ Below w.heap.size w w' := by
  intro f
  induction f with
  | zero => intro T _ _ _ h; have := sz_pos T; omega
  | succ f ih =>
    intro T u z w hf hL hz0 hz1 hu
    obtain ⟨ia, ic, rfl, hcc, hk⟩ := hu.open
    obtain ⟨hl1, hl2, hl3⟩ := hL.open
    obtain ⟨B1, T1, Z1, K1⟩ := one_more (Below.refl w.heap.size w) (Nat.le_refl _) #[.int .i64 T.kind, .int .i64 T.fro, .int .i64 T.till, .int .i64 T.at', .string T.name, .slice ia T.kids.length ic] 24
    have HB := Lib.hid B1
    have HT := Lib.hid T1
    have HKS := Lib.hid (hk.below B1)
    have HIH := Lib.hid ih
    have HLM := Lib.hid hl3
    have HSZ := Lib.hid hf
    have hw1 : IntKind.i64.wrap (z - 1) = z - 1 := IntWalk.i64_in _ (by omega)
    have hw2 : IntKind.i64.wrap (z - 1 - (T.name.size : Int)) = z - 1 - (T.name.size : Int) := IntWalk.i64_in _ (by omega)
    have HS : Hid (sizeP T z = sizePL T.kids (z - 1 - T.name.size)) := Lib.hid (sizeP_eq T z)
    have hzz : -9223372036854775807 ≤ z - 1 - (T.name.size : Int) ∧ z - 1 - (T.name.size : Int) ≤ 3000 := by omega
    generalize hkn : T.kids.length = n at *
    have HKN := Lib.hid hkn
    clear B1 T1 Z1 K1 hk hu ih hL hl3 hf hkn
    go_enter Tryz.func48, Tryz.ntmps48
    go_wp2_with fail
    generalize w.alloc (.cells #[.int .i64 T.kind, .int .i64 T.fro, .int .i64 T.till, .int .i64 T.at', .string T.name, .slice ia n ic] 24) = w1 at *
    generalize hz2 : z - 1 - (T.name.size : Int) = z2 at *
    clear hz2
    go_loopg [1, 5] n (fun gg s1 s5 wr => ∃ (k : Nat) (y : Int), k ≤ n ∧ n - k ≤ gg ∧ s5 = .int .i64 (k : Int) ∧ s1 = .int .i64 y ∧ -9223372036854775807 ≤ y ∧ y ≤ 3000 ∧ Aside (sizePL T.kids z2 = sizePL (T.kids.drop k) y) ∧ Aside (Below w1.heap.size w1 wr))
    case atStart => exact ⟨0, z2, Nat.zero_le _, by omega, rfl, rfl, hzz.1, hzz.2, rfl, Below.refl _ _⟩
    case round =>
      obtain ⟨k, y, hk, hg, rfl, rfl, hy1, hy2, HY, BW⟩ := hrel
      obtain ⟨k0, k1, k2, k3, k4, k5⟩ := six_cells ((BW.out.block _ (Array.getElem?_eq_some_iff.1 HT.out).1).trans HT.out)
      by_cases hlt : k < n
      · have hltz : (k : Int) < (n : Int) := by omega
        by_cases hyp : 0 < y
        · have hll : k < T.kids.length := by rw [HKN.out]; exact hlt
          obtain ⟨b, o, rfl, -, hrow⟩ := HKS.out (by omega)
          obtain ⟨t, ht⟩ : ∃ t, T.kids[k]? = some t := ⟨_, List.getElem?_eq_getElem hll⟩
          have hrow2 := NLn.keep (W' := wr) (Q := TT) (fun k _ hk => BW.out.block k hk) (fun _ hP _ => hP) b trivial _ _ hrow
          obtain ⟨ja, jc, d0, d1, d2, d3, d4, d5, hic, hkk2⟩ := hrow2.row ht
          have hts := sz_kid ht
          have hsz := HSZ.out
          have hlt2 := HLM.out.mem t (List.mem_of_getElem? ht)
          have HI := Lib.hid (HIH.out t _ y wr (by omega) hlt2 hyp hy2 (NIn.shut hic hkk2))
          have hlo := sizeP_low t hlt2 y hyp
          have hup := sizeP_le t y
          have HY2 : Hid (sizePL T.kids z2 = sizePL (T.kids.drop (k + 1)) (sizeP t y)) := Lib.hid (by rw [HY.out, drop_consN ht, sizePL, if_pos hyp])
          have HKL := Lib.hid (And.intro hlt hg)
          generalize sizeP t y = y2 at *
          clear hrow hrow2 hic hkk2 hts hsz hlt2 ht hll HY hg hlt
          go_wp2_with fail
          refine HI.out.mono ?_
          rintro e w' ⟨rfl, hb⟩
          have HB2 := Lib.hid (BW.out.trans (hb.mono BW.out.size))
          clear hb HI k0 k1 k2 k3 k4 k5
          go_wp2_with fail
          go_roundg (n - (k + 1))
          case measure => have := HKL.out; omega
          case rel =>
            have h1 := HKL.out
            exact ⟨k + 1, y2, by omega, Nat.le_refl _, by go_num, rfl, hlo, by omega, HY2.out, HB2.out⟩
        · have hll : k < T.kids.length := by rw [HKN.out]; exact hlt
          obtain ⟨t, ht⟩ : ∃ t, T.kids[k]? = some t := ⟨_, List.getElem?_eq_getElem hll⟩
          have HX : Hid (sizeP T z = y) := Lib.hid (by rw [HS.out, HY.out, drop_consN ht, sizePL, if_neg hyp])
          clear HY ht hll
          go_wp2_with fail
          go_ret
          refine ⟨?_, HB.out.trans (BW.out.mono HB.out.size)⟩
          rw [HX.out]; rfl
      · have hltz : ¬ (k : Int) < (n : Int) := by omega
        have hke : k = n := by omega
        have HX : Hid (sizeP T z = y) := Lib.hid (by rw [HS.out, HY.out, List.drop_of_length_le (by rw [HKN.out, hke]; exact Nat.le_refl _), sizePL])
        clear HY hke
        go_wp2_with fail
        go_ret
        refine ⟨?_, HB.out.trans (BW.out.mono HB.out.size)⟩
        rw [HX.out]; rfl
end Go.Proofs.YtcbfohokigamfaaGreatDoor
namespace Go.Proofs.YtcbfohokigamfaaGreatDoor
open Go.RowKit
variable {FW : World → Prop} {ff : List UInt8 → Nat} {OK : List UInt8 → Prop}

/-- Is a text one token of a kind? -/
def tokT (ff : List UInt8 → Nat) (k : Int) (s : ByteArray) : Bool := match tokensL ff s.data.toList with
  | .ok [t, _] => decide ((t.1 : Int) = k) && decide (txt t.2.1 = s)
  | _ => false
set_option maxRecDepth 100000 in
set_option maxHeartbeats 1000000 in
theorem isTok1_any (hS : FSpec FW ff OK) (s : ByteArray) (hs : s.size ≤ 1000000) (hO : floatsOk OK s) (k : Int) (B : Nat) (w : World) (hF : Facts w) (hW : FW w) (hB : w.cell? ⟨B, 0, none⟩ = some (.int .i64 k)) :
    Calls Tryz.prog 223 #[.string s, .pointer (some ⟨B, 0, none⟩)] w fun e w' => e = .returned (.bool (tokT ff k s)) ∧ Below w.heap.size w w' := by
  cases ht : tokensL ff s.data.toList with
  | error p =>
    obtain ⟨q, e0⟩ := p
    have HC := Lib.hid (tokens_no hS s hs hO q e0 ht w hF hW)
    have HT : Hid (tokT ff k s = false) := Lib.hid (by unfold tokT; rw [ht])
    have HB := Lib.hid hB
    clear ht hF hW hS hO hB
    by_cases h0 : (e0 : Int) = 0
    · rw [h0] at HC
      go_enter Tryz.func223, Tryz.ntmps223
      go_wp2_with fail
      refine HC.out.mono ?_
      rintro e w1 ⟨A, cap, rfl, hb⟩
      have HB1 := Lib.hid hb
      clear hb
      go_wp2_with fail
      go_quiet (fail)
      go_wp2_with fail
      go_ret
      exact ⟨by rw [HT.out] <;> rfl, drewN_belowA HB1.out _⟩
    · have hd : decide ((e0 : Int) = 0) = false := decide_eq_false h0
      have hd' : ((e0 : Int) == 0) = false := by simpa using h0
      go_enter Tryz.func223, Tryz.ntmps223
      go_wp2_with fail
      refine HC.out.mono ?_
      rintro e w1 ⟨A, cap, rfl, hb⟩
      have HB1 := Lib.hid hb
      clear hb
      go_wp2_with fail
      go_quiet (fail)
      go_wp2_with fail
      go_ret
      exact ⟨by rw [HT.out] <;> rfl, drewN_belowA HB1.out _⟩
  | ok ts =>
    have HC := Lib.hid (tokens_ok hS s hs hO ts ht w hF hW)
    have HB := Lib.hid hB
    by_cases hl : ts.length = 2
    · match ts, hl with
      | [t, t2], _ =>
      have HT : Hid (tokT ff k s = (decide ((t.1 : Int) = k) && decide (txt t.2.1 = s))) := Lib.hid (by unfold tokT; rw [ht])
      clear ht hF hW hS hO hB
      generalize hT1 : (t.1 : Int) = t1 at *
      generalize hT2 : txt t.2.1 = t3 at *
      by_cases hk : t1 = k
      · have hd1 : decide (t1 = k) = true := decide_eq_true hk
        have hd1' : (t1 == k) = true := by simpa using hk
        by_cases hx : t3 = s
        · have hd2 : decide (t3 = s) = true := decide_eq_true hx
          have hd2' : (t3.toList == s.toList) = true := by rw [hx]; simp
          go_enter Tryz.func223, Tryz.ntmps223
          go_wp2_with fail
          refine HC.out.mono ?_
          rintro e w1 ⟨A, cap, rfl, hr, hb⟩
          obtain ⟨g, rfl, hc⟩ := hr (by simp)
          obtain ⟨a0, a1, -, -⟩ := hc 0 _ rfl
          rw [hT1] at a0
          rw [hT2] at a1
          have kb := cell_kept HB.out rfl hb
          have HB1 := Lib.hid hb
          clear hb hc hr hT1 hT2
          go_wp2_with fail
          go_quiet (fail)
          go_wp2_with fail
          go_ret
          exact ⟨by rw [HT.out, hd1, hd2]; rfl, drewN_belowA HB1.out _⟩
        · have hd2 : decide (t3 = s) = false := decide_eq_false hx
          have hd2' : (t3.toList == s.toList) = false := by rw [beq_eq_false_iff_ne]; intro he; exact hx (by have := Lib.toList_data t3; have h2 := Lib.toList_data s; rw [he] at this; exact ByteArray.ext (Array.ext' (this.symm.trans h2)))
          go_enter Tryz.func223, Tryz.ntmps223
          go_wp2_with fail
          refine HC.out.mono ?_
          rintro e w1 ⟨A, cap, rfl, hr, hb⟩
          obtain ⟨g, rfl, hc⟩ := hr (by simp)
          obtain ⟨a0, a1, -, -⟩ := hc 0 _ rfl
          rw [hT1] at a0
          rw [hT2] at a1
          have kb := cell_kept HB.out rfl hb
          have HB1 := Lib.hid hb
          clear hb hc hr hT1 hT2
          go_wp2_with fail
          go_quiet (fail)
          go_wp2_with fail
          go_ret
          exact ⟨by rw [HT.out, hd1, hd2]; rfl, drewN_belowA HB1.out _⟩
      · have hd1 : decide (t1 = k) = false := decide_eq_false hk
        have hd1' : (t1 == k) = false := by simpa using hk
        go_enter Tryz.func223, Tryz.ntmps223
        go_wp2_with fail
        refine HC.out.mono ?_
        rintro e w1 ⟨A, cap, rfl, hr, hb⟩
        obtain ⟨g, rfl, hc⟩ := hr (by simp)
        obtain ⟨a0, a1, -, -⟩ := hc 0 _ rfl
        rw [hT1] at a0
        rw [hT2] at a1
        have kb := cell_kept HB.out rfl hb
        have HB1 := Lib.hid hb
        clear hb hc hr hT1 hT2
        go_wp2_with fail
        go_quiet (fail)
        go_wp2_with fail
        go_ret
        exact ⟨by rw [HT.out, hd1]; rfl, drewN_belowA HB1.out _⟩
    · have HT : Hid (tokT ff k s = false) := Lib.hid (by
        unfold tokT; rw [ht]
        match ts, hl with
        | [], _ => rfl
        | [_], _ => rfl
        | [_, _], h => exact absurd rfl h
        | _ :: _ :: _ :: _, _ => rfl)
      have hd : decide ((ts.length : Int) = 2) = false := decide_eq_false (by omega)
      have hd' : ((ts.length : Int) == 2) = false := by rw [beq_eq_false_iff_ne]; omega
      generalize ts.length = n at *
      clear ht hF hW hS hO hB
      go_enter Tryz.func223, Tryz.ntmps223
      go_wp2_with fail
      refine HC.out.mono ?_
      rintro e w1 ⟨A, cap, rfl, -, hb⟩
      have HB1 := Lib.hid hb
      clear hb
      go_wp2_with fail
      go_quiet (fail)
      go_wp2_with fail
      go_ret
      exact ⟨by rw [HT.out] <;> rfl, drewN_belowA HB1.out _⟩
/-- What isToken needs of a world. -/
def TokW (FW : World → Prop) (w : World) : Prop := Facts w ∧ FW w
def TokO (OK : List UInt8 → Prop) (s : ByteArray) : Prop := floatsOk OK s
set_option maxRecDepth 100000 in
theorem isToken_any (hS : FSpec FW ff OK) (W : World) (hW : TokW FW W) (k : Int) :
    Calls Tryz.prog 206 #[.int .i64 k] W fun e w' => ∃ v, e = .returned v ∧ NmV (TokO OK) w' v (tokT ff k) ∧ Below W.heap.size W w' := by
  have HB := Lib.hid (alloc_below W (.cells #[.int .i64 k] 3))
  have HT := Lib.hid (alloc_top W #[.int .i64 k] 3)
  have hmf : ∀ (fn : Fn) (first cap : Array Value) (w : World), (Instr.makeFunc fn first cap).run Tryz.prog w = .ok (.func fn first cap) w := fun _ _ _ _ => rfl
  go_enter Tryz.func206, Tryz.ntmps206
  go_wp2_with fail
  go_ret
  refine ⟨_, rfl, ⟨223, #[.pointer (some ⟨W.heap.size, 0, none⟩)], rfl, enters_of Tryz.func223 (by kernel_rfl) rfl, ?_⟩, HB.out⟩
  intro w2 hw2 s hs hD
  have hB1 : (W.alloc (.cells #[.int .i64 k] 3)).cell? ⟨W.heap.size, 0, none⟩ = some (.int .i64 k) := by unfold World.cell?; simp only [HT.out]; rfl
  exact isTok1_any hS s hs hD k W.heap.size w2 ((hW.1.below HB.out).below hw2) (hS.keep _ _ (hS.keep _ _ hW.2 HB.out) hw2) (cell_kept hB1 rfl hw2)
/-- Check's conditions, out of the lexer's. -/
theorem ready_of (hS : FSpec FW ff OK) : Ready (tokT ff) (TokO OK) (TokW FW) :=
  ⟨fun w w' h hb => ⟨h.1.below hb, hS.keep w w' h.2 hb⟩, fun W hW k _ => isToken_any hS W hW k⟩
/-- The names of the small trees hold no float. -/
theorem small_tok (OK : List UInt8 → Prop) (s : ByteArray) (h : smallB s = true) : TokO OK s := by
  have hl := h
  unfold smallB at hl
  rw [List.contains_iff_mem] at hl
  simp only [List.mem_cons, List.not_mem_nil, or_false] at hl
  refine no_float OK s ?_
  rcases hl with e | e | e | e | e | e | e | e | e | e | e | e | e | e <;> rw [e] <;> kernel_rfl
/-- works, told of its lexer. -/
theorem works_tok (hS : FSpec FW ff OK) (w : World) (hF : Facts w) (hW : FW w) : Calls Tryz.prog 15 #[] w fun e w' => e = .returned (.bool true) ∧ Below w.heap.size w w' :=
  works_any (ready_of hS) (small_tok OK) w ⟨hF, hW⟩
end Go.Proofs.YtcbfohokigamfaaGreatDoor
namespace Go.Proofs.YtcbfohokigamfaaGreatDoor
open Go.RowKit
variable {FW : World → Prop} {ff : List UInt8 → Nat} {OK : List UInt8 → Prop}

mutual
theorem sameN_symm : ∀ a b : Nd, sameN a b = sameN b a
  | .mk k f t p s l, .mk k2 f2 t2 p2 s2 l2 => by
    rw [sameN, sameN]
    show (k == k2 && decide (s = s2) && sameL l l2) = (k2 == k && decide (s2 = s) && sameL l2 l)
    rw [sameL_symm l l2]
    have h1 : (k == k2) = (k2 == k) := by rw [Bool.eq_iff_iff, beq_iff_eq, beq_iff_eq]; exact ⟨Eq.symm, Eq.symm⟩
    have h2 : decide (s = s2) = decide (s2 = s) := by rw [Bool.eq_iff_iff, decide_eq_true_eq, decide_eq_true_eq]; exact ⟨Eq.symm, Eq.symm⟩
    rw [h1, h2]
theorem sameL_symm : ∀ l m : List Nd, sameL l m = sameL m l
  | [], [] => rfl
  | [], _ :: _ => by rw [sameL, sameL] <;> simp
  | _ :: _, [] => by rw [sameL, sameL] <;> simp
  | a :: l, b :: m => by rw [sameL, sameL, sameN_symm a b, sameL_symm l m]
end
theorem sameL_len {l m : List Nd} (h : l.length ≠ m.length) : sameL l m = false := by rw [← allP_same]; exact allP_len _ l m h
set_option maxRecDepth 100000 in
set_option maxHeartbeats 1000000 in
theorem few_any (T : Nd) (u : Value) (w : World) (hL : Lim T) (hu : NIn w TT T u) : Calls Tryz.prog 14 #[u] w fun e w' => e = .returned (.bool (decide (sz T < 3000))) ∧ Below w.heap.size w w' := by
  obtain ⟨ia, ic, rfl, hcc, hk⟩ := hu.open
  obtain ⟨B1, T1, Z1, K1⟩ := one_more (Below.refl w.heap.size w) (Nat.le_refl _) #[.int .i64 T.kind, .int .i64 T.fro, .int .i64 T.till, .int .i64 T.at', .string T.name, .slice ia T.kids.length ic] 24
  have HC := Lib.hid (size_any (sz T) T _ 3000 _ (Nat.le_refl _) hL (by decide) (by decide) (NIn.shut hcc (hk.below B1)))
  have HB := Lib.hid B1
  have HE := Lib.hid (few_iff T)
  clear B1 T1 Z1 K1 hk hu hcc hL
  rw [← HE.out]
  go_enter Tryz.func14, Tryz.ntmps14
  go_wp2_with fail
  refine HC.out.mono ?_
  rintro e w' ⟨rfl, hb⟩
  have HB2 := Lib.hid (HB.out.trans (hb.mono HB.out.size))
  clear hb HC
  go_wp2_with fail
  go_ret
  exact ⟨rfl, HB2.out⟩
set_option maxRecDepth 100000 in
set_option maxHeartbeats 4000000 in
theorem refSame_any : ∀ (f : Nat) (a b : Nd) (u v : Value) (w : World), sz a ≤ f → sz a ≤ 1000000 → NIn w TT a u → NIn w TT b v →
    Calls Tryz.prog 21 #[u, v] w fun e w' => e = .returned (.bool (sameN a b)) ∧ Below w.heap.size w w' := by
  intro f
  induction f with
  | zero => intro a _ _ _ _ h; have := sz_pos a; omega
  | succ f ih =>
    intro a b u v w hf ha hu hv
    obtain ⟨ia, ic, rfl, hcc, hk⟩ := hu.open
    obtain ⟨ja, jc, rfl, hcj, hj⟩ := hv.open
    obtain ⟨B1, T1, Z1, K1⟩ := one_more (Below.refl w.heap.size w) (Nat.le_refl _) #[.int .i64 a.kind, .int .i64 a.fro, .int .i64 a.till, .int .i64 a.at', .string a.name, .slice ia a.kids.length ic] 24
    obtain ⟨B2, T2, Z2, K2⟩ := one_more B1 B1.size #[.int .i64 b.kind, .int .i64 b.fro, .int .i64 b.till, .int .i64 b.at', .string b.name, .slice ja b.kids.length jc] 24
    rw [Z1] at T2 Z2
    replace T1 := (K2.block _ (Array.getElem?_eq_some_iff.1 T1).1).trans T1
    have HB := Lib.hid B2
    have HKA := Lib.hid (hk.below B2)
    have HKB := Lib.hid (hj.below B2)
    have HIH := Lib.hid ih
    have HT1 := Lib.hid T1
    have HT2 := Lib.hid T2
    have HSZ := Lib.hid (And.intro hf ha)
    have hal : a.kids.length ≤ 1000000 := by have := szL_len a.kids; have := sz_eq a; omega
    have HS : Hid (sameN a b = (a.kind == b.kind && decide (a.name = b.name) && sameL a.kids b.kids)) := Lib.hid (sameN_eq a b)
    clear B1 B2 K1 K2 Z1 Z2 T1 T2 hk hj hu hv ih hf ha
    cases h1 : (a.kind == b.kind) with
    | false =>
      have HX : Hid (sameN a b = false) := Lib.hid (by rw [HS.out, h1]; rfl)
      have h1' : (a.kind != b.kind) = true := by rw [bne, h1]; rfl
      go_enter Tryz.func21, Tryz.ntmps21
      go_wp2_with fail
      go_ret
      exact ⟨by rw [HX.out]; rfl, HB.out⟩
    | true =>
      have h1' : (a.kind != b.kind) = false := by rw [bne, h1]; rfl
      cases h2 : decide (a.name = b.name) with
      | false =>
        have HX : Hid (sameN a b = false) := Lib.hid (by rw [HS.out, h2]; simp)
        have h3 : (a.name.toList == b.name.toList) = false := by rw [names_b, h2]
        have h3' : (a.name.toList != b.name.toList) = true := by rw [bne, h3]; rfl
        clear h2
        go_enter Tryz.func21, Tryz.ntmps21
        go_wp2_with fail
        go_ret
        exact ⟨by rw [HX.out]; rfl, HB.out⟩
      | true =>
        have h3 : (a.name.toList == b.name.toList) = true := by rw [names_b, h2]
        have h3' : (a.name.toList != b.name.toList) = false := by rw [bne, h3]; rfl
        by_cases hlen : a.kids.length = b.kids.length
        · have HX : Hid (sameN a b = sameL a.kids b.kids) := Lib.hid (by rw [HS.out, h1, h2]; rfl)
          have HLB := Lib.hid hlen.symm
          generalize hkn : a.kids.length = n at *
          generalize hbn : b.kids.length = n2 at *
          subst hlen
          have HKN := Lib.hid hkn
          have HBN := Lib.hid hbn
          clear h2 hkn hbn HS HLB
          go_enter Tryz.func21, Tryz.ntmps21
          go_wp2_with fail
          generalize (w.alloc (.cells #[.int .i64 a.kind, .int .i64 a.fro, .int .i64 a.till, .int .i64 a.at', .string a.name, .slice ia n ic] 24)).alloc (.cells #[.int .i64 b.kind, .int .i64 b.fro, .int .i64 b.till, .int .i64 b.at', .string b.name, .slice ja n jc] 24) = w1 at *
          have HBS := Lib.hid HB.out.size
          generalize hNE : w.heap.size = N at *
          have HNN := Lib.hid hNE
          clear hNE
          go_loopg [5] n (fun gg s5 wr => ∃ k : Nat, k ≤ n ∧ n - k ≤ gg ∧ s5 = .int .i64 (k : Int) ∧ Aside (sameL a.kids b.kids = sameL (a.kids.drop k) (b.kids.drop k)) ∧ Aside (Below w1.heap.size w1 wr))
          case atStart => exact ⟨0, Nat.zero_le _, by omega, rfl, rfl, Below.refl _ _⟩
          case round =>
            obtain ⟨k, hk, hg, rfl, HY, BW⟩ := hrel
            obtain ⟨k0, k1, k2, k3, k4, k5⟩ := six_cells ((BW.out.block _ (Array.getElem?_eq_some_iff.1 HT1.out).1).trans HT1.out)
            obtain ⟨m0, m1, m2, m3, m4, m5⟩ := six_cells ((BW.out.block _ (Array.getElem?_eq_some_iff.1 HT2.out).1).trans HT2.out)
            by_cases hlt : k < n
            · have hltz : (k : Int) < (n : Int) := by omega
              have hla : k < a.kids.length := by rw [HKN.out]; exact hlt
              have hlb : k < b.kids.length := by rw [HBN.out]; exact hlt
              obtain ⟨s, hs⟩ : ∃ t, a.kids[k]? = some t := ⟨_, List.getElem?_eq_getElem hla⟩
              obtain ⟨t, ht⟩ : ∃ t, b.kids[k]? = some t := ⟨_, List.getElem?_eq_getElem hlb⟩
              obtain ⟨b1, o1, rfl, -, hrow⟩ := HKA.out (by omega)
              obtain ⟨b2, o2, rfl, -, hrow'⟩ := HKB.out (by omega)
              have hrow2 := NLn.keep (W' := wr) (Q := TT) (fun k _ hk => BW.out.block k hk) (fun _ hP _ => hP) b1 trivial _ _ hrow
              have hrow2' := NLn.keep (W' := wr) (Q := TT) (fun k _ hk => BW.out.block k hk) (fun _ hP _ => hP) b2 trivial _ _ hrow'
              obtain ⟨xa, xc, d0, d1, d2, d3, d4, d5, hic, hkk⟩ := hrow2.row hs
              obtain ⟨ya, yc, e0, e1, e2, e3, e4, e5, hjc, hjk⟩ := hrow2'.row ht
              have hss := sz_kid hs
              have hsz := HSZ.out
              have HY2 : Hid (sameL a.kids b.kids = (sameN s t && sameL (a.kids.drop (k + 1)) (b.kids.drop (k + 1)))) := Lib.hid (by rw [HY.out, drop_consN hs, drop_consN ht, sameL])
              have HI : Hid (∀ W, Below wr.heap.size wr W → Calls Tryz.prog 21 #[.agg #[.int .i64 s.kind, .int .i64 s.fro, .int .i64 s.till, .int .i64 s.at', .string s.name, .slice xa s.kids.length xc], .agg #[.int .i64 t.kind, .int .i64 t.fro, .int .i64 t.till, .int .i64 t.at', .string t.name, .slice ya t.kids.length yc]] W fun e w' => e = .returned (.bool (sameN s t)) ∧ Below W.heap.size W w') :=
                Lib.hid (fun W hW => HIH.out s t _ _ W (by omega) (by omega) ((NIn.shut hic hkk).below hW) ((NIn.shut hjc hjk).below hW))
              have HC1 := Lib.hid (And.intro (And.intro k5 m5) (And.intro (And.intro d0 (And.intro d1 (And.intro d2 (And.intro d3 (And.intro d4 d5))))) (And.intro e0 (And.intro e1 (And.intro e2 (And.intro e3 (And.intro e4 e5)))))))
              have HLT := Lib.hid (And.intro hlt hg)
              clear hrow hrow' hrow2 hrow2' hic hkk hjc hjk hss hsz hs ht hla hlb d0 d1 d2 d3 d4 d5 e0 e1 e2 e3 e4 e5 HY hg
              go_wp2_with fail
              clear k0 k1 k2 k3 k4 k5 m0 m1 m2 m3 m4 m5
              generalize hst : sameN s t = sv at *
              refine wp_region_held_drew (S := fun w' => (w'.cell? ⟨N, 5, none⟩ = some (.slice (some ⟨b1, o1, none⟩) n ic) ∧ w'.cell? ⟨N + 1, 5, none⟩ = some (.slice (some ⟨b2, o2, none⟩) n jc)) ∧ (w'.cell? ⟨b1, o1 + k * 6, none⟩ = some (.int .i64 s.kind) ∧ w'.cell? ⟨b1, o1 + k * 6 + 1, none⟩ = some (.int .i64 s.fro) ∧ w'.cell? ⟨b1, o1 + k * 6 + 2, none⟩ = some (.int .i64 s.till) ∧ w'.cell? ⟨b1, o1 + k * 6 + 3, none⟩ = some (.int .i64 s.at') ∧ w'.cell? ⟨b1, o1 + k * 6 + 4, none⟩ = some (.string s.name) ∧ w'.cell? ⟨b1, o1 + k * 6 + 5, none⟩ = some (.slice xa s.kids.length xc)) ∧ (w'.cell? ⟨b2, o2 + k * 6, none⟩ = some (.int .i64 t.kind) ∧ w'.cell? ⟨b2, o2 + k * 6 + 1, none⟩ = some (.int .i64 t.fro) ∧ w'.cell? ⟨b2, o2 + k * 6 + 2, none⟩ = some (.int .i64 t.till) ∧ w'.cell? ⟨b2, o2 + k * 6 + 3, none⟩ = some (.int .i64 t.at') ∧ w'.cell? ⟨b2, o2 + k * 6 + 4, none⟩ = some (.string t.name) ∧ w'.cell? ⟨b2, o2 + k * 6 + 5, none⟩ = some (.slice ya t.kids.length yc))) (by kernel_rfl) HC1.out (fun hHeld => ?_)
              refine wpAnyH_take (i := 0) (oi := ⟨some 34, _, _, _, _, _⟩) (v := ?_) rfl (by kernel_rfl) (by kernel_rfl) (by kernel_rfl) (fun _ _ _ h => h) (Or.inl ⟨by rfl, ?_⟩) hHeld ?_
              rotate_left
              · (intro W hSW; (try dsimp only at hSW); go_simp; first | done | with_reducible rfl)
              try simp only [Act.put, List.setIfInBounds_toArray, List.set_cons_zero, List.set_cons_succ]
              refine wpAnyH_take (i := 1) (oi := ⟨some 35, _, _, _, _, _⟩) (v := ?_) rfl (by kernel_rfl) (by kernel_rfl) (by kernel_rfl) (fun _ _ _ h => h) (Or.inl ⟨by rfl, ?_⟩) hHeld ?_
              rotate_left
              · (intro W hSW; (try dsimp only at hSW); go_simp; first | done | with_reducible rfl)
              try simp only [Act.put, List.setIfInBounds_toArray, List.set_cons_zero, List.set_cons_succ]
              refine wpAnyH_take (i := 2) (oi := ⟨some 36, _, _, _, _, _⟩) (v := ?_) rfl (by kernel_rfl) (by kernel_rfl) (by kernel_rfl) (fun _ _ _ h => h) (Or.inl ⟨by rfl, ?_⟩) hHeld ?_
              rotate_left
              · (intro W hSW; (try dsimp only at hSW); go_simp; first | done | with_reducible rfl)
              try simp only [Act.put, List.setIfInBounds_toArray, List.set_cons_zero, List.set_cons_succ]
              refine wpAnyH_take (i := 3) (oi := ⟨some 37, _, _, _, _, _⟩) (v := ?_) rfl (by kernel_rfl) (by kernel_rfl) (by kernel_rfl) (fun _ _ _ h => h) (Or.inl ⟨by rfl, ?_⟩) hHeld ?_
              rotate_left
              · (intro W hSW; (try dsimp only at hSW); go_simp; first | done | with_reducible rfl)
              try simp only [Act.put, List.setIfInBounds_toArray, List.set_cons_zero, List.set_cons_succ]
              refine wpAnyH_take (i := 4) (oi := ⟨some 38, _, _, _, _, _⟩) (v := ?_) rfl (by kernel_rfl) (by kernel_rfl) (by kernel_rfl) (fun _ _ _ h => h) (Or.inl ⟨by rfl, ?_⟩) hHeld ?_
              rotate_left
              · (intro W hSW; (try dsimp only at hSW); go_simp; first | done | with_reducible rfl)
              try simp only [Act.put, List.setIfInBounds_toArray, List.set_cons_zero, List.set_cons_succ]
              refine wpAnyH_take (i := 5) (oi := ⟨some 39, _, _, _, _, _⟩) (v := ?_) rfl (by kernel_rfl) (by kernel_rfl) (by kernel_rfl) (fun _ _ _ h => h) (Or.inl ⟨by rfl, ?_⟩) hHeld ?_
              rotate_left
              · (intro W hSW; (try dsimp only at hSW); go_simp; first | done | with_reducible rfl)
              try simp only [Act.put, List.setIfInBounds_toArray, List.set_cons_zero, List.set_cons_succ]
              refine wpAnyH_take (i := 6) (oi := ⟨some 40, _, _, _, _, _⟩) (v := ?_) rfl (by kernel_rfl) (by kernel_rfl) (by kernel_rfl) (fun _ _ _ h => h) (Or.inl ⟨by rfl, ?_⟩) hHeld ?_
              rotate_left
              · (intro W hSW; (try dsimp only at hSW); go_simp; first | done | with_reducible rfl)
              try simp only [Act.put, List.setIfInBounds_toArray, List.set_cons_zero, List.set_cons_succ]
              refine wpAnyH_take (i := 7) (oi := ⟨some 41, _, _, _, _, _⟩) (v := ?_) rfl (by kernel_rfl) (by kernel_rfl) (by kernel_rfl) (fun _ _ _ h => h) (Or.inl ⟨by rfl, ?_⟩) hHeld ?_
              rotate_left
              · (intro W hSW; (try dsimp only at hSW); go_simp; first | done | with_reducible rfl)
              try simp only [Act.put, List.setIfInBounds_toArray, List.set_cons_zero, List.set_cons_succ]
              refine wpAnyH_take (i := 8) (oi := ⟨some 42, _, _, _, _, _⟩) (v := ?_) rfl (by kernel_rfl) (by kernel_rfl) (by kernel_rfl) (fun _ _ _ h => h) (Or.inl ⟨by rfl, ?_⟩) hHeld ?_
              rotate_left
              · (intro W hSW; (try dsimp only at hSW); go_simp; first | done | with_reducible rfl)
              try simp only [Act.put, List.setIfInBounds_toArray, List.set_cons_zero, List.set_cons_succ]
              refine wpAnyH_take (i := 9) (oi := ⟨some 43, _, _, _, _, _⟩) (v := ?_) rfl (by kernel_rfl) (by kernel_rfl) (by kernel_rfl) (fun _ _ _ h => h) (Or.inl ⟨by rfl, ?_⟩) hHeld ?_
              rotate_left
              · (intro W hSW; (try dsimp only at hSW); go_simp; first | done | with_reducible rfl)
              try simp only [Act.put, List.setIfInBounds_toArray, List.set_cons_zero, List.set_cons_succ]
              refine region_left (todo := [10, 11]) (φ := fun i => Sp.holds (fun _ => True) (fun _ => True) (match i with | 10 => .c (.bool sv) | 11 => .c (.bool (!sv)) | _ => .any)) (by kernel_rfl) (fun i w w' v h hb => Sp.mono _ _ _ h hb) ?_ ⟨?_, ?_, trivial⟩ ?_
              · exact fun w' hb => ⟨⟨cell_kept hHeld.1.1 rfl hb, cell_kept hHeld.1.2 rfl hb⟩, ⟨cell_kept hHeld.2.1.1 rfl hb, cell_kept hHeld.2.1.2.1 rfl hb, cell_kept hHeld.2.1.2.2.1 rfl hb, cell_kept hHeld.2.1.2.2.2.1 rfl hb, cell_kept hHeld.2.1.2.2.2.2.1 rfl hb, cell_kept hHeld.2.1.2.2.2.2.2 rfl hb⟩, ⟨cell_kept hHeld.2.2.1 rfl hb, cell_kept hHeld.2.2.2.1 rfl hb, cell_kept hHeld.2.2.2.2.1 rfl hb, cell_kept hHeld.2.2.2.2.2.1 rfl hb, cell_kept hHeld.2.2.2.2.2.2.1 rfl hb, cell_kept hHeld.2.2.2.2.2.2.2 rfl hb⟩⟩
              · intro act w' hb hr hd
                clear hHeld
                have e38 : act.tmps.getD 38 undef = .agg #[.int .i64 s.kind, .int .i64 s.fro, .int .i64 s.till, .int .i64 s.at', .string s.name, .slice xa s.kids.length xc] := hr 38 (by kernel_rfl)
                have e43 : act.tmps.getD 43 undef = .agg #[.int .i64 t.kind, .int .i64 t.fro, .int .i64 t.till, .int .i64 t.at', .string t.name, .slice ya t.kids.length yc] := hr 43 (by kernel_rfl)
                have e38' := getD_q e38
                have e43' := getD_q e43
                refine rop_call (d := 44) (o := _) rfl rfl rfl (f := 21) (args := #[.agg #[.int .i64 s.kind, .int .i64 s.fro, .int .i64 s.till, .int .i64 s.at', .string s.name, .slice xa s.kids.length xc], .agg #[.int .i64 t.kind, .int .i64 t.fro, .int .i64 t.till, .int .i64 t.at', .string t.name, .slice ya t.kids.length yc]]) (by go_simp) ?_
                refine (HI.out w' (below_drew hb)).mono ?_
                rintro e w'' ⟨rfl, hb'⟩
                exact ⟨_, rfl, rfl, hb'⟩
              · intro act w' hb hr hd
                clear hHeld
                have e44 : act.tmps.getD 44 undef = .bool sv := hd 10 (by kernel_rfl)
                have e44' := getD_q e44
                exact rop_val (d := 45) (o := _) rfl rfl rfl (v := .bool (!sv)) (w' := w') (by go_simp) rfl (Below.refl _ _)
              · intro vs w' hb hφ
                have v11 : vs 11 = .bool (!sv) := hφ.2.1
                have HB3 := Lib.hid (BW.out.trans ((below_drew hb).mono BW.out.size))
                clear hb hφ hHeld HC1 HI
                simp only [setAll, dstOf, List.getElem?_toArray, List.getElem?_cons_zero, List.getElem?_cons_succ, Option.bind_some, Option.getD_some, List.setIfInBounds_toArray, List.set_cons_zero, List.set_cons_succ]
                rw [v11]
                cases sv with
                | false =>
                  have HX2 : Hid (sameN a b = false) := Lib.hid (by rw [HX.out, HY2.out]; rfl)
                  go_wp2_with fail
                  go_ret
                  exact ⟨by rw [HX2.out] <;> rfl, by rw [HNN.out]; exact HB.out.trans (HB3.out.mono HBS.out)⟩
                | true =>
                  have HY3 : Hid (sameL a.kids b.kids = sameL (a.kids.drop (k + 1)) (b.kids.drop (k + 1))) := Lib.hid (by rw [HY2.out]; rfl)
                  go_wp2_with fail
                  go_roundg (n - (k + 1))
                  case measure => have := HLT.out; omega
                  case rel =>
                    have h1 := HLT.out
                    exact ⟨k + 1, by omega, Nat.le_refl _, by go_num, HY3.out, HB3.out⟩
            · have hltz : ¬ (k : Int) < (n : Int) := by omega
              have HX2 : Hid (sameN a b = true) := Lib.hid (by rw [HX.out, HY.out, List.drop_of_length_le (by rw [HKN.out]; omega), List.drop_of_length_le (by rw [HBN.out]; omega), sameL])
              clear HY
              go_wp2_with fail
              go_ret
              exact ⟨by rw [HX2.out] <;> rfl, by rw [HNN.out]; exact HB.out.trans (BW.out.mono HBS.out)⟩
        · have HX : Hid (sameN a b = false) := Lib.hid (by rw [HS.out, sameL_len hlen]; simp)
          have hq : ((a.kids.length : Int) != (b.kids.length : Int)) = true := by rw [bne_iff_ne]; omega
          clear h2
          go_enter Tryz.func21, Tryz.ntmps21
          go_wp2_with fail
          go_ret
          exact ⟨by rw [HX.out]; rfl, HB.out⟩
set_option maxRecDepth 100000 in
set_option maxHeartbeats 4000000 in
theorem astSame_walk (hS : FSpec FW ff OK) (a b : Nd) (u v : Value) (w : World) (ha : Lim a) (hb : Lim b) (hu : NIn w TT a u) (hv : NIn w TT b v) (hF : Facts w) (hW : FW w) :
    Calls Tryz.prog 4 #[u, v] w fun e w' => e = .returned (.bool true) ∧ Below w.heap.size w w' := by
  obtain ⟨ia, ic, rfl, hcc, hk⟩ := hu.open
  obtain ⟨ja, jc, rfl, hcj, hj⟩ := hv.open
  obtain ⟨B1, T1, Z1, K1⟩ := one_more (Below.refl w.heap.size w) (Nat.le_refl _) #[.int .i64 a.kind, .int .i64 a.fro, .int .i64 a.till, .int .i64 a.at', .string a.name, .slice ia a.kids.length ic] 24
  obtain ⟨B2, T2, Z2, K2⟩ := one_more B1 B1.size #[.int .i64 b.kind, .int .i64 b.fro, .int .i64 b.till, .int .i64 b.at', .string b.name, .slice ja b.kids.length jc] 24
  rw [Z1] at T2 Z2
  replace T1 := (K2.block _ (Array.getElem?_eq_some_iff.1 T1).1).trans T1
  have HR := Lib.hid (ready_of hS)
  have HW1 : Hid (TokW FW ((w.alloc (.cells #[.int .i64 a.kind, .int .i64 a.fro, .int .i64 a.till, .int .i64 a.at', .string a.name, .slice ia a.kids.length ic] 24)).alloc (.cells #[.int .i64 b.kind, .int .i64 b.fro, .int .i64 b.till, .int .i64 b.at', .string b.name, .slice ja b.kids.length jc] 24))) := Lib.hid ((ready_of hS).keepF _ _ ⟨hF, hW⟩ B2)
  have HWK : Hid (∀ W, TokW FW W → Calls Tryz.prog 15 #[] W fun e w' => e = .returned (.bool true) ∧ Below W.heap.size W w') := Lib.hid (fun W h => works_tok hS W h.1 h.2)
  have HU := Lib.hid ((NIn.shut hcc hk).below B2)
  have HV := Lib.hid ((NIn.shut hcj hj).below B2)
  have HB := Lib.hid B2
  have HXA := Lib.hid (six_cells T1)
  have HXB := Lib.hid (six_cells T2)
  clear B1 B2 T1 T2 Z1 Z2 K1 K2 hk hj hu hv hcc hcj hF hW hS
  have HFA := Lib.hid (fun (W : World) (h : Below ((w.alloc (.cells #[.int .i64 a.kind, .int .i64 a.fro, .int .i64 a.till, .int .i64 a.at', .string a.name, .slice ia a.kids.length ic] 24)).alloc (.cells #[.int .i64 b.kind, .int .i64 b.fro, .int .i64 b.till, .int .i64 b.at', .string b.name, .slice ja b.kids.length jc] 24)).heap.size ((w.alloc (.cells #[.int .i64 a.kind, .int .i64 a.fro, .int .i64 a.till, .int .i64 a.at', .string a.name, .slice ia a.kids.length ic] 24)).alloc (.cells #[.int .i64 b.kind, .int .i64 b.fro, .int .i64 b.till, .int .i64 b.at', .string b.name, .slice ja b.kids.length jc] 24)) W) => few_any a _ W ha (HU.out.below h))
  have HFB := Lib.hid (fun (W : World) (h : Below ((w.alloc (.cells #[.int .i64 a.kind, .int .i64 a.fro, .int .i64 a.till, .int .i64 a.at', .string a.name, .slice ia a.kids.length ic] 24)).alloc (.cells #[.int .i64 b.kind, .int .i64 b.fro, .int .i64 b.till, .int .i64 b.at', .string b.name, .slice ja b.kids.length jc] 24)).heap.size ((w.alloc (.cells #[.int .i64 a.kind, .int .i64 a.fro, .int .i64 a.till, .int .i64 a.at', .string a.name, .slice ia a.kids.length ic] 24)).alloc (.cells #[.int .i64 b.kind, .int .i64 b.fro, .int .i64 b.till, .int .i64 b.at', .string b.name, .slice ja b.kids.length jc] 24)) W) => few_any b _ W hb (HV.out.below h))
  clear ha hb
  cases hda : decide (sz a < 3000) with
  | false =>
    rw [hda] at HFA
    have HF0 := Lib.hid (HFA.out _ (Below.refl _ _))
    go_enter Tryz.func4, Tryz.ntmps4
    go_wp2_with fail
    refine HF0.out.mono ?_
    rintro e w' ⟨rfl, hb⟩
    have HB2 := Lib.hid (HB.out.trans (hb.mono HB.out.size))
    have HW2 := Lib.hid (HR.out.keepF _ _ HW1.out hb)
    clear hb HF0
    go_wp2_with fail
    refine (HWK.out _ HW2.out).mono ?_
    rintro e w'' ⟨rfl, hb⟩
    have HB3 := Lib.hid (HB2.out.trans (hb.mono HB2.out.size))
    clear hb
    go_wp2_with fail
    go_ret
    exact ⟨rfl, HB3.out⟩
  | true =>
    rw [hda] at HFA
    have HF0 := Lib.hid (HFA.out _ (Below.refl _ _))
    cases hdb : decide (sz b < 3000) with
    | false =>
      rw [hdb] at HFB
      go_enter Tryz.func4, Tryz.ntmps4
      go_wp2_with fail
      generalize (w.alloc (.cells #[.int .i64 a.kind, .int .i64 a.fro, .int .i64 a.till, .int .i64 a.at', .string a.name, .slice ia a.kids.length ic] 24)).alloc (.cells #[.int .i64 b.kind, .int .i64 b.fro, .int .i64 b.till, .int .i64 b.at', .string b.name, .slice ja b.kids.length jc] 24) = w1 at *
      refine HF0.out.mono ?_
      rintro e w' ⟨rfl, hb⟩
      obtain ⟨m0, m1, m2, m3, m4, m5⟩ := six_keep HXB.out hb
      have HB2 := Lib.hid hb
      clear hb HF0
      go_wp2_with fail
      refine (HFB.out _ HB2.out).mono ?_
      rintro e w'' ⟨rfl, hb⟩
      have HB3 := Lib.hid (HB2.out.trans (hb.mono HB2.out.size))
      clear hb m0 m1 m2 m3 m4 m5
      go_wp2_with fail
      refine (HWK.out _ (HR.out.keepF _ _ HW1.out HB3.out)).mono ?_
      rintro e w3 ⟨rfl, hb⟩
      have HB4 := Lib.hid (HB3.out.trans (hb.mono HB3.out.size))
      clear hb
      go_wp2_with fail
      go_ret
      exact ⟨rfl, HB.out.trans (HB4.out.mono HB.out.size)⟩
    | true =>
      rw [hdb] at HFB
      have h3a : sz a < 3000 := of_decide_eq_true hda
      have h3b : sz b < 3000 := of_decide_eq_true hdb
      obtain ⟨sv, hsv⟩ : ∃ sv, sameN a b = sv := ⟨_, rfl⟩
      have HM1 : Hid (∀ W, Below ((w.alloc (.cells #[.int .i64 a.kind, .int .i64 a.fro, .int .i64 a.till, .int .i64 a.at', .string a.name, .slice ia a.kids.length ic] 24)).alloc (.cells #[.int .i64 b.kind, .int .i64 b.fro, .int .i64 b.till, .int .i64 b.at', .string b.name, .slice ja b.kids.length jc] 24)).heap.size ((w.alloc (.cells #[.int .i64 a.kind, .int .i64 a.fro, .int .i64 a.till, .int .i64 a.at', .string a.name, .slice ia a.kids.length ic] 24)).alloc (.cells #[.int .i64 b.kind, .int .i64 b.fro, .int .i64 b.till, .int .i64 b.at', .string b.name, .slice ja b.kids.length jc] 24)) W → Calls Tryz.prog 20 #[.agg #[.int .i64 a.kind, .int .i64 a.fro, .int .i64 a.till, .int .i64 a.at', .string a.name, .slice ia a.kids.length ic], .agg #[.int .i64 b.kind, .int .i64 b.fro, .int .i64 b.till, .int .i64 b.at', .string b.name, .slice ja b.kids.length jc]] W fun e w' => e = .returned (.bool sv) ∧ Below W.heap.size W w') := Lib.hid (fun W h => by rw [← hsv]; exact same_any (sz a) a b _ _ W (Nat.le_refl _) (by omega) (by omega) (HU.out.below h) (HV.out.below h))
      have HM2 : Hid (∀ W, Below ((w.alloc (.cells #[.int .i64 a.kind, .int .i64 a.fro, .int .i64 a.till, .int .i64 a.at', .string a.name, .slice ia a.kids.length ic] 24)).alloc (.cells #[.int .i64 b.kind, .int .i64 b.fro, .int .i64 b.till, .int .i64 b.at', .string b.name, .slice ja b.kids.length jc] 24)).heap.size ((w.alloc (.cells #[.int .i64 a.kind, .int .i64 a.fro, .int .i64 a.till, .int .i64 a.at', .string a.name, .slice ia a.kids.length ic] 24)).alloc (.cells #[.int .i64 b.kind, .int .i64 b.fro, .int .i64 b.till, .int .i64 b.at', .string b.name, .slice ja b.kids.length jc] 24)) W → Calls Tryz.prog 20 #[.agg #[.int .i64 b.kind, .int .i64 b.fro, .int .i64 b.till, .int .i64 b.at', .string b.name, .slice ja b.kids.length jc], .agg #[.int .i64 a.kind, .int .i64 a.fro, .int .i64 a.till, .int .i64 a.at', .string a.name, .slice ia a.kids.length ic]] W fun e w' => e = .returned (.bool sv) ∧ Below W.heap.size W w') := Lib.hid (fun W h => by rw [← hsv, sameN_symm a b]; exact same_any (sz b) b a _ _ W (Nat.le_refl _) (by omega) (by omega) (HV.out.below h) (HU.out.below h))
      have HM3 : Hid (∀ W, Below ((w.alloc (.cells #[.int .i64 a.kind, .int .i64 a.fro, .int .i64 a.till, .int .i64 a.at', .string a.name, .slice ia a.kids.length ic] 24)).alloc (.cells #[.int .i64 b.kind, .int .i64 b.fro, .int .i64 b.till, .int .i64 b.at', .string b.name, .slice ja b.kids.length jc] 24)).heap.size ((w.alloc (.cells #[.int .i64 a.kind, .int .i64 a.fro, .int .i64 a.till, .int .i64 a.at', .string a.name, .slice ia a.kids.length ic] 24)).alloc (.cells #[.int .i64 b.kind, .int .i64 b.fro, .int .i64 b.till, .int .i64 b.at', .string b.name, .slice ja b.kids.length jc] 24)) W → Calls Tryz.prog 21 #[.agg #[.int .i64 a.kind, .int .i64 a.fro, .int .i64 a.till, .int .i64 a.at', .string a.name, .slice ia a.kids.length ic], .agg #[.int .i64 b.kind, .int .i64 b.fro, .int .i64 b.till, .int .i64 b.at', .string b.name, .slice ja b.kids.length jc]] W fun e w' => e = .returned (.bool sv) ∧ Below W.heap.size W w') := Lib.hid (fun W h => by rw [← hsv]; exact refSame_any (sz a) a b _ _ W (Nat.le_refl _) (by omega) (HU.out.below h) (HV.out.below h))
      have hse : (sv == sv) = true := by simp
      clear hsv h3a h3b hda hdb HU HV
      go_enter Tryz.func4, Tryz.ntmps4
      go_wp2_with fail
      generalize (w.alloc (.cells #[.int .i64 a.kind, .int .i64 a.fro, .int .i64 a.till, .int .i64 a.at', .string a.name, .slice ia a.kids.length ic] 24)).alloc (.cells #[.int .i64 b.kind, .int .i64 b.fro, .int .i64 b.till, .int .i64 b.at', .string b.name, .slice ja b.kids.length jc] 24) = w1 at *
      have HBS := Lib.hid HB.out.size
      generalize hNE : w.heap.size = N at *
      have HNN := Lib.hid hNE
      clear hNE
      refine HF0.out.mono ?_
      rintro e w' ⟨rfl, hb⟩
      obtain ⟨m0, m1, m2, m3, m4, m5⟩ := six_keep HXB.out hb
      have HB2 := Lib.hid hb
      clear hb HF0
      go_wp2_with fail
      refine (HFB.out _ HB2.out).mono ?_
      rintro e w2 ⟨rfl, hb⟩
      have HB3 := Lib.hid (HB2.out.trans (hb.mono HB2.out.size))
      clear hb m0 m1 m2 m3 m4 m5 HB2
      go_wp2_with fail
      have HSS := Lib.hid (And.intro (six_keep HXA.out HB3.out) (six_keep HXB.out HB3.out))
      refine wp_region_held_drew (S := fun w' => (w'.cell? ⟨N, 0, none⟩ = some (.int .i64 a.kind) ∧ w'.cell? ⟨N, 1, none⟩ = some (.int .i64 a.fro) ∧ w'.cell? ⟨N, 2, none⟩ = some (.int .i64 a.till) ∧ w'.cell? ⟨N, 3, none⟩ = some (.int .i64 a.at') ∧ w'.cell? ⟨N, 4, none⟩ = some (.string a.name) ∧ w'.cell? ⟨N, 5, none⟩ = some (.slice ia a.kids.length ic)) ∧ (w'.cell? ⟨N + 1, 0, none⟩ = some (.int .i64 b.kind) ∧ w'.cell? ⟨N + 1, 1, none⟩ = some (.int .i64 b.fro) ∧ w'.cell? ⟨N + 1, 2, none⟩ = some (.int .i64 b.till) ∧ w'.cell? ⟨N + 1, 3, none⟩ = some (.int .i64 b.at') ∧ w'.cell? ⟨N + 1, 4, none⟩ = some (.string b.name) ∧ w'.cell? ⟨N + 1, 5, none⟩ = some (.slice ja b.kids.length jc))) (by kernel_rfl) HSS.out (fun hHeld => ?_)
      refine wpAnyH_take (i := 0) (oi := ⟨some 14, _, _, _, _, _⟩) (v := ?_) rfl (by kernel_rfl) (by kernel_rfl) (by kernel_rfl) (fun _ _ _ h => h) (Or.inl ⟨by rfl, ?_⟩) hHeld ?_
      rotate_left
      · (intro W hSW; (try dsimp only at hSW); go_simp; first | done | with_reducible rfl)
      try simp only [Act.put, List.setIfInBounds_toArray, List.set_cons_zero, List.set_cons_succ]
      refine wpAnyH_take (i := 1) (oi := ⟨some 15, _, _, _, _, _⟩) (v := ?_) rfl (by kernel_rfl) (by kernel_rfl) (by kernel_rfl) (fun _ _ _ h => h) (Or.inl ⟨by rfl, ?_⟩) hHeld ?_
      rotate_left
      · (intro W hSW; (try dsimp only at hSW); go_simp; first | done | with_reducible rfl)
      try simp only [Act.put, List.setIfInBounds_toArray, List.set_cons_zero, List.set_cons_succ]
      refine wpAnyH_take (i := 3) (oi := ⟨some 17, _, _, _, _, _⟩) (v := ?_) rfl (by kernel_rfl) (by kernel_rfl) (by kernel_rfl) (fun _ _ _ h => h) (Or.inl ⟨by rfl, ?_⟩) hHeld ?_
      rotate_left
      · (intro W hSW; (try dsimp only at hSW); go_simp; first | done | with_reducible rfl)
      try simp only [Act.put, List.setIfInBounds_toArray, List.set_cons_zero, List.set_cons_succ]
      refine wpAnyH_take (i := 4) (oi := ⟨some 18, _, _, _, _, _⟩) (v := ?_) rfl (by kernel_rfl) (by kernel_rfl) (by kernel_rfl) (fun _ _ _ h => h) (Or.inl ⟨by rfl, ?_⟩) hHeld ?_
      rotate_left
      · (intro W hSW; (try dsimp only at hSW); go_simp; first | done | with_reducible rfl)
      try simp only [Act.put, List.setIfInBounds_toArray, List.set_cons_zero, List.set_cons_succ]
      refine region_left (todo := [2, 5, 6, 7, 8, 9, 10, 11, 12, 13, 14, 15, 16, 17, 18, 19]) (φ := fun i => Sp.holds (fun _ => True) (fun _ => True) (match i with | 2 => .c (.bool sv) | 5 => .c (.bool sv) | 6 => .c (.bool true) | 7 => .c (.bool true) | 8 => .c (.agg #[.int .i64 b.kind, .int .i64 b.fro, .int .i64 b.till, .int .i64 b.at', .string b.name, .slice ja b.kids.length jc]) | 9 => .c (.agg #[.int .i64 a.kind, .int .i64 a.fro, .int .i64 a.till, .int .i64 a.at', .string a.name, .slice ia a.kids.length ic]) | 10 => .c (.bool sv) | 11 => .c (.agg #[.int .i64 a.kind, .int .i64 a.fro, .int .i64 a.till, .int .i64 a.at', .string a.name, .slice ia a.kids.length ic]) | 12 => .c (.agg #[.int .i64 b.kind, .int .i64 b.fro, .int .i64 b.till, .int .i64 b.at', .string b.name, .slice ja b.kids.length jc]) | 13 => .c (.bool sv) | 14 => .c (.bool true) | 15 => .c (.bool true) | 16 => .c (.bool true) | 17 => .c (.bool true) | 18 => .c (.bool true) | 19 => .c (.bool true) | _ => .any)) (by kernel_rfl) (fun i w w' v h hb => Sp.mono _ _ _ h hb) ?_ ⟨?_, ?_, ?_, ?_, ?_, ?_, ?_, ?_, ?_, ?_, ?_, ?_, ?_, ?_, ?_, ?_, trivial⟩ ?_
      · exact fun w' hb => ⟨six_keep hHeld.1 hb, six_keep hHeld.2 hb⟩
      · intro act w' hb hr hd
        clear hHeld
        have e14 : act.tmps.getD 14 undef = .agg #[.int .i64 a.kind, .int .i64 a.fro, .int .i64 a.till, .int .i64 a.at', .string a.name, .slice ia a.kids.length ic] := hr 14 (by kernel_rfl)
        have e14' := getD_q e14
        have e15 : act.tmps.getD 15 undef = .agg #[.int .i64 b.kind, .int .i64 b.fro, .int .i64 b.till, .int .i64 b.at', .string b.name, .slice ja b.kids.length jc] := hr 15 (by kernel_rfl)
        have e15' := getD_q e15
        refine rop_call (d := 16) (o := _) rfl rfl rfl (f := 20) (args := #[.agg #[.int .i64 a.kind, .int .i64 a.fro, .int .i64 a.till, .int .i64 a.at', .string a.name, .slice ia a.kids.length ic], .agg #[.int .i64 b.kind, .int .i64 b.fro, .int .i64 b.till, .int .i64 b.at', .string b.name, .slice ja b.kids.length jc]]) (by go_simp) ?_
        refine (HM1.out _ (HB3.out.trans ((below_drew hb).mono HB3.out.size))).mono ?_
        rintro e w'' ⟨rfl, hb'⟩
        exact ⟨_, rfl, rfl, hb'⟩
      · intro act w' hb hr hd
        clear hHeld
        have e17 : act.tmps.getD 17 undef = .agg #[.int .i64 a.kind, .int .i64 a.fro, .int .i64 a.till, .int .i64 a.at', .string a.name, .slice ia a.kids.length ic] := hr 17 (by kernel_rfl)
        have e17' := getD_q e17
        have e18 : act.tmps.getD 18 undef = .agg #[.int .i64 b.kind, .int .i64 b.fro, .int .i64 b.till, .int .i64 b.at', .string b.name, .slice ja b.kids.length jc] := hr 18 (by kernel_rfl)
        have e18' := getD_q e18
        refine rop_call (d := 19) (o := _) rfl rfl rfl (f := 21) (args := #[.agg #[.int .i64 a.kind, .int .i64 a.fro, .int .i64 a.till, .int .i64 a.at', .string a.name, .slice ia a.kids.length ic], .agg #[.int .i64 b.kind, .int .i64 b.fro, .int .i64 b.till, .int .i64 b.at', .string b.name, .slice ja b.kids.length jc]]) (by go_simp) ?_
        refine (HM3.out _ (HB3.out.trans ((below_drew hb).mono HB3.out.size))).mono ?_
        rintro e w'' ⟨rfl, hb'⟩
        exact ⟨_, rfl, rfl, hb'⟩
      · intro act w' hb hr hd
        clear hHeld
        have e16 : act.tmps.getD 16 undef = .bool sv := hd 2 (by kernel_rfl)
        have e16' := getD_q e16
        have e19 : act.tmps.getD 19 undef = .bool sv := hd 5 (by kernel_rfl)
        have e19' := getD_q e19
        exact rop_val (d := 20) (o := _) rfl rfl rfl (v := .bool true) (w' := w') (by go_simp) rfl (Below.refl _ _)
      · intro act w' hb hr hd
        clear hHeld
        have e20 : act.tmps.getD 20 undef = .bool true := hd 6 (by kernel_rfl)
        have e20' := getD_q e20
        exact rop_val (d := 21) (o := _) rfl rfl rfl (v := .bool true) (w' := w') (by go_simp) rfl (Below.refl _ _)
      · intro act w' hb hr hd
        clear hHeld
        have hg : act.tmps.getD 21 undef = .bool true := hd 7 (by kernel_rfl)
        have e3 : act.tmps.getD 3 undef = .pointer (some ⟨N + 1, 0, none⟩) := hr 3 (by kernel_rfl)
        have e3' := getD_q e3
        obtain ⟨c0, c1, c2, c3, c4, c5⟩ := six_keep HSS.out.2 (below_drew hb)
        exact rop_val (d := 22) (o := _) rfl rfl (wanted_of rfl rfl hg) (v := .agg #[.int .i64 b.kind, .int .i64 b.fro, .int .i64 b.till, .int .i64 b.at', .string b.name, .slice ja b.kids.length jc]) (w' := w') (by go_simp) rfl (Below.refl _ _)
      · intro act w' hb hr hd
        clear hHeld
        have hg : act.tmps.getD 21 undef = .bool true := hd 7 (by kernel_rfl)
        have e2 : act.tmps.getD 2 undef = .pointer (some ⟨N, 0, none⟩) := hr 2 (by kernel_rfl)
        have e2' := getD_q e2
        obtain ⟨c0, c1, c2, c3, c4, c5⟩ := six_keep HSS.out.1 (below_drew hb)
        exact rop_val (d := 23) (o := _) rfl rfl (wanted_of rfl rfl hg) (v := .agg #[.int .i64 a.kind, .int .i64 a.fro, .int .i64 a.till, .int .i64 a.at', .string a.name, .slice ia a.kids.length ic]) (w' := w') (by go_simp) rfl (Below.refl _ _)
      · intro act w' hb hr hd
        clear hHeld
        have hg : act.tmps.getD 21 undef = .bool true := hd 7 (by kernel_rfl)
        have e22 : act.tmps.getD 22 undef = .agg #[.int .i64 b.kind, .int .i64 b.fro, .int .i64 b.till, .int .i64 b.at', .string b.name, .slice ja b.kids.length jc] := hd 8 (by kernel_rfl)
        have e22' := getD_q e22
        have e23 : act.tmps.getD 23 undef = .agg #[.int .i64 a.kind, .int .i64 a.fro, .int .i64 a.till, .int .i64 a.at', .string a.name, .slice ia a.kids.length ic] := hd 9 (by kernel_rfl)
        have e23' := getD_q e23
        refine rop_call (d := 24) (o := _) rfl rfl (wanted_of rfl rfl hg) (f := 20) (args := #[.agg #[.int .i64 b.kind, .int .i64 b.fro, .int .i64 b.till, .int .i64 b.at', .string b.name, .slice ja b.kids.length jc], .agg #[.int .i64 a.kind, .int .i64 a.fro, .int .i64 a.till, .int .i64 a.at', .string a.name, .slice ia a.kids.length ic]]) (by go_simp) ?_
        refine (HM2.out _ (HB3.out.trans ((below_drew hb).mono HB3.out.size))).mono ?_
        rintro e w'' ⟨rfl, hb'⟩
        exact ⟨_, rfl, rfl, hb'⟩
      · intro act w' hb hr hd
        clear hHeld
        have hg : act.tmps.getD 21 undef = .bool true := hd 7 (by kernel_rfl)
        have e2 : act.tmps.getD 2 undef = .pointer (some ⟨N, 0, none⟩) := hr 2 (by kernel_rfl)
        have e2' := getD_q e2
        obtain ⟨c0, c1, c2, c3, c4, c5⟩ := six_keep HSS.out.1 (below_drew hb)
        exact rop_val (d := 25) (o := _) rfl rfl (wanted_of rfl rfl hg) (v := .agg #[.int .i64 a.kind, .int .i64 a.fro, .int .i64 a.till, .int .i64 a.at', .string a.name, .slice ia a.kids.length ic]) (w' := w') (by go_simp) rfl (Below.refl _ _)
      · intro act w' hb hr hd
        clear hHeld
        have hg : act.tmps.getD 21 undef = .bool true := hd 7 (by kernel_rfl)
        have e3 : act.tmps.getD 3 undef = .pointer (some ⟨N + 1, 0, none⟩) := hr 3 (by kernel_rfl)
        have e3' := getD_q e3
        obtain ⟨c0, c1, c2, c3, c4, c5⟩ := six_keep HSS.out.2 (below_drew hb)
        exact rop_val (d := 26) (o := _) rfl rfl (wanted_of rfl rfl hg) (v := .agg #[.int .i64 b.kind, .int .i64 b.fro, .int .i64 b.till, .int .i64 b.at', .string b.name, .slice ja b.kids.length jc]) (w' := w') (by go_simp) rfl (Below.refl _ _)
      · intro act w' hb hr hd
        clear hHeld
        have hg : act.tmps.getD 21 undef = .bool true := hd 7 (by kernel_rfl)
        have e25 : act.tmps.getD 25 undef = .agg #[.int .i64 a.kind, .int .i64 a.fro, .int .i64 a.till, .int .i64 a.at', .string a.name, .slice ia a.kids.length ic] := hd 11 (by kernel_rfl)
        have e25' := getD_q e25
        have e26 : act.tmps.getD 26 undef = .agg #[.int .i64 b.kind, .int .i64 b.fro, .int .i64 b.till, .int .i64 b.at', .string b.name, .slice ja b.kids.length jc] := hd 12 (by kernel_rfl)
        have e26' := getD_q e26
        refine rop_call (d := 27) (o := _) rfl rfl (wanted_of rfl rfl hg) (f := 21) (args := #[.agg #[.int .i64 a.kind, .int .i64 a.fro, .int .i64 a.till, .int .i64 a.at', .string a.name, .slice ia a.kids.length ic], .agg #[.int .i64 b.kind, .int .i64 b.fro, .int .i64 b.till, .int .i64 b.at', .string b.name, .slice ja b.kids.length jc]]) (by go_simp) ?_
        refine (HM3.out _ (HB3.out.trans ((below_drew hb).mono HB3.out.size))).mono ?_
        rintro e w'' ⟨rfl, hb'⟩
        exact ⟨_, rfl, rfl, hb'⟩
      · intro act w' hb hr hd
        clear hHeld
        have hg : act.tmps.getD 21 undef = .bool true := hd 7 (by kernel_rfl)
        have e24 : act.tmps.getD 24 undef = .bool sv := hd 10 (by kernel_rfl)
        have e24' := getD_q e24
        have e27 : act.tmps.getD 27 undef = .bool sv := hd 13 (by kernel_rfl)
        have e27' := getD_q e27
        exact rop_val (d := 28) (o := _) rfl rfl (wanted_of rfl rfl hg) (v := .bool true) (w' := w') (by go_simp) rfl (Below.refl _ _)
      · intro act w' hb hr hd
        clear hHeld
        have e21 : act.tmps.getD 21 undef = .bool true := hd 7 (by kernel_rfl)
        have e21' := getD_q e21
        have e28 : act.tmps.getD 28 undef = .bool true := hd 14 (by kernel_rfl)
        have e28' := getD_q e28
        exact rop_val (d := 29) (o := _) rfl rfl rfl (v := .bool true) (w' := w') (by go_simp) rfl (Below.refl _ _)
      · intro act w' hb hr hd
        clear hHeld
        have e29 : act.tmps.getD 29 undef = .bool true := hd 15 (by kernel_rfl)
        have e29' := getD_q e29
        exact rop_val (d := 30) (o := _) rfl rfl rfl (v := .bool true) (w' := w') (by go_simp) rfl (Below.refl _ _)
      · intro act w' hb hr hd
        clear hHeld
        have hg : act.tmps.getD 30 undef = .bool true := hd 16 (by kernel_rfl)
        refine rop_call (d := 31) (o := _) rfl rfl (wanted_of rfl rfl hg) (f := 15) (args := #[]) (by go_simp) ?_
        refine (HWK.out _ (HR.out.keepF _ _ HW1.out (HB3.out.trans ((below_drew hb).mono HB3.out.size)))).mono ?_
        rintro e w'' ⟨rfl, hb'⟩
        exact ⟨_, rfl, rfl, hb'⟩
      · intro act w' hb hr hd
        clear hHeld
        have e30 : act.tmps.getD 30 undef = .bool true := hd 16 (by kernel_rfl)
        have e30' := getD_q e30
        have e31 : act.tmps.getD 31 undef = .bool true := hd 17 (by kernel_rfl)
        have e31' := getD_q e31
        exact rop_val (d := 32) (o := _) rfl rfl rfl (v := .bool true) (w' := w') (by go_simp) rfl (Below.refl _ _)
      · intro act w' hb hr hd
        clear hHeld
        have e32 : act.tmps.getD 32 undef = .bool true := hd 18 (by kernel_rfl)
        have e32' := getD_q e32
        exact rop_val (d := 4) (o := _) rfl rfl rfl (v := .bool true) (w' := w') (by go_simp) rfl (Below.refl _ _)
      · intro vs w' hb hφ
        have vl : vs 19 = .bool true := hφ.2.2.2.2.2.2.2.2.2.2.2.2.2.2.2.1
        have HB4 := Lib.hid (HB3.out.trans ((below_drew hb).mono HB3.out.size))
        clear hb hφ hHeld
        simp only [setAll, dstOf, List.getElem?_toArray, List.getElem?_cons_zero, List.getElem?_cons_succ, Option.bind_some, Option.getD_some, List.setIfInBounds_toArray, List.set_cons_zero, List.set_cons_succ]
        rw [vl]
        go_wp2_with fail
        go_ret
        exact ⟨rfl, by rw [HNN.out]; exact HB.out.trans (HB4.out.mono HBS.out)⟩
end Go.Proofs.YtcbfohokigamfaaGreatDoor
namespace Go.Proofs.YtcbfohokigamfaaGreatDoor
open Go.ChangeShapes Go.WideShapes Go.RowKit

instance : Inhabited Nd := ⟨.mk 0 0 0 0 ⟨#[]⟩ []⟩
theorem nln_of {W : World} {b : Nat} : ∀ (l : List Nd) (o : Nat), (∀ i T, l[i]? = some T → ∃ v0 v1 v2 v3 v4 v5, W.cell? ⟨b, o + i * 6, none⟩ = some v0 ∧ W.cell? ⟨b, o + i * 6 + 1, none⟩ = some v1 ∧ W.cell? ⟨b, o + i * 6 + 2, none⟩ = some v2 ∧ W.cell? ⟨b, o + i * 6 + 3, none⟩ = some v3 ∧ W.cell? ⟨b, o + i * 6 + 4, none⟩ = some v4 ∧ W.cell? ⟨b, o + i * 6 + 5, none⟩ = some v5 ∧ NIn W TT T (.agg #[v0, v1, v2, v3, v4, v5])) → NLn W TT b o l
  | [], o, _ => nln_nil
  | T :: l, o, h => by
    obtain ⟨v0, v1, v2, v3, v4, v5, h0, h1, h2, h3, h4, h5, hn⟩ := h 0 T rfl
    simp only [Nat.zero_mul, Nat.add_zero] at h0 h1 h2 h3 h4 h5
    refine nln_cons h0 h1 h2 h3 h4 h5 hn (nln_of l (o + 6) fun i S hi => ?_)
    have := h (i + 1) S (by simpa using hi)
    rw [show o + (i + 1) * 6 = o + 6 + i * 6 from by omega] at this
    exact this
theorem limL_of : ∀ l : List Nd, (∀ t ∈ l, Lim t) → LimL l
  | [], _ => by rw [LimL]; trivial
  | T :: l, h => by
    rw [LimL]
    exact ⟨h T (List.mem_cons_self ..), limL_of l fun t ht => h t (List.mem_cons_of_mem _ ht)⟩
section
variable {H : Type} {enc : TypeId × Value → H} {w : World} {base : Nat} {sp : Nat → Bool} {held : Bool}
set_option maxRecDepth 100000 in
theorem open_nodeL : ∀ (f : Nat) (fuel : Nat) (cs : List Value) (x : DataW H × List MemPlace), fuel ≤ f → DataW.trod enc Tryz.prog w base sp held fuel 24 cs = some x →
    ∃ (T : Nd) (v0 v1 v2 v3 v4 v5 : Value), cs = [v0, v1, v2, v3, v4, v5] ∧ NIn w TT T (.agg #[v0, v1, v2, v3, v4, v5]) ∧ Lim T := by
  have c3 : Tryz.prog.cellsOf 3 = 1 := by kernel_rfl
  have c9 : Tryz.prog.cellsOf 9 = 1 := by kernel_rfl
  have c22 : Tryz.prog.cellsOf 22 = 1 := by kernel_rfl
  have c24 : Tryz.prog.cellsOf 24 = 6 := by kernel_rfl
  intro f
  induction f with
  | zero =>
    intro fuel cs x hf h
    obtain rfl : fuel = 0 := by omega
    simp [DataW.trod] at h
  | succ f ih =>
    intro fuel cs x hf h
    obtain ⟨xs, n, rfl, -, hl, hxl, hfd⟩ := DataW.trod_struct Tryz.underlying24 h
    rw [c24] at hl
    match cs, hl, xs, hxl with
    | [v0, v1, v2, v3, v4, v5], _, [y0, y1, y2, y3, y4, y5], _ =>
      have g0 := hfd 0 _ rfl
      have g1 := hfd 1 _ rfl
      have g2 := hfd 2 _ rfl
      have g3 := hfd 3 _ rfl
      have g4 := hfd 4 _ rfl
      have g5 := hfd 5 _ rfl
      simp [c3, c9, c22] at g0 g1 g2 g3 g4 g5
      obtain ⟨z0, e0, -, -⟩ := DataW.trod_int Tryz.underlying3 g0
      obtain ⟨z1, e1, -, -⟩ := DataW.trod_int Tryz.underlying3 g1
      obtain ⟨z2, e2, -, -⟩ := DataW.trod_int Tryz.underlying3 g2
      obtain ⟨z3, e3, -, -⟩ := DataW.trod_int Tryz.underlying3 g3
      obtain ⟨s, e4, -, hs⟩ := DataW.trod_string Tryz.underlying9 g4
      simp only [List.cons.injEq, and_true] at e0 e1 e2 e3 e4
      subst e0 e1 e2 e3 e4
      have hs' : s.size ≤ 9223372036854775807 := by unfold maxLen at hs; omega
      rcases DataW.trod_slice Tryz.underlying22 g5 with ⟨e5, -⟩ | ⟨a, len, cap, elems, rest, m, rfl, e5, -, -, hlc, hcm, hel, hx, -, -⟩
      · simp only [List.cons.injEq, and_true] at e5
        subst e5
        refine ⟨.mk z0 z1 z2 z3 s [], _, _, _, _, _, _, rfl, ?_, ?_⟩
        · rw [NIn]
          exact ⟨none, 0, rfl, Nat.le_refl _, fun h => by cases h⟩
        · rw [Lim]
          exact ⟨hs', by simp, limL_of [] fun t ht => by cases ht⟩
      · simp only [List.cons.injEq, and_true] at e5
        subst e5
        have each : ∀ i, i < len → ∃ T : Nd, ∃ v0 v1 v2 v3 v4 v5, w.cell? (a.add (i * 6)) = some v0 ∧ w.cell? (a.add (i * 6 + 1)) = some v1 ∧ w.cell? (a.add (i * 6 + 2)) = some v2 ∧ w.cell? (a.add (i * 6 + 3)) = some v3 ∧ w.cell? (a.add (i * 6 + 4)) = some v4 ∧ w.cell? (a.add (i * 6 + 5)) = some v5 ∧ NIn w TT T (.agg #[v0, v1, v2, v3, v4, v5]) ∧ Lim T := by
          intro i hi
          have h1 := hx i hi
          rw [c24, List.getElem?_eq_getElem (by omega)] at h1
          obtain ⟨ds, h2, h3⟩ := Option.bind_eq_some_iff.1 h1
          obtain ⟨-, hlen, hcell⟩ := World.cells?_some h2
          obtain ⟨T, u0, u1, u2, u3, u4, u5, rfl, hn, hL⟩ := ih _ _ _ (by omega) h3
          have k0 := hcell 0 (by omega)
          have k1 := hcell 1 (by omega)
          have k2 := hcell 2 (by omega)
          have k3 := hcell 3 (by omega)
          have k4 := hcell 4 (by omega)
          have k5 := hcell 5 (by omega)
          rw [Deep.add_add] at k0 k1 k2 k3 k4 k5
          exact ⟨T, u0, u1, u2, u3, u4, u5, by simpa using k0, by simpa using k1, by simpa using k2, by simpa using k3, by simpa using k4, by simpa using k5, hn, hL⟩
        obtain ⟨Sx, hS⟩ := Deep.choose_lt each
        have hmem : ∀ t ∈ (List.range len).map Sx, Lim t := fun t ht => by
          obtain ⟨i, hi, rfl⟩ := List.mem_map.1 ht
          obtain ⟨_, _, _, _, _, _, _, _, _, _, _, _, _, hL⟩ := hS i (List.mem_range.1 hi)
          exact hL
        have hll : ((List.range len).map Sx).length = len := by simp
        refine ⟨.mk z0 z1 z2 z3 s ((List.range len).map Sx), _, _, _, _, _, _, rfl, ?_, ?_⟩
        · rw [NIn]
          refine ⟨some a, cap, by rw [hll], by omega, fun hp => ?_⟩
          obtain ⟨b, o, p⟩ := a
          obtain ⟨_, _, _, _, _, _, h0, _⟩ := hS 0 (by omega)
          have hs0 : p = none := by simpa [Addr.add] using World.cell?_spot h0
          subst hs0
          refine ⟨b, o, rfl, trivial, nln_of _ o fun i T hi => ?_⟩
          rw [List.getElem?_map] at hi
          by_cases hjl : i < len
          · rw [List.getElem?_range hjl] at hi
            obtain rfl : Sx i = T := by simpa using hi
            obtain ⟨u0, u1, u2, u3, u4, u5, h0, h1, h2, h3, h4, h5, hn, -⟩ := hS i hjl
            rw [Addr.add_lit] at h0 h1 h2 h3 h4 h5
            exact ⟨u0, u1, u2, u3, u4, u5, h0, h1, h2, h3, h4, h5, hn⟩
          · rw [List.getElem?_eq_none (by simp; omega)] at hi
            cases hi
        · rw [Lim]
          refine ⟨hs', ?_, limL_of _ hmem⟩
          rw [hll]
          unfold maxLen at hcm
          omega
set_option maxRecDepth 100000 in
/-- An argument of type api.Node: a tree. -/
theorem open_node {r : Reach} {b0 : Nat} {v : Value} {d : DataW H} {p : List MemPlace} (hv : Value.okWide Tryz.prog w r b0 24 v) (h : DataW.Trod enc Tryz.prog w base sp held 24 v d p) : ∃ T : Nd, Lim T ∧ NIn w TT T v := by
  obtain ⟨cs, rfl, -⟩ := okWide_struct Tryz.underlying24 hv
  obtain ⟨fuel, hf⟩ := h
  obtain ⟨T, v0, v1, v2, v3, v4, v5, e, hn, hL⟩ := open_nodeL fuel fuel _ _ (Nat.le_refl _) hf
  have hcs : cs = #[v0, v1, v2, v3, v4, v5] := by
    have : cs.toList = [v0, v1, v2, v3, v4, v5] := by simpa [Value.cells] using e
    rw [← Array.toArray_toList (xs := cs), this]
  exact ⟨T, hL, by rw [hcs]; exact hn⟩
end
end Go.Proofs.YtcbfohokigamfaaGreatDoor
namespace Go.Proofs.YtcbfohokigamfaaGreatDoor
open Go.RowKit
theorem fspec_none2 : FSpec (fun _ => True) (fun _ => 0) (fun _ => False) := ⟨fun _ _ _ _ => trivial, fun _ h => h.elim⟩
theorem astSame_law (v0 : Value) (T0 : Nd) (v1 : Value) (T1 : Nd) (w : World) (h0 : Lim T0 ∧ NIn w TT T0 v0) (h1 : Lim T1 ∧ NIn w TT T1 v1) (hF : Facts w) :
    Calls Tryz.prog 4 #[v0, v1] w fun e w' => e = .returned (.bool true) ∧ Below w.heap.size w w' :=
  astSame_walk fspec_none2 T0 T1 v0 v1 w h0.1 h1.1 h0.2 h1.2 hF trivial
end Go.Proofs.YtcbfohokigamfaaGreatDoor
