import Derived.Test.YtkpddjbdmjbefaaGreatDoorNWorks
import Derived.Test.YtkpddjbdmjbefaaGreatDoorLAwake
import Derived.BigQuiet
import Derived.Lib.SmallJoins
import Derived.Deep.SlicePairs
import Derived.Deep.Strs
import Derived.OpenShut
namespace Go.Proofs.YtkpddjbdmjbefaaGreatDoor
open Go.RowKit
variable {FW : World → Prop} {ff : List UInt8 → Nat} {OK : List UInt8 → Prop}
def tokT (ff : List UInt8 → Nat) (k : Int) (s : ByteArray) : Bool := match tokensL ff s.data.toList with
  | .ok [t, _] => decide ((t.1 : Int) = k) && decide (txt t.2.1 = s)
  | _ => false
set_option maxRecDepth 100000 in
set_option maxHeartbeats 1000000 in
theorem isTok1_any (hS : FSpec FW ff OK) (s : ByteArray) (hs : s.size ≤ 1000000) (hO : floatsOk OK s) (k : Int) (B : Nat) (w : World) (hF : Facts w) (hW : FW w) (hB : w.cell? ⟨B, 0, none⟩ = some (.int .i64 k)) :
    Calls Tryz.prog 84 #[.string s, .pointer (some ⟨B, 0, none⟩)] w fun e w' => e = .returned (.bool (tokT ff k s)) ∧ Below w.heap.size w w' := by
  cases ht : tokensL ff s.data.toList with
  | error p =>
    obtain ⟨q, e0⟩ := p
    have HC := Lib.hid (tokens_no hS s hs hO q e0 ht w hF hW)
    have HT : Hid (tokT ff k s = false) := Lib.hid (by unfold tokT; rw [ht])
    have HB := Lib.hid hB
    clear ht hF hW hS hO hB
    by_cases h0 : (e0 : Int) = 0
    · rw [h0] at HC
      go_enter Tryz.func84, Tryz.ntmps84
      go_wp2_with fail
      refine HC.out.mono ?_
      rintro e w1 ⟨A, cap, rfl, hb⟩
      have HB1 := Lib.hid hb
      clear hb
      go_wp2_with fail
      go_quiet (fail)
      go_wp2_with fail
      go_ret
      exact ⟨by rw [HT.out] <;> rfl, drewN_belowA HB1.out _⟩
    · have hd : decide ((e0 : Int) = 0) = false := decide_eq_false h0
      have hd' : ((e0 : Int) == 0) = false := by simpa using h0
      go_enter Tryz.func84, Tryz.ntmps84
      go_wp2_with fail
      refine HC.out.mono ?_
      rintro e w1 ⟨A, cap, rfl, hb⟩
      have HB1 := Lib.hid hb
      clear hb
      go_wp2_with fail
      go_quiet (fail)
      go_wp2_with fail
      go_ret
      exact ⟨by rw [HT.out] <;> rfl, drewN_belowA HB1.out _⟩
  | ok ts =>
    have HC := Lib.hid (tokens_ok hS s hs hO ts ht w hF hW)
    have HB := Lib.hid hB
    by_cases hl : ts.length = 2
    · match ts, hl with
      | [t, t2], _ =>
      have HT : Hid (tokT ff k s = (decide ((t.1 : Int) = k) && decide (txt t.2.1 = s))) := Lib.hid (by unfold tokT; rw [ht])
      clear ht hF hW hS hO hB
      generalize hT1 : (t.1 : Int) = t1 at *
      generalize hT2 : txt t.2.1 = t3 at *
      by_cases hk : t1 = k
      · have hd1 : decide (t1 = k) = true := decide_eq_true hk
        have hd1' : (t1 == k) = true := by simpa using hk
        by_cases hx : t3 = s
        · have hd2 : decide (t3 = s) = true := decide_eq_true hx
          have hd2' : (t3.toList == s.toList) = true := by rw [hx]; simp
          go_enter Tryz.func84, Tryz.ntmps84
          go_wp2_with fail
          refine HC.out.mono ?_
          rintro e w1 ⟨A, cap, rfl, hr, hb⟩
          obtain ⟨g, rfl, hc⟩ := hr (by simp)
          obtain ⟨a0, a1, -, -⟩ := hc 0 _ rfl
          rw [hT1] at a0
          rw [hT2] at a1
          have kb := cell_kept HB.out rfl hb
          have HB1 := Lib.hid hb
          clear hb hc hr hT1 hT2
          go_wp2_with fail
          go_quiet (fail)
          go_wp2_with fail
          go_ret
          exact ⟨by rw [HT.out, hd1, hd2]; rfl, drewN_belowA HB1.out _⟩
        · have hd2 : decide (t3 = s) = false := decide_eq_false hx
          have hd2' : (t3.toList == s.toList) = false := by rw [beq_eq_false_iff_ne]; intro he; exact hx (by have := Lib.toList_data t3; have h2 := Lib.toList_data s; rw [he] at this; exact ByteArray.ext (Array.ext' (this.symm.trans h2)))
          go_enter Tryz.func84, Tryz.ntmps84
          go_wp2_with fail
          refine HC.out.mono ?_
          rintro e w1 ⟨A, cap, rfl, hr, hb⟩
          obtain ⟨g, rfl, hc⟩ := hr (by simp)
          obtain ⟨a0, a1, -, -⟩ := hc 0 _ rfl
          rw [hT1] at a0
          rw [hT2] at a1
          have kb := cell_kept HB.out rfl hb
          have HB1 := Lib.hid hb
          clear hb hc hr hT1 hT2
          go_wp2_with fail
          go_quiet (fail)
          go_wp2_with fail
          go_ret
          exact ⟨by rw [HT.out, hd1, hd2]; rfl, drewN_belowA HB1.out _⟩
      · have hd1 : decide (t1 = k) = false := decide_eq_false hk
        have hd1' : (t1 == k) = false := by simpa using hk
        go_enter Tryz.func84, Tryz.ntmps84
        go_wp2_with fail
        refine HC.out.mono ?_
        rintro e w1 ⟨A, cap, rfl, hr, hb⟩
        obtain ⟨g, rfl, hc⟩ := hr (by simp)
        obtain ⟨a0, a1, -, -⟩ := hc 0 _ rfl
        rw [hT1] at a0
        rw [hT2] at a1
        have kb := cell_kept HB.out rfl hb
        have HB1 := Lib.hid hb
        clear hb hc hr hT1 hT2
        go_wp2_with fail
        go_quiet (fail)
        go_wp2_with fail
        go_ret
        exact ⟨by rw [HT.out, hd1]; rfl, drewN_belowA HB1.out _⟩
    · have HT : Hid (tokT ff k s = false) := Lib.hid (by
        unfold tokT; rw [ht]
        match ts, hl with
        | [], _ => rfl
        | [_], _ => rfl
        | [_, _], h => exact absurd rfl h
        | _ :: _ :: _ :: _, _ => rfl)
      have hd : decide ((ts.length : Int) = 2) = false := decide_eq_false (by omega)
      have hd' : ((ts.length : Int) == 2) = false := by rw [beq_eq_false_iff_ne]; omega
      generalize ts.length = n at *
      clear ht hF hW hS hO hB
      go_enter Tryz.func84, Tryz.ntmps84
      go_wp2_with fail
      refine HC.out.mono ?_
      rintro e w1 ⟨A, cap, rfl, -, hb⟩
      have HB1 := Lib.hid hb
      clear hb
      go_wp2_with fail
      go_quiet (fail)
      go_wp2_with fail
      go_ret
      exact ⟨by rw [HT.out] <;> rfl, drewN_belowA HB1.out _⟩
def TokW (FW : World → Prop) (w : World) : Prop := Facts w ∧ FW w
def TokO (OK : List UInt8 → Prop) (s : ByteArray) : Prop := floatsOk OK s
set_option maxRecDepth 100000 in
theorem isToken_any (hS : FSpec FW ff OK) (W : World) (hW : TokW FW W) (k : Int) :
    Calls Tryz.prog 81 #[.int .i64 k] W fun e w' => ∃ v, e = .returned v ∧ NmV (TokO OK) w' v (tokT ff k) ∧ Below W.heap.size W w' := by
  have HB := Lib.hid (alloc_below W (.cells #[.int .i64 k] 3))
  have HT := Lib.hid (alloc_top W #[.int .i64 k] 3)
  have hmf : ∀ (fn : Fn) (first cap : Array Value) (w : World), (Instr.makeFunc fn first cap).run Tryz.prog w = .ok (.func fn first cap) w := fun _ _ _ _ => rfl
  go_enter Tryz.func81, Tryz.ntmps81
  go_wp2_with fail
  go_ret
  refine ⟨_, rfl, ⟨84, #[.pointer (some ⟨W.heap.size, 0, none⟩)], rfl, enters_of Tryz.func84 (by kernel_rfl) rfl, ?_⟩, HB.out⟩
  intro w2 hw2 s hs hD
  have hB1 : (W.alloc (.cells #[.int .i64 k] 3)).cell? ⟨W.heap.size, 0, none⟩ = some (.int .i64 k) := by unfold World.cell?; simp only [HT.out]; rfl
  exact isTok1_any hS s hs hD k W.heap.size w2 ((hW.1.below HB.out).below hw2) (hS.keep _ _ (hS.keep _ _ hW.2 HB.out) hw2) (cell_kept hB1 rfl hw2)
theorem ready_of (hS : FSpec FW ff OK) : Ready (tokT ff) (TokO OK) (TokW FW) :=
  ⟨fun w w' h hb => ⟨h.1.below hb, hS.keep w w' h.2 hb⟩, fun W hW k _ => isToken_any hS W hW k⟩
theorem small_tok (OK : List UInt8 → Prop) (s : ByteArray) (h : smallB s = true) : TokO OK s := by
  have hl := h
  unfold smallB at hl
  rw [List.contains_iff_mem] at hl
  simp only [List.mem_cons, List.not_mem_nil, or_false] at hl
  refine no_float OK s ?_
  rcases hl with e | e | e | e | e | e | e | e | e | e | e | e | e | e <;> rw [e] <;> kernel_rfl
theorem works_tok (hS : FSpec FW ff OK) (w : World) (hF : Facts w) (hW : FW w) : Calls Tryz.prog 5 #[] w fun e w' => e = .returned (.bool true) ∧ Below w.heap.size w w' :=
  works_any (ready_of hS) (small_tok OK) w ⟨hF, hW⟩
end Go.Proofs.YtkpddjbdmjbefaaGreatDoor
namespace Go.Proofs.YtkpddjbdmjbefaaGreatDoor
open Go.RowKit
mutual
def sizeP : Nd → Int → Int
  | .mk _ _ _ _ s l, z => sizePL l (z - 1 - s.size)
def sizePL : List Nd → Int → Int
  | [], z => z
  | n :: l, z => if 0 < z then sizePL l (sizeP n z) else z
end
mutual
def Lim : Nd → Prop
  | .mk _ _ _ _ s l => s.size ≤ 9223372036854775807 ∧ l.length ≤ 9223372036854775807 ∧ LimL l
def LimL : List Nd → Prop
  | [] => True
  | n :: l => Lim n ∧ LimL l
end
theorem Lim.open {n : Nd} (h : Lim n) : n.name.size ≤ 9223372036854775807 ∧ n.kids.length ≤ 9223372036854775807 ∧ LimL n.kids := by
  cases n
  rw [Lim] at h
  exact h
theorem LimL.mem : ∀ {l : List Nd}, LimL l → ∀ t ∈ l, Lim t
  | [], _, t, ht => by cases ht
  | n :: l, h, t, ht => by
    rw [LimL] at h
    rcases List.mem_cons.1 ht with rfl | ht
    · exact h.1
    · exact LimL.mem h.2 t ht
theorem sizeP_eq (n : Nd) (z : Int) : sizeP n z = sizePL n.kids (z - 1 - n.name.size) := by cases n; rw [sizeP]; rfl
mutual
theorem sizeP_le : ∀ (n : Nd) (z : Int), sizeP n z ≤ z - 1
  | .mk _ _ _ _ s l, z => by
    rw [sizeP]
    have := sizePL_le l (z - 1 - s.size)
    omega
theorem sizePL_le : ∀ (l : List Nd) (z : Int), sizePL l z ≤ z
  | [], z => by rw [sizePL]; exact Int.le_refl _
  | n :: l, z => by
    rw [sizePL]
    split
    · have h1 := sizePL_le l (sizeP n z)
      have h2 := sizeP_le n z
      omega
    · exact Int.le_refl _
end
mutual
theorem sizeP_pos : ∀ (n : Nd) (z : Int), (sz n : Int) < z → sizeP n z = z - sz n
  | .mk _ _ _ _ s l, z, h => by
    rw [sizeP]
    rw [sz] at h ⊢
    rw [sizePL_pos l _ (by push_cast at h; omega)]
    push_cast
    omega
theorem sizePL_pos : ∀ (l : List Nd) (z : Int), (szL l : Int) < z → sizePL l z = z - szL l
  | [], z, h => by rw [sizePL, szL]; simp
  | n :: l, z, h => by
    rw [szL] at h
    push_cast at h
    rw [sizePL, if_pos (by omega), sizeP_pos n z (by omega), sizePL_pos l _ (by omega), szL]
    push_cast
    omega
end
mutual
theorem sizeP_neg : ∀ (n : Nd) (z : Int), z ≤ (sz n : Int) → sizeP n z ≤ 0
  | .mk _ _ _ _ s l, z, h => by
    rw [sizeP]
    rw [sz] at h
    exact sizePL_neg l _ (by push_cast at h; omega)
theorem sizePL_neg : ∀ (l : List Nd) (z : Int), z ≤ (szL l : Int) → sizePL l z ≤ 0
  | [], z, h => by rw [szL] at h; rw [sizePL]; simpa using h
  | n :: l, z, h => by
    rw [szL] at h
    push_cast at h
    rw [sizePL]
    split
    · by_cases h1 : z ≤ (sz n : Int)
      · have h2 := sizeP_neg n z h1
        have h3 := sizePL_le l (sizeP n z)
        omega
      · rw [sizeP_pos n z (by omega)]
        exact sizePL_neg l _ (by omega)
    · omega
end
theorem few_iff (n : Nd) : decide (0 < sizeP n 3000) = decide (sz n < 3000) := by
  rw [Bool.eq_iff_iff, decide_eq_true_eq, decide_eq_true_eq]
  constructor
  · intro h
    rcases Nat.lt_or_ge (sz n) 3000 with h1 | h1
    · exact h1
    · have := sizeP_neg n 3000 (by omega)
      omega
  · intro h
    rw [sizeP_pos n 3000 (by omega)]
    omega
theorem sizeP_low (n : Nd) (h : Lim n) (z : Int) (hz : 0 < z) : -9223372036854775807 ≤ sizeP n z := by
  have key : ∀ f (n : Nd) (z : Int), sz n ≤ f → Lim n → 0 < z → -9223372036854775807 ≤ sizeP n z := by
    intro f
    induction f with
    | zero => intro n z hf; have := sz_pos n; omega
    | succ f ih =>
      intro n z hf h hz
      obtain ⟨h1, h2, h3⟩ := h.open
      rw [sizeP_eq]
      have hk : ∀ (l : List Nd) (z : Int), (∀ t ∈ l, Lim t ∧ sz t ≤ f) → -9223372036854775807 ≤ z → -9223372036854775807 ≤ sizePL l z := by
        intro l
        induction l with
        | nil => intro z _ hz; rw [sizePL]; exact hz
        | cons t l ihl =>
          intro z ht hz
          rw [sizePL]
          split
          · obtain ⟨h4, h5⟩ := ht t (List.mem_cons_self ..)
            exact ihl _ (fun s hs => ht s (List.mem_cons_of_mem _ hs)) (ih t z h5 h4 (by omega))
          · exact hz
      refine hk n.kids _ (fun t ht => ⟨h3.mem t ht, ?_⟩) (by omega)
      obtain ⟨i, hi, e⟩ := List.getElem_of_mem ht
      have := sz_kid (n := n) (m := t) (i := i) (by rw [List.getElem?_eq_getElem hi, e])
      omega
  exact key (sz n) n z (Nat.le_refl _) h hz
set_option maxRecDepth 100000 in
set_option maxHeartbeats 2000000 in
theorem size_any : ∀ (f : Nat) (T : Nd) (u : Value) (z : Int) (w : World), sz T ≤ f → Lim T → 0 < z → z ≤ 3000 → NIn w TT T u →
    Calls Tryz.prog 10 #[u, .int .i64 z] w fun e w' => e = .returned (.int .i64 (sizeP T z)) ∧ Below w.heap.size w w' := by
  intro f
  induction f with
  | zero => intro T _ _ _ h; have := sz_pos T; omega
  | succ f ih =>
    intro T u z w hf hL hz0 hz1 hu
    obtain ⟨ia, ic, rfl, hcc, hk⟩ := hu.open
    obtain ⟨hl1, hl2, hl3⟩ := hL.open
    obtain ⟨B1, T1, Z1, K1⟩ := one_more (Below.refl w.heap.size w) (Nat.le_refl _) #[.int .i64 T.kind, .int .i64 T.fro, .int .i64 T.till, .int .i64 T.at', .string T.name, .slice ia T.kids.length ic] 24
    have HB := Lib.hid B1
    have HT := Lib.hid T1
    have HKS := Lib.hid (hk.below B1)
    have HIH := Lib.hid ih
    have HLM := Lib.hid hl3
    have HSZ := Lib.hid hf
    have hw1 : IntKind.i64.wrap (z - 1) = z - 1 := IntWalk.i64_in _ (by omega)
    have hw2 : IntKind.i64.wrap (z - 1 - (T.name.size : Int)) = z - 1 - (T.name.size : Int) := IntWalk.i64_in _ (by omega)
    have HS : Hid (sizeP T z = sizePL T.kids (z - 1 - T.name.size)) := Lib.hid (sizeP_eq T z)
    have hzz : -9223372036854775807 ≤ z - 1 - (T.name.size : Int) ∧ z - 1 - (T.name.size : Int) ≤ 3000 := by omega
    generalize hkn : T.kids.length = n at *
    have HKN := Lib.hid hkn
    clear B1 T1 Z1 K1 hk hu ih hL hl3 hf hkn
    go_enter Tryz.func10, Tryz.ntmps10
    go_wp2_with fail
    generalize w.alloc (.cells #[.int .i64 T.kind, .int .i64 T.fro, .int .i64 T.till, .int .i64 T.at', .string T.name, .slice ia n ic] 24) = w1 at *
    generalize hz2 : z - 1 - (T.name.size : Int) = z2 at *
    clear hz2
    go_loopg [1, 5] n (fun gg s1 s5 wr => ∃ (k : Nat) (y : Int), k ≤ n ∧ n - k ≤ gg ∧ s5 = .int .i64 (k : Int) ∧ s1 = .int .i64 y ∧ -9223372036854775807 ≤ y ∧ y ≤ 3000 ∧ Aside (sizePL T.kids z2 = sizePL (T.kids.drop k) y) ∧ Aside (Below w1.heap.size w1 wr))
    case atStart => exact ⟨0, z2, Nat.zero_le _, by omega, rfl, rfl, hzz.1, hzz.2, rfl, Below.refl _ _⟩
    case round =>
      obtain ⟨k, y, hk, hg, rfl, rfl, hy1, hy2, HY, BW⟩ := hrel
      obtain ⟨k0, k1, k2, k3, k4, k5⟩ := six_cells ((BW.out.block _ (Array.getElem?_eq_some_iff.1 HT.out).1).trans HT.out)
      by_cases hlt : k < n
      · have hltz : (k : Int) < (n : Int) := by omega
        by_cases hyp : 0 < y
        · have hll : k < T.kids.length := by rw [HKN.out]; exact hlt
          obtain ⟨b, o, rfl, -, hrow⟩ := HKS.out (by omega)
          obtain ⟨t, ht⟩ : ∃ t, T.kids[k]? = some t := ⟨_, List.getElem?_eq_getElem hll⟩
          have hrow2 := NLn.keep (W' := wr) (Q := TT) (fun k _ hk => BW.out.block k hk) (fun _ hP _ => hP) b trivial _ _ hrow
          obtain ⟨ja, jc, d0, d1, d2, d3, d4, d5, hic, hkk2⟩ := hrow2.row ht
          have hts := sz_kid ht
          have hsz := HSZ.out
          have hlt2 := HLM.out.mem t (List.mem_of_getElem? ht)
          have HI := Lib.hid (HIH.out t _ y wr (by omega) hlt2 hyp hy2 (NIn.shut hic hkk2))
          have hlo := sizeP_low t hlt2 y hyp
          have hup := sizeP_le t y
          have HY2 : Hid (sizePL T.kids z2 = sizePL (T.kids.drop (k + 1)) (sizeP t y)) := Lib.hid (by rw [HY.out, drop_consN ht, sizePL, if_pos hyp])
          have HKL := Lib.hid (And.intro hlt hg)
          generalize sizeP t y = y2 at *
          clear hrow hrow2 hic hkk2 hts hsz hlt2 ht hll HY hg hlt
          go_wp2_with fail
          refine HI.out.mono ?_
          rintro e w' ⟨rfl, hb⟩
          have HB2 := Lib.hid (BW.out.trans (hb.mono BW.out.size))
          clear hb HI k0 k1 k2 k3 k4 k5
          go_wp2_with fail
          go_roundg (n - (k + 1))
          case measure => have := HKL.out; omega
          case rel =>
            have h1 := HKL.out
            exact ⟨k + 1, y2, by omega, Nat.le_refl _, by go_num, rfl, hlo, by omega, HY2.out, HB2.out⟩
        · have hll : k < T.kids.length := by rw [HKN.out]; exact hlt
          obtain ⟨t, ht⟩ : ∃ t, T.kids[k]? = some t := ⟨_, List.getElem?_eq_getElem hll⟩
          have HX : Hid (sizeP T z = y) := Lib.hid (by rw [HS.out, HY.out, drop_consN ht, sizePL, if_neg hyp])
          clear HY ht hll
          go_wp2_with fail
          go_ret
          refine ⟨?_, HB.out.trans (BW.out.mono HB.out.size)⟩
          rw [HX.out]; rfl
      · have hltz : ¬ (k : Int) < (n : Int) := by omega
        have hke : k = n := by omega
        have HX : Hid (sizeP T z = y) := Lib.hid (by rw [HS.out, HY.out, List.drop_of_length_le (by rw [HKN.out, hke]; exact Nat.le_refl _), sizePL])
        clear HY hke
        go_wp2_with fail
        go_ret
        refine ⟨?_, HB.out.trans (BW.out.mono HB.out.size)⟩
        rw [HX.out]; rfl
end Go.Proofs.YtkpddjbdmjbefaaGreatDoor
namespace Go.Proofs.YtkpddjbdmjbefaaGreatDoor
open Go.RowKit
variable {FW : World → Prop} {ff : List UInt8 → Nat} {OK : List UInt8 → Prop}
mutual
theorem sameN_symm : ∀ a b : Nd, sameN a b = sameN b a
  | .mk k f t p s l, .mk k2 f2 t2 p2 s2 l2 => by
    rw [sameN, sameN]
    show (k == k2 && decide (s = s2) && sameL l l2) = (k2 == k && decide (s2 = s) && sameL l2 l)
    rw [sameL_symm l l2]
    have h1 : (k == k2) = (k2 == k) := by rw [Bool.eq_iff_iff, beq_iff_eq, beq_iff_eq]; exact ⟨Eq.symm, Eq.symm⟩
    have h2 : decide (s = s2) = decide (s2 = s) := by rw [Bool.eq_iff_iff, decide_eq_true_eq, decide_eq_true_eq]; exact ⟨Eq.symm, Eq.symm⟩
    rw [h1, h2]
theorem sameL_symm : ∀ l m : List Nd, sameL l m = sameL m l
  | [], [] => rfl
  | [], _ :: _ => by rw [sameL, sameL] <;> simp
  | _ :: _, [] => by rw [sameL, sameL] <;> simp
  | a :: l, b :: m => by rw [sameL, sameL, sameN_symm a b, sameL_symm l m]
end
theorem sameL_len {l m : List Nd} (h : l.length ≠ m.length) : sameL l m = false := by rw [← allP_same]; exact allP_len _ l m h
set_option maxRecDepth 100000 in
set_option maxHeartbeats 1000000 in
theorem few_any (T : Nd) (u : Value) (w : World) (hL : Lim T) (hu : NIn w TT T u) : Calls Tryz.prog 4 #[u] w fun e w' => e = .returned (.bool (decide (sz T < 3000))) ∧ Below w.heap.size w w' := by
  obtain ⟨ia, ic, rfl, hcc, hk⟩ := hu.open
  obtain ⟨B1, T1, Z1, K1⟩ := one_more (Below.refl w.heap.size w) (Nat.le_refl _) #[.int .i64 T.kind, .int .i64 T.fro, .int .i64 T.till, .int .i64 T.at', .string T.name, .slice ia T.kids.length ic] 24
  have HC := Lib.hid (size_any (sz T) T _ 3000 _ (Nat.le_refl _) hL (by decide) (by decide) (NIn.shut hcc (hk.below B1)))
  have HB := Lib.hid B1
  have HE := Lib.hid (few_iff T)
  clear B1 T1 Z1 K1 hk hu hcc hL
  rw [← HE.out]
  go_enter Tryz.func4, Tryz.ntmps4
  go_wp2_with fail
  refine HC.out.mono ?_
  rintro e w' ⟨rfl, hb⟩
  have HB2 := Lib.hid (HB.out.trans (hb.mono HB.out.size))
  clear hb HC
  go_wp2_with fail
  go_ret
  exact ⟨rfl, HB2.out⟩
end Go.Proofs.YtkpddjbdmjbefaaGreatDoor
namespace Go.Proofs.YtkpddjbdmjbefaaGreatDoor
open Go.ChangeShapes Go.WideShapes Go.RowKit
instance : Inhabited Nd := ⟨.mk 0 0 0 0 ⟨#[]⟩ []⟩
theorem nln_of {W : World} {b : Nat} : ∀ (l : List Nd) (o : Nat), (∀ i T, l[i]? = some T → ∃ v0 v1 v2 v3 v4 v5, W.cell? ⟨b, o + i * 6, none⟩ = some v0 ∧ W.cell? ⟨b, o + i * 6 + 1, none⟩ = some v1 ∧ W.cell? ⟨b, o + i * 6 + 2, none⟩ = some v2 ∧ W.cell? ⟨b, o + i * 6 + 3, none⟩ = some v3 ∧ W.cell? ⟨b, o + i * 6 + 4, none⟩ = some v4 ∧ W.cell? ⟨b, o + i * 6 + 5, none⟩ = some v5 ∧ NIn W TT T (.agg #[v0, v1, v2, v3, v4, v5])) → NLn W TT b o l
  | [], o, _ => nln_nil
  | T :: l, o, h => by
    obtain ⟨v0, v1, v2, v3, v4, v5, h0, h1, h2, h3, h4, h5, hn⟩ := h 0 T rfl
    simp only [Nat.zero_mul, Nat.add_zero] at h0 h1 h2 h3 h4 h5
    refine nln_cons h0 h1 h2 h3 h4 h5 hn (nln_of l (o + 6) fun i S hi => ?_)
    have := h (i + 1) S (by simpa using hi)
    rw [show o + (i + 1) * 6 = o + 6 + i * 6 from by omega] at this
    exact this
theorem limL_of : ∀ l : List Nd, (∀ t ∈ l, Lim t) → LimL l
  | [], _ => by rw [LimL]; trivial
  | T :: l, h => by
    rw [LimL]
    exact ⟨h T (List.mem_cons_self ..), limL_of l fun t ht => h t (List.mem_cons_of_mem _ ht)⟩
section
variable {H : Type} {enc : TypeId × Value → H} {w : World} {base : Nat} {sp : Nat → Bool} {held : Bool}
set_option maxRecDepth 100000 in
theorem open_nodeL : ∀ (f : Nat) (fuel : Nat) (cs : List Value) (x : DataW H × List MemPlace), fuel ≤ f → DataW.trod enc Tryz.prog w base sp held fuel 24 cs = some x →
    ∃ (T : Nd) (v0 v1 v2 v3 v4 v5 : Value), cs = [v0, v1, v2, v3, v4, v5] ∧ NIn w TT T (.agg #[v0, v1, v2, v3, v4, v5]) ∧ Lim T := by
  have c3 : Tryz.prog.cellsOf 3 = 1 := by kernel_rfl
  have c9 : Tryz.prog.cellsOf 9 = 1 := by kernel_rfl
  have c22 : Tryz.prog.cellsOf 22 = 1 := by kernel_rfl
  have c24 : Tryz.prog.cellsOf 24 = 6 := by kernel_rfl
  intro f
  induction f with
  | zero =>
    intro fuel cs x hf h
    obtain rfl : fuel = 0 := by omega
    simp [DataW.trod] at h
  | succ f ih =>
    intro fuel cs x hf h
    obtain ⟨xs, n, rfl, -, hl, hxl, hfd⟩ := DataW.trod_struct Tryz.underlying24 h
    rw [c24] at hl
    match cs, hl, xs, hxl with
    | [v0, v1, v2, v3, v4, v5], _, [y0, y1, y2, y3, y4, y5], _ =>
      have g0 := hfd 0 _ rfl
      have g1 := hfd 1 _ rfl
      have g2 := hfd 2 _ rfl
      have g3 := hfd 3 _ rfl
      have g4 := hfd 4 _ rfl
      have g5 := hfd 5 _ rfl
      simp [c3, c9, c22] at g0 g1 g2 g3 g4 g5
      obtain ⟨z0, e0, -, -⟩ := DataW.trod_int Tryz.underlying3 g0
      obtain ⟨z1, e1, -, -⟩ := DataW.trod_int Tryz.underlying3 g1
      obtain ⟨z2, e2, -, -⟩ := DataW.trod_int Tryz.underlying3 g2
      obtain ⟨z3, e3, -, -⟩ := DataW.trod_int Tryz.underlying3 g3
      obtain ⟨s, e4, -, hs⟩ := DataW.trod_string Tryz.underlying9 g4
      simp only [List.cons.injEq, and_true] at e0 e1 e2 e3 e4
      subst e0 e1 e2 e3 e4
      have hs' : s.size ≤ 9223372036854775807 := by unfold maxLen at hs; omega
      rcases DataW.trod_slice Tryz.underlying22 g5 with ⟨e5, -⟩ | ⟨a, len, cap, elems, rest, m, rfl, e5, -, -, hlc, hcm, hel, hx, -, -⟩
      · simp only [List.cons.injEq, and_true] at e5
        subst e5
        refine ⟨.mk z0 z1 z2 z3 s [], _, _, _, _, _, _, rfl, ?_, ?_⟩
        · rw [NIn]
          exact ⟨none, 0, rfl, Nat.le_refl _, fun h => by cases h⟩
        · rw [Lim]
          exact ⟨hs', by simp, limL_of [] fun t ht => by cases ht⟩
      · simp only [List.cons.injEq, and_true] at e5
        subst e5
        have each : ∀ i, i < len → ∃ T : Nd, ∃ v0 v1 v2 v3 v4 v5, w.cell? (a.add (i * 6)) = some v0 ∧ w.cell? (a.add (i * 6 + 1)) = some v1 ∧ w.cell? (a.add (i * 6 + 2)) = some v2 ∧ w.cell? (a.add (i * 6 + 3)) = some v3 ∧ w.cell? (a.add (i * 6 + 4)) = some v4 ∧ w.cell? (a.add (i * 6 + 5)) = some v5 ∧ NIn w TT T (.agg #[v0, v1, v2, v3, v4, v5]) ∧ Lim T := by
          intro i hi
          have h1 := hx i hi
          rw [c24, List.getElem?_eq_getElem (by omega)] at h1
          obtain ⟨ds, h2, h3⟩ := Option.bind_eq_some_iff.1 h1
          obtain ⟨-, hlen, hcell⟩ := World.cells?_some h2
          obtain ⟨T, u0, u1, u2, u3, u4, u5, rfl, hn, hL⟩ := ih _ _ _ (by omega) h3
          have k0 := hcell 0 (by omega)
          have k1 := hcell 1 (by omega)
          have k2 := hcell 2 (by omega)
          have k3 := hcell 3 (by omega)
          have k4 := hcell 4 (by omega)
          have k5 := hcell 5 (by omega)
          rw [Deep.add_add] at k0 k1 k2 k3 k4 k5
          exact ⟨T, u0, u1, u2, u3, u4, u5, by simpa using k0, by simpa using k1, by simpa using k2, by simpa using k3, by simpa using k4, by simpa using k5, hn, hL⟩
        obtain ⟨Sx, hS⟩ := Deep.choose_lt each
        have hmem : ∀ t ∈ (List.range len).map Sx, Lim t := fun t ht => by
          obtain ⟨i, hi, rfl⟩ := List.mem_map.1 ht
          obtain ⟨_, _, _, _, _, _, _, _, _, _, _, _, _, hL⟩ := hS i (List.mem_range.1 hi)
          exact hL
        have hll : ((List.range len).map Sx).length = len := by simp
        refine ⟨.mk z0 z1 z2 z3 s ((List.range len).map Sx), _, _, _, _, _, _, rfl, ?_, ?_⟩
        · rw [NIn]
          refine ⟨some a, cap, by rw [hll], by omega, fun hp => ?_⟩
          obtain ⟨b, o, p⟩ := a
          obtain ⟨_, _, _, _, _, _, h0, _⟩ := hS 0 (by omega)
          have hs0 : p = none := by simpa [Addr.add] using World.cell?_spot h0
          subst hs0
          refine ⟨b, o, rfl, trivial, nln_of _ o fun i T hi => ?_⟩
          rw [List.getElem?_map] at hi
          by_cases hjl : i < len
          · rw [List.getElem?_range hjl] at hi
            obtain rfl : Sx i = T := by simpa using hi
            obtain ⟨u0, u1, u2, u3, u4, u5, h0, h1, h2, h3, h4, h5, hn, -⟩ := hS i hjl
            rw [Addr.add_lit] at h0 h1 h2 h3 h4 h5
            exact ⟨u0, u1, u2, u3, u4, u5, h0, h1, h2, h3, h4, h5, hn⟩
          · rw [List.getElem?_eq_none (by simp; omega)] at hi
            cases hi
        · rw [Lim]
          refine ⟨hs', ?_, limL_of _ hmem⟩
          rw [hll]
          unfold maxLen at hcm
          omega
set_option maxRecDepth 100000 in
theorem open_node {r : Reach} {b0 : Nat} {v : Value} {d : DataW H} {p : List MemPlace} (hv : Value.okWide Tryz.prog w r b0 24 v) (h : DataW.Trod enc Tryz.prog w base sp held 24 v d p) : ∃ T : Nd, Lim T ∧ NIn w TT T v := by
  obtain ⟨cs, rfl, -⟩ := okWide_struct Tryz.underlying24 hv
  obtain ⟨fuel, hf⟩ := h
  obtain ⟨T, v0, v1, v2, v3, v4, v5, e, hn, hL⟩ := open_nodeL fuel fuel _ _ (Nat.le_refl _) hf
  have hcs : cs = #[v0, v1, v2, v3, v4, v5] := by
    have : cs.toList = [v0, v1, v2, v3, v4, v5] := by simpa [Value.cells] using e
    rw [← Array.toArray_toList (xs := cs), this]
  exact ⟨T, hL, by rw [hcs]; exact hn⟩
end
end Go.Proofs.YtkpddjbdmjbefaaGreatDoor
