/-
  ast.isToken: what it tells of each text, by the tokens of the text. Conditions: Facts; what num.Float says of the floats that stand in the text (FSpec).
  emendlaw10's said, loop, call: what they hand back.
  ast's Path, Placed, at a file of no declarations.
  ast's Path at a file of no declarations: around, apart.
  ast's Path at a file of no declarations: one node, or none.
-/
import Derived.Test.YtcbfohokigamfaaGreatDoorNWorks
import Derived.Test.YtcbfohokigamfaaGreatDoorLAwake
import Derived.BigQuiet
namespace Go.Proofs.YtcbfohokigamfaaGreatDoor
open Go.RowKit
variable {FW : World → Prop} {ff : List UInt8 → Nat} {OK : List UInt8 → Prop}

/-- Is a text one token of a kind? -/
def tokT (ff : List UInt8 → Nat) (k : Int) (s : ByteArray) : Bool := match tokensL ff s.data.toList with
  | .ok [t, _] => decide ((t.1 : Int) = k) && decide (txt t.2.1 = s)
  | _ => false
set_option maxRecDepth 100000 in
set_option maxHeartbeats 1000000 in
theorem isTok1_any (hS : FSpec FW ff OK) (s : ByteArray) (hs : s.size ≤ 1000000) (hO : floatsOk OK s) (k : Int) (B : Nat) (w : World) (hF : Facts w) (hW : FW w) (hB : w.cell? ⟨B, 0, none⟩ = some (.int .i64 k)) :
    Calls Tryz.prog 223 #[.string s, .pointer (some ⟨B, 0, none⟩)] w fun e w' => e = .returned (.bool (tokT ff k s)) ∧ Below w.heap.size w w' := by
  cases ht : tokensL ff s.data.toList with
  | error p =>
    obtain ⟨q, e0⟩ := p
    have HC := Lib.hid (tokens_no hS s hs hO q e0 ht w hF hW)
    have HT : Hid (tokT ff k s = false) := Lib.hid (by unfold tokT; rw [ht])
    have HB := Lib.hid hB
    clear ht hF hW hS hO hB
    by_cases h0 : (e0 : Int) = 0
    · rw [h0] at HC
      go_enter Tryz.func223, Tryz.ntmps223
      go_wp2_with fail
      refine HC.out.mono ?_
      rintro e w1 ⟨A, cap, rfl, hb⟩
      have HB1 := Lib.hid hb
      clear hb
      go_wp2_with fail
      go_quiet (fail)
      go_wp2_with fail
      go_ret
      exact ⟨by rw [HT.out] <;> rfl, drewN_belowA HB1.out _⟩
    · have hd : decide ((e0 : Int) = 0) = false := decide_eq_false h0
      have hd' : ((e0 : Int) == 0) = false := by simpa using h0
      go_enter Tryz.func223, Tryz.ntmps223
      go_wp2_with fail
      refine HC.out.mono ?_
      rintro e w1 ⟨A, cap, rfl, hb⟩
      have HB1 := Lib.hid hb
      clear hb
      go_wp2_with fail
      go_quiet (fail)
      go_wp2_with fail
      go_ret
      exact ⟨by rw [HT.out] <;> rfl, drewN_belowA HB1.out _⟩
  | ok ts =>
    have HC := Lib.hid (tokens_ok hS s hs hO ts ht w hF hW)
    have HB := Lib.hid hB
    by_cases hl : ts.length = 2
    · match ts, hl with
      | [t, t2], _ =>
      have HT : Hid (tokT ff k s = (decide ((t.1 : Int) = k) && decide (txt t.2.1 = s))) := Lib.hid (by unfold tokT; rw [ht])
      clear ht hF hW hS hO hB
      generalize hT1 : (t.1 : Int) = t1 at *
      generalize hT2 : txt t.2.1 = t3 at *
      by_cases hk : t1 = k
      · have hd1 : decide (t1 = k) = true := decide_eq_true hk
        have hd1' : (t1 == k) = true := by simpa using hk
        by_cases hx : t3 = s
        · have hd2 : decide (t3 = s) = true := decide_eq_true hx
          have hd2' : (t3.toList == s.toList) = true := by rw [hx]; simp
          go_enter Tryz.func223, Tryz.ntmps223
          go_wp2_with fail
          refine HC.out.mono ?_
          rintro e w1 ⟨A, cap, rfl, hr, hb⟩
          obtain ⟨g, rfl, hc⟩ := hr (by simp)
          obtain ⟨a0, a1, -, -⟩ := hc 0 _ rfl
          rw [hT1] at a0
          rw [hT2] at a1
          have kb := cell_kept HB.out rfl hb
          have HB1 := Lib.hid hb
          clear hb hc hr hT1 hT2
          go_wp2_with fail
          go_quiet (fail)
          go_wp2_with fail
          go_ret
          exact ⟨by rw [HT.out, hd1, hd2]; rfl, drewN_belowA HB1.out _⟩
        · have hd2 : decide (t3 = s) = false := decide_eq_false hx
          have hd2' : (t3.toList == s.toList) = false := by rw [beq_eq_false_iff_ne]; intro he; exact hx (by have := Lib.toList_data t3; have h2 := Lib.toList_data s; rw [he] at this; exact ByteArray.ext (Array.ext' (this.symm.trans h2)))
          go_enter Tryz.func223, Tryz.ntmps223
          go_wp2_with fail
          refine HC.out.mono ?_
          rintro e w1 ⟨A, cap, rfl, hr, hb⟩
          obtain ⟨g, rfl, hc⟩ := hr (by simp)
          obtain ⟨a0, a1, -, -⟩ := hc 0 _ rfl
          rw [hT1] at a0
          rw [hT2] at a1
          have kb := cell_kept HB.out rfl hb
          have HB1 := Lib.hid hb
          clear hb hc hr hT1 hT2
          go_wp2_with fail
          go_quiet (fail)
          go_wp2_with fail
          go_ret
          exact ⟨by rw [HT.out, hd1, hd2]; rfl, drewN_belowA HB1.out _⟩
      · have hd1 : decide (t1 = k) = false := decide_eq_false hk
        have hd1' : (t1 == k) = false := by simpa using hk
        go_enter Tryz.func223, Tryz.ntmps223
        go_wp2_with fail
        refine HC.out.mono ?_
        rintro e w1 ⟨A, cap, rfl, hr, hb⟩
        obtain ⟨g, rfl, hc⟩ := hr (by simp)
        obtain ⟨a0, a1, -, -⟩ := hc 0 _ rfl
        rw [hT1] at a0
        rw [hT2] at a1
        have kb := cell_kept HB.out rfl hb
        have HB1 := Lib.hid hb
        clear hb hc hr hT1 hT2
        go_wp2_with fail
        go_quiet (fail)
        go_wp2_with fail
        go_ret
        exact ⟨by rw [HT.out, hd1]; rfl, drewN_belowA HB1.out _⟩
    · have HT : Hid (tokT ff k s = false) := Lib.hid (by
        unfold tokT; rw [ht]
        match ts, hl with
        | [], _ => rfl
        | [_], _ => rfl
        | [_, _], h => exact absurd rfl h
        | _ :: _ :: _ :: _, _ => rfl)
      have hd : decide ((ts.length : Int) = 2) = false := decide_eq_false (by omega)
      have hd' : ((ts.length : Int) == 2) = false := by rw [beq_eq_false_iff_ne]; omega
      generalize ts.length = n at *
      clear ht hF hW hS hO hB
      go_enter Tryz.func223, Tryz.ntmps223
      go_wp2_with fail
      refine HC.out.mono ?_
      rintro e w1 ⟨A, cap, rfl, -, hb⟩
      have HB1 := Lib.hid hb
      clear hb
      go_wp2_with fail
      go_quiet (fail)
      go_wp2_with fail
      go_ret
      exact ⟨by rw [HT.out] <;> rfl, drewN_belowA HB1.out _⟩
/-- What isToken needs of a world. -/
def TokW (FW : World → Prop) (w : World) : Prop := Facts w ∧ FW w
def TokO (OK : List UInt8 → Prop) (s : ByteArray) : Prop := floatsOk OK s
set_option maxRecDepth 100000 in
theorem isToken_any (hS : FSpec FW ff OK) (W : World) (hW : TokW FW W) (k : Int) :
    Calls Tryz.prog 206 #[.int .i64 k] W fun e w' => ∃ v, e = .returned v ∧ NmV (TokO OK) w' v (tokT ff k) ∧ Below W.heap.size W w' := by
  have HB := Lib.hid (alloc_below W (.cells #[.int .i64 k] 3))
  have HT := Lib.hid (alloc_top W #[.int .i64 k] 3)
  have hmf : ∀ (fn : Fn) (first cap : Array Value) (w : World), (Instr.makeFunc fn first cap).run Tryz.prog w = .ok (.func fn first cap) w := fun _ _ _ _ => rfl
  go_enter Tryz.func206, Tryz.ntmps206
  go_wp2_with fail
  go_ret
  refine ⟨_, rfl, ⟨223, #[.pointer (some ⟨W.heap.size, 0, none⟩)], rfl, enters_of Tryz.func223 (by kernel_rfl) rfl, ?_⟩, HB.out⟩
  intro w2 hw2 s hs hD
  have hB1 : (W.alloc (.cells #[.int .i64 k] 3)).cell? ⟨W.heap.size, 0, none⟩ = some (.int .i64 k) := by unfold World.cell?; simp only [HT.out]; rfl
  exact isTok1_any hS s hs hD k W.heap.size w2 ((hW.1.below HB.out).below hw2) (hS.keep _ _ (hS.keep _ _ hW.2 HB.out) hw2) (cell_kept hB1 rfl hw2)
/-- Check's conditions, out of the lexer's. -/
theorem ready_of (hS : FSpec FW ff OK) : Ready (tokT ff) (TokO OK) (TokW FW) :=
  ⟨fun w w' h hb => ⟨h.1.below hb, hS.keep w w' h.2 hb⟩, fun W hW k _ => isToken_any hS W hW k⟩
/-- The names of the small trees hold no float. -/
theorem small_tok (OK : List UInt8 → Prop) (s : ByteArray) (h : smallB s = true) : TokO OK s := by
  have hl := h
  unfold smallB at hl
  rw [List.contains_iff_mem] at hl
  simp only [List.mem_cons, List.not_mem_nil, or_false] at hl
  refine no_float OK s ?_
  rcases hl with e | e | e | e | e | e | e | e | e | e | e | e | e | e <;> rw [e] <;> kernel_rfl
/-- works, told of its lexer. -/
theorem works_tok (hS : FSpec FW ff OK) (w : World) (hF : Facts w) (hW : FW w) : Calls Tryz.prog 15 #[] w fun e w' => e = .returned (.bool true) ∧ Below w.heap.size w w' :=
  works_any (ready_of hS) (small_tok OK) w ⟨hF, hW⟩
end Go.Proofs.YtcbfohokigamfaaGreatDoor
namespace Go.Proofs.YtcbfohokigamfaaGreatDoor
open Go.RowKit

def tSaid (e : Nd) : Nd := nt 20 ⟨#[]⟩ [e]
def tLoop (e : Nd) : Nd := nt 15 ⟨#[]⟩ [tNone, tNone, e, tBlock []]
def tCall (f : Nd) (l : List Nd) : Nd := nt 27 ⟨#[]⟩ (f :: l)
set_option maxRecDepth 100000 in
theorem said_tree (a : Nd) (u : Value) (w : World) (hu : NIn w TT a u) : Calls Tryz.prog 39 #[u] w (TreeEnd (tSaid a) w) := by
  obtain ⟨ia, ic, rfl, hcc, hk⟩ := hu.open
  go_enter Tryz.func39, Tryz.ntmps39
  go_wp2_with fail
  have B0 : Below w.heap.size w w := Below.refl _ _
  obtain ⟨B1, T1, Z1, K1⟩ := one_more B0 B0.size #[.int .i64 a.kind, .int .i64 a.fro, .int .i64 a.till, .int .i64 a.at', .string a.name, .slice ia a.kids.length ic] 24
  generalize hw1 : w.alloc (.cells #[.int .i64 a.kind, .int .i64 a.fro, .int .i64 a.till, .int .i64 a.at', .string a.name, .slice ia a.kids.length ic] 24) = w1 at *
  obtain ⟨B2, T2, Z2, K2⟩ := one_more B1 B1.size #[.int .i64 20, .int .i64 0, .int .i64 0, .int .i64 0, .string ⟨#[]⟩, .slice (some ⟨w.heap.size + 1 + 1, 0, none⟩) 1 1] 24
  generalize hw2 : w1.alloc (.cells #[.int .i64 20, .int .i64 0, .int .i64 0, .int .i64 0, .string ⟨#[]⟩, .slice (some ⟨w.heap.size + 1 + 1, 0, none⟩) 1 1] 24) = w2 at *
  rw [Z1] at T2 Z2
  replace T1 := (K2.block _ (Array.getElem?_eq_some_iff.1 T1).1).trans T1
  obtain ⟨B3, T3, Z3, K3⟩ := one_more B2 B2.size #[.int .i64 a.kind, .int .i64 a.fro, .int .i64 a.till, .int .i64 a.at', .string a.name, .slice ia a.kids.length ic] 24
  generalize hw3 : w2.alloc (.cells #[.int .i64 a.kind, .int .i64 a.fro, .int .i64 a.till, .int .i64 a.at', .string a.name, .slice ia a.kids.length ic] 24) = w3 at *
  rw [Z2] at T3 Z3
  replace T1 := (K3.block _ (Array.getElem?_eq_some_iff.1 T1).1).trans T1
  replace T2 := (K3.block _ (Array.getElem?_eq_some_iff.1 T2).1).trans T2
  refine ret_cell1A (p := 2) rfl _ rfl _ (load_nd T2) ⟨_, rfl, ?_, B3⟩
  exact nin_kids (l := [a]) 20 ⟨#[]⟩ (Nat.le_refl _) (nln_cons (cellA T3 (i := 0) rfl) (cellA T3 (i := 1) rfl) (cellA T3 (i := 2) rfl) (cellA T3 (i := 3) rfl) (cellA T3 (i := 4) rfl) (cellA T3 (i := 5) rfl) ((NIn.shut hcc hk).below B3) nln_nil)
set_option maxRecDepth 100000 in
set_option maxHeartbeats 1000000 in
theorem loop_tree (a : Nd) (u : Value) (w : World) (hu : NIn w TT a u) : Calls Tryz.prog 38 #[u] w (TreeEnd (tLoop a) w) := by
  obtain ⟨ia, ic, rfl, hcc, hk⟩ := hu.open
  go_enter Tryz.func38, Tryz.ntmps38
  go_wp2_with fail
  have B0 : Below w.heap.size w w := Below.refl _ _
  obtain ⟨B1, T1, Z1, K1⟩ := one_more B0 B0.size #[.int .i64 a.kind, .int .i64 a.fro, .int .i64 a.till, .int .i64 a.at', .string a.name, .slice ia a.kids.length ic] 24
  generalize hw1 : w.alloc (.cells #[.int .i64 a.kind, .int .i64 a.fro, .int .i64 a.till, .int .i64 a.at', .string a.name, .slice ia a.kids.length ic] 24) = w1 at *
  obtain ⟨B2, T2, Z2, K2⟩ := one_more B1 B1.size #[.int .i64 0, .int .i64 0, .int .i64 0, .int .i64 0, .string ⟨#[]⟩, .slice none 0 0] 24
  generalize hw2 : w1.alloc (.cells #[.int .i64 0, .int .i64 0, .int .i64 0, .int .i64 0, .string ⟨#[]⟩, .slice none 0 0] 24) = w2 at *
  rw [Z1] at T2 Z2
  replace T1 := (K2.block _ (Array.getElem?_eq_some_iff.1 T1).1).trans T1
  have HS0 := Lib.hid (six_cells T1)
  have HK3 := Lib.hid (fun (W : World) (hb : Below w.heap.size w W) => hk.below hb)
  have HB2 := Lib.hid B2
  have HT2 := Lib.hid T2
  have HCC := Lib.hid hcc
  clear B0 B1 B2 Z1 K1 K2 T1 T2 Z2 hw1 hw2 hk hu
  generalize hN : w.heap.size = N at *
  have HNN := Lib.hid hN
  clear hN
  have HNE : Hid (N ≠ N + 1) := Lib.hid (by omega)
  refine wp_region_held_drew (S := (fun w' => w'.cell? ⟨N, 0, none⟩ = some (.int .i64 a.kind) ∧ w'.cell? ⟨N, 1, none⟩ = some (.int .i64 a.fro) ∧ w'.cell? ⟨N, 2, none⟩ = some (.int .i64 a.till) ∧ w'.cell? ⟨N, 3, none⟩ = some (.int .i64 a.at') ∧ w'.cell? ⟨N, 4, none⟩ = some (.string a.name) ∧ w'.cell? ⟨N, 5, none⟩ = some (.slice ia a.kids.length ic))) (by kernel_rfl) HS0.out (fun hHeld => ?_)
  refine wpAnyH_take (i := 0) (oi := ⟨some 3, _, _, _, _, _⟩) (v := ?_) rfl (by kernel_rfl) (by kernel_rfl) (by kernel_rfl) (fun _ _ _ h => h) (Or.inl ⟨by rfl, ?_⟩) hHeld ?_
  rotate_left
  · (intro W hSW; (try dsimp only at hSW); go_simp; first | done | with_reducible rfl)
  try simp only [Act.put, List.setIfInBounds_toArray, List.set_cons_zero, List.set_cons_succ]
  refine wpAnyH_take (i := 1) (oi := ⟨some 4, _, _, _, _, _⟩) (v := ?_) rfl (by kernel_rfl) (by kernel_rfl) (by kernel_rfl) (fun _ _ _ h => h) (Or.inl ⟨by rfl, ?_⟩) hHeld ?_
  rotate_left
  · (intro W hSW; (try dsimp only at hSW); go_simp; first | done | with_reducible rfl)
  try simp only [Act.put, List.setIfInBounds_toArray, List.set_cons_zero, List.set_cons_succ]
  refine wpAnyH_take (i := 2) (oi := ⟨some 5, _, _, _, _, _⟩) (v := ?_) rfl (by kernel_rfl) (by kernel_rfl) (by kernel_rfl) (fun _ _ _ h => h) (Or.inl ⟨by rfl, ?_⟩) hHeld ?_
  rotate_left
  · (intro W hSW; (try dsimp only at hSW); go_simp; first | done | with_reducible rfl)
  try simp only [Act.put, List.setIfInBounds_toArray, List.set_cons_zero, List.set_cons_succ]
  refine wpAnyH_ready (rs := [3]) (by kernel_rfl) (by simp) ?_
  refine AllReadyH.cons (o := ⟨some 6, _, _, _, _, _⟩) rfl (fun K hK => ?_) AllReadyH.nil
  go_simp
  refine (block_nil _).mono ?_
  rintro e w' ⟨rfl, kq⟩
  refine hK.out _ _ (six_keep HS0.out (below_drew kq)) (fun hHeld2 => ?_)
  clear hK K hHeld
  try simp only [Act.put, List.setIfInBounds_toArray, List.set_cons_zero, List.set_cons_succ]
  refine wpAnyH_ready (rs := [4]) (by kernel_rfl) (by simp) ?_
  refine AllReadyH.cons (o := ⟨some 7, _, _, _, _, _⟩) rfl (fun K hK => ?_) AllReadyH.nil
  go_simp
  have hBr := alloc_below w' (.cells #[.int .i64 0, .int .i64 0, .int .i64 0, .int .i64 0, .string ⟨#[]⟩, .slice none 0 0, .int .i64 0, .int .i64 0, .int .i64 0, .int .i64 0, .string ⟨#[]⟩, .slice none 0 0, .int .i64 a.kind, .int .i64 a.fro, .int .i64 a.till, .int .i64 a.at', .string a.name, .slice ia a.kids.length ic, .int .i64 10, .int .i64 0, .int .i64 0, .int .i64 0, .string ⟨#[]⟩, .slice none 0 0] 24)
  have hTr := alloc_top w' #[.int .i64 0, .int .i64 0, .int .i64 0, .int .i64 0, .string ⟨#[]⟩, .slice none 0 0, .int .i64 0, .int .i64 0, .int .i64 0, .int .i64 0, .string ⟨#[]⟩, .slice none 0 0, .int .i64 a.kind, .int .i64 a.fro, .int .i64 a.till, .int .i64 a.at', .string a.name, .slice ia a.kids.length ic, .int .i64 10, .int .i64 0, .int .i64 0, .int .i64 0, .string ⟨#[]⟩, .slice none 0 0] 24
  have hB3 := (below_drew kq).trans (hBr.mono (below_drew kq).size)
  have hT4 := heap_keep hBr (((below_drew kq).block _ (Array.getElem?_eq_some_iff.1 HT2.out).1).trans HT2.out)
  refine hK.out _ _ (six_keep HS0.out hB3) (fun hHeld => ?_)
  clear hK K hHeld2
  generalize w'.alloc (.cells #[.int .i64 0, .int .i64 0, .int .i64 0, .int .i64 0, .string ⟨#[]⟩, .slice none 0 0, .int .i64 0, .int .i64 0, .int .i64 0, .int .i64 0, .string ⟨#[]⟩, .slice none 0 0, .int .i64 a.kind, .int .i64 a.fro, .int .i64 a.till, .int .i64 a.at', .string a.name, .slice ia a.kids.length ic, .int .i64 10, .int .i64 0, .int .i64 0, .int .i64 0, .string ⟨#[]⟩, .slice none 0 0] 24) = w4 at *
  generalize hgr : w'.heap.size = gr at *
  try simp only [Act.put, List.setIfInBounds_toArray, List.set_cons_zero, List.set_cons_succ]
  refine wpAnyH_take (i := 5) (oi := ⟨some 8, _, _, _, _, _⟩) (v := ?_) rfl (by kernel_rfl) (by kernel_rfl) (by kernel_rfl) (fun _ _ _ h => h) (Or.inl ⟨by rfl, ?_⟩) hHeld ?_
  rotate_left
  · (intro W hSW; (try dsimp only at hSW); go_simp; first | done | with_reducible rfl)
  try simp only [Act.put, List.setIfInBounds_toArray, List.set_cons_zero, List.set_cons_succ]
  refine wpAnyH_ready (rs := [6]) (by kernel_rfl) (by simp) ?_
  refine AllReadyH.cons (o := ⟨none, _, _, _, _, _⟩) rfl (fun K hK => ?_) AllReadyH.nil
  obtain ⟨c0, c1, c2, c3, c4, c5⟩ := six_cells hT4
  have f0 := frozen_of_row w4 (N + 1) 0 _ _ hT4
  have f1 := frozen_of_row w4 (N + 1) 1 _ _ hT4
  have f2 := frozen_of_row w4 (N + 1) 2 _ _ hT4
  have f3 := frozen_of_row w4 (N + 1) 3 _ _ hT4
  have f4 := frozen_of_row w4 (N + 1) 4 _ _ hT4
  have f5 := frozen_of_row w4 (N + 1) 5 _ _ hT4
  go_simp
  refine hK.out _ _ (six_set HNE.out (six_keep HS0.out hB3)) (fun hHeld5 => ?_)
  clear hK K hHeld hHeld5 c0 c1 c2 c3 c4 c5 f0 f1 f2 f3 f4 f5
  try simp only [Act.put, List.setIfInBounds_toArray, List.set_cons_zero, List.set_cons_succ]
  refine wpAnyH_done (by kernel_rfl) ?_ _
  go_wp2_with fail
  have hgN : gr ≠ N + 1 := by
    have h1 := (Array.getElem?_eq_some_iff.1 HT2.out).1
    have h2 := (below_drew kq).size
    omega
  have hB6 := HB2.out.trans (hB3.mono (by have h1 := HB2.out.size; have h2 := HNN.out; show N ≤ w2.heap.size; omega))
  have hr6 : ∀ {i : Nat} {x : Value}, w4.cell? ⟨gr, i, none⟩ = some x → _ := fun {i x} hx => cell_setN (v := .slice (some ⟨gr, 0, none⟩) 4 4) (j := 5) hgN (cell_setN (v := .string ⟨#[]⟩) (j := 4) hgN (cell_setN (v := .int .i64 0) (j := 3) hgN (cell_setN (v := .int .i64 0) (j := 2) hgN (cell_setN (v := .int .i64 0) (j := 1) hgN (cell_setN (v := .int .i64 15) (j := 0) hgN hx)))))
  have hB7 := below_set6 (a := .int .i64 15) (b := .int .i64 0) (c := .int .i64 0) (d := .int .i64 0) (e := .string ⟨#[]⟩) (f := .slice (some ⟨gr, 0, none⟩) 4 4) (R := N + 1) hB6 (by omega)
  refine ret_cell1A (p := 2) rfl _ rfl _ (load_nd (six_heap hT4)) ⟨_, rfl, ?_, ?_⟩
  · exact nin_kids (l := [tNone, tNone, a, tBlock []]) 15 ⟨#[]⟩ (Nat.le_refl _) (nln_cons (hr6 (cellA hTr (i := 0) rfl)) (hr6 (cellA hTr (i := 1) rfl)) (hr6 (cellA hTr (i := 2) rfl)) (hr6 (cellA hTr (i := 3) rfl)) (hr6 (cellA hTr (i := 4) rfl)) (hr6 (cellA hTr (i := 5) rfl)) (nin_leaf _ 0 ⟨#[]⟩) (nln_cons (hr6 (cellA hTr (i := 6) rfl)) (hr6 (cellA hTr (i := 7) rfl)) (hr6 (cellA hTr (i := 8) rfl)) (hr6 (cellA hTr (i := 9) rfl)) (hr6 (cellA hTr (i := 10) rfl)) (hr6 (cellA hTr (i := 11) rfl)) (nin_leaf _ 0 ⟨#[]⟩) (nln_cons (hr6 (cellA hTr (i := 12) rfl)) (hr6 (cellA hTr (i := 13) rfl)) (hr6 (cellA hTr (i := 14) rfl)) (hr6 (cellA hTr (i := 15) rfl)) (hr6 (cellA hTr (i := 16) rfl)) (hr6 (cellA hTr (i := 17) rfl)) (NIn.shut HCC.out (HK3.out _ hB7)) (nln_cons (hr6 (cellA hTr (i := 18) rfl)) (hr6 (cellA hTr (i := 19) rfl)) (hr6 (cellA hTr (i := 20) rfl)) (hr6 (cellA hTr (i := 21) rfl)) (hr6 (cellA hTr (i := 22) rfl)) (hr6 (cellA hTr (i := 23) rfl)) (nin_leaf _ 10 ⟨#[]⟩) nln_nil))))
  · rw [HNN.out]; exact hB7
theorem Tryz.info24 : (Tryz.prog.info? 24).map (fun i => (i.zero, i.size, i.bytes)) = some (some (.agg #[.int .i64 0, .int .i64 0, .int .i64 0, .int .i64 0, .string ⟨#[]⟩, .slice none 0 0]), 6, 72) := by kernel_rfl
set_option maxRecDepth 100000 in
set_option maxHeartbeats 1000000 in
theorem call_tree (a x : Nd) (u : Value) (A : Option Addr) (w : World) (hu : NIn w TT a u) (hx : SIn w TT [x] A) : Calls Tryz.prog 36 #[u, .slice A 1 1] w (TreeEnd (tCall a [x]) w) := by
  obtain ⟨i0, hi, hz0, hz1, hz2⟩ := info_parts Tryz.info24
  obtain ⟨ia, ic, rfl, hcc, hk⟩ := hu.open
  obtain ⟨b, o, rfl, -, hrow⟩ := hx (by simp)
  obtain ⟨ja, jc, d0, d1, d2, d3, d4, d5, hcj, hj⟩ := hrow.row (i := 0) (n := x) rfl
  simp only [Nat.zero_mul, Nat.add_zero] at d0 d1 d2 d3 d4 d5
  have B0 : Below w.heap.size w w := Below.refl _ _
  obtain ⟨B1, T1, Z1, K1⟩ := one_more B0 B0.size #[.int .i64 a.kind, .int .i64 a.fro, .int .i64 a.till, .int .i64 a.at', .string a.name, .slice ia a.kids.length ic] 24
  have HE1 := Lib.hid (rfl : w.alloc (.cells #[.int .i64 a.kind, .int .i64 a.fro, .int .i64 a.till, .int .i64 a.at', .string a.name, .slice ia a.kids.length ic] 24) = _)
  obtain ⟨B2, T2, Z2, K2⟩ := one_more B1 B1.size #[.int .i64 0, .int .i64 0, .int .i64 0, .int .i64 0, .string ⟨#[]⟩, .slice none 0 0] 24
  rw [Z1] at T2 Z2
  replace T1 := (K2.block _ (Array.getElem?_eq_some_iff.1 T1).1).trans T1
  obtain ⟨B3, T3, Z3, K3⟩ := one_more B2 B2.size #[.int .i64 a.kind, .int .i64 a.fro, .int .i64 a.till, .int .i64 a.at', .string a.name, .slice ia a.kids.length ic] 24
  rw [Z2] at T3 Z3
  replace T1 := (K3.block _ (Array.getElem?_eq_some_iff.1 T1).1).trans T1
  replace T2 := (K3.block _ (Array.getElem?_eq_some_iff.1 T2).1).trans T2
  have HB3 := Lib.hid B3
  have HT2 := Lib.hid T2
  have HT3 := Lib.hid T3
  have HK := Lib.hid (NIn.shut hcc hk)
  have HJ := Lib.hid (NIn.shut hcj hj)
  have D0 := Lib.hid (And.intro d0 (And.intro d1 (And.intro d2 (And.intro d3 (And.intro d4 d5)))))
  have HI := Lib.hid hi
  have HZ0 := Lib.hid hz0
  have HZ1 := Lib.hid hz1
  have HZ2 := Lib.hid hz2
  clear B0 B1 B2 B3 T1 T2 T3 Z1 Z2 Z3 K1 K2 K3 hk hu hj hrow hx d0 d1 d2 d3 d4 d5 hi hz0 hz1 hz2 HE1
  have hlt : w.heap.size + 1 + 1 < (((w.alloc (.cells #[.int .i64 a.kind, .int .i64 a.fro, .int .i64 a.till, .int .i64 a.at', .string a.name, .slice ia a.kids.length ic] 24)).alloc (.cells #[.int .i64 0, .int .i64 0, .int .i64 0, .int .i64 0, .string ⟨#[]⟩, .slice none 0 0] 24)).alloc (.cells #[.int .i64 a.kind, .int .i64 a.fro, .int .i64 a.till, .int .i64 a.at', .string a.name, .slice ia a.kids.length ic] 24)).heap.size := (Array.getElem?_eq_some_iff.1 HT3.out).1
  have hnews : ∀ (j : Nat) (v : Value), ([.int .i64 x.kind, .int .i64 x.fro, .int .i64 x.till, .int .i64 x.at', .string x.name, .slice ja x.kids.length jc] : List Value)[j]? = some v → (((w.alloc (.cells #[.int .i64 a.kind, .int .i64 a.fro, .int .i64 a.till, .int .i64 a.at', .string a.name, .slice ia a.kids.length ic] 24)).alloc (.cells #[.int .i64 0, .int .i64 0, .int .i64 0, .int .i64 0, .string ⟨#[]⟩, .slice none 0 0] 24)).alloc (.cells #[.int .i64 a.kind, .int .i64 a.fro, .int .i64 a.till, .int .i64 a.at', .string a.name, .slice ia a.kids.length ic] 24)).cell? ((⟨b, o, none⟩ : Addr).add j) = some v := by
    have hB3 := HB3.out
    obtain ⟨d0, d1, d2, d3, d4, d5⟩ := D0.out
    intro j v hv
    generalize ((w.alloc (.cells #[.int .i64 a.kind, .int .i64 a.fro, .int .i64 a.till, .int .i64 a.at', .string a.name, .slice ia a.kids.length ic] 24)).alloc (.cells #[.int .i64 0, .int .i64 0, .int .i64 0, .int .i64 0, .string ⟨#[]⟩, .slice none 0 0] 24)).alloc (.cells #[.int .i64 a.kind, .int .i64 a.fro, .int .i64 a.till, .int .i64 a.at', .string a.name, .slice ia a.kids.length ic] 24) = w3 at *
    have hadd : (⟨b, o, none⟩ : Addr).add j = ⟨b, o + j, none⟩ := by simp [Addr.add]
    rw [hadd]
    have hkeep : ∀ {i : Nat} {y : Value}, w.cell? ⟨b, i, none⟩ = some y → w3.cell? ⟨b, i, none⟩ = some y := fun h => cell_kept h rfl hB3
    match j, hv with
    | 0, hv => simp at hv; rw [← hv]; exact hkeep d0
    | 1, hv => simp at hv; rw [← hv]; exact hkeep d1
    | 2, hv => simp at hv; rw [← hv]; exact hkeep d2
    | 3, hv => simp at hv; rw [← hv]; exact hkeep d3
    | 4, hv => simp at hv; rw [← hv]; exact hkeep d4
    | 5, hv => simp at hv; rw [← hv]; exact hkeep d5
    | j + 6, hv => simp at hv
  have hown : (((w.alloc (.cells #[.int .i64 a.kind, .int .i64 a.fro, .int .i64 a.till, .int .i64 a.at', .string a.name, .slice ia a.kids.length ic] 24)).alloc (.cells #[.int .i64 0, .int .i64 0, .int .i64 0, .int .i64 0, .string ⟨#[]⟩, .slice none 0 0] 24)).alloc (.cells #[.int .i64 a.kind, .int .i64 a.fro, .int .i64 a.till, .int .i64 a.at', .string a.name, .slice ia a.kids.length ic] 24)).ownsRow w.heap.size 24 6 (.slice (some ⟨w.heap.size + 1 + 1, 0, none⟩) 1 1) 1 [.int .i64 a.kind, .int .i64 a.fro, .int .i64 a.till, .int .i64 a.at', .string a.name, .slice ia a.kids.length ic] :=
    ⟨rfl, .inr ⟨w.heap.size + 1 + 1, 1, _, rfl, by omega, HT3.out, Nat.le_refl _, by unfold maxLen; omega, rfl, rfl⟩⟩
  have HOWN := Lib.hid hown
  have HNEWS := Lib.hid hnews
  have HLT := Lib.hid hlt
  clear hown hnews hlt
  go_enter Tryz.func36, Tryz.ntmps36
  go_wp2_with (at_builtin; refine wpList_append_own2 _ rfl _ _ 22 rfl w.heap.size 24 i0 (.agg #[.int .i64 0, .int .i64 0, .int .i64 0, .int .i64 0, .string ⟨#[]⟩, .slice none 0 0]) 6 72 Tryz.underlying22 HI.out HZ0.out HZ1.out HZ2.out rfl (by decide) _ _ _ rfl HOWN.out ⟨b, o, none⟩ 1 1 [.int .i64 x.kind, .int .i64 x.fro, .int .i64 x.till, .int .i64 x.at', .string x.name, .slice ja x.kids.length jc] rfl rfl HNEWS.out ?c2 ?c3 ?c4 ?c5 ?_)
  case c2 => simp [Value.oneCell']
  case c3 => unfold maxLen; omega
  case c4 => omega
  case c5 => exact Nat.le_of_lt (Nat.lt_of_le_of_lt (by omega) HLT.out)
  intro v2 w2 hown2 hgr2 _
  have hlt := HLT.out
  clear HLT HNEWS
  generalize ((w.alloc (.cells #[.int .i64 a.kind, .int .i64 a.fro, .int .i64 a.till, .int .i64 a.at', .string a.name, .slice ia a.kids.length ic] 24)).alloc (.cells #[.int .i64 0, .int .i64 0, .int .i64 0, .int .i64 0, .string ⟨#[]⟩, .slice none 0 0] 24)).alloc (.cells #[.int .i64 a.kind, .int .i64 a.fro, .int .i64 a.till, .int .i64 a.at', .string a.name, .slice ia a.kids.length ic] 24) = w3 at *
  obtain ⟨A2, cp2, rfl⟩ := slice_form hown2
  have hT2 : w2.heap[w.heap.size + 1]? = some (.cells #[.int .i64 0, .int .i64 0, .int .i64 0, .int .i64 0, .string ⟨#[]⟩, .slice none 0 0] 24 (0, 0)) :=
    (hgr2.block _ (by omega) (by simp [Value.ownBlock])).trans HT2.out
  have hB2 : Below w.heap.size w w2 := (HB3.out).trans ⟨hgr2.os, hgr2.tape, hgr2.output, hgr2.size, fun k hk => hgr2.block k (Nat.lt_of_lt_of_le hk (by omega)) (by simp [Value.ownBlock]; omega)⟩
  obtain ⟨c0, c1, c2, c3, c4, c5⟩ := six_cells hT2
  have f0 := frozen_of_row _ (w.heap.size + 1) 0 _ _ hT2
  have f1 := frozen_of_row _ (w.heap.size + 1) 1 _ _ hT2
  have f2 := frozen_of_row _ (w.heap.size + 1) 2 _ _ hT2
  have f3 := frozen_of_row _ (w.heap.size + 1) 3 _ _ hT2
  have f4 := frozen_of_row _ (w.heap.size + 1) 4 _ _ hT2
  have f5 := frozen_of_row _ (w.heap.size + 1) 5 _ _ hT2
  have HT := Lib.hid hT2
  have HB2 := Lib.hid hB2
  have HO2 := Lib.hid hown2
  clear hT2 hB2 hown2 hgr2 hlt
  go_wp2_with fail
  clear c0 c1 c2 c3 c4 c5 f0 f1 f2 f3 f4 f5
  rcases HO2.out.2 with ⟨h0, h1⟩ | ⟨g, cap, cur, h0, hg0, hg, hcap, -, hsz, htake⟩
  · cases h1
  · simp only [Value.slice.injEq, true_and] at h0
    obtain ⟨rfl, rfl⟩ := h0
    have hne : g ≠ w.heap.size + 1 := by
      rintro rfl
      rw [HT.out] at hg
      simp only [Option.some.injEq, Obj.cells.injEq] at hg
      obtain ⟨rfl, -⟩ := hg
      simp at hsz
      omega
    have hcell : ∀ (i : Nat) (y : Value), ([.int .i64 a.kind, .int .i64 a.fro, .int .i64 a.till, .int .i64 a.at', .string a.name, .slice ia a.kids.length ic, .int .i64 x.kind, .int .i64 x.fro, .int .i64 x.till, .int .i64 x.at', .string x.name, .slice ja x.kids.length jc] : List Value)[i]? = some y → w2.cell? ⟨g, i, none⟩ = some y := by
      intro i y hy
      rw [cell_at hg, ← Array.getElem?_toList]
      have hi : i < 12 := by
        have := (List.getElem?_eq_some_iff.1 hy).1
        simpa using this
      rw [← htake, List.getElem?_take, if_pos (by omega)] at hy
      exact hy
    have hB7 := below_set6 (a := .int .i64 27) (b := .int .i64 0) (c := .int .i64 0) (d := .int .i64 0) (e := .string ⟨#[]⟩) (f := .slice (some ⟨g, 0, none⟩) 2 cp2) (R := w.heap.size + 1) HB2.out (by omega)
    have hr6 : ∀ {i : Nat} {y : Value}, w2.cell? ⟨g, i, none⟩ = some y → _ := fun {i y} hy => cell_setN (v := .slice (some ⟨g, 0, none⟩) 2 cp2) (j := 5) hne (cell_setN (v := .string ⟨#[]⟩) (j := 4) hne (cell_setN (v := .int .i64 0) (j := 3) hne (cell_setN (v := .int .i64 0) (j := 2) hne (cell_setN (v := .int .i64 0) (j := 1) hne (cell_setN (v := .int .i64 27) (j := 0) hne hy)))))
    refine ret_cell1A (p := 4) rfl _ rfl _ (load_nd (six_heap HT.out)) ⟨_, rfl, ?_, hB7⟩
    exact nin_kids (l := [a, x]) 27 ⟨#[]⟩ hcap (nln_cons (hr6 (hcell 0 _ rfl)) (hr6 (hcell 1 _ rfl)) (hr6 (hcell 2 _ rfl)) (hr6 (hcell 3 _ rfl)) (hr6 (hcell 4 _ rfl)) (hr6 (hcell 5 _ rfl)) (HK.out.below hB7) (nln_cons (hr6 (hcell 6 _ rfl)) (hr6 (hcell 7 _ rfl)) (hr6 (hcell 8 _ rfl)) (hr6 (hcell 9 _ rfl)) (hr6 (hcell 10 _ rfl)) (hr6 (hcell 11 _ rfl)) (HJ.out.below hB7) nln_nil))
end Go.Proofs.YtcbfohokigamfaaGreatDoor
namespace Go.Proofs.YtcbfohokigamfaaGreatDoor
open Go.RowKit

def tF : Nd := .mk 1 0 9 0 ⟨#[112]⟩ []
theorem eqlIn_nil_nil {P : Program} (w : World) (d : Nat) (t e : TypeId) (h : P.underlying t = some (.slice e)) : (Op.equalIn (d + 1) t (.slice none 0 0) (.slice none 0 0)).run P w = .ok true w := by
  simp [Op.equalIn, run_underlying h]
theorem eql_nil_nil {P : Program} (w : World) (t e : TypeId) (h : P.underlying t = some (.slice e)) : (binOp .eql t (.slice none 0 0) (.slice none 0 0)).run P w = .ok (.bool true) w := by
  simp only [binOp]
  simp [show Op.equal t (.slice none 0 0) (.slice none 0 0) = Op.equalIn (9999 + 1) t (.slice none 0 0) (.slice none 0 0) from rfl, eqlIn_nil_nil w 9999 t e h]
set_option maxRecDepth 100000 in
theorem sclone_nil (w : World) : Calls Tryz.prog 93 #[.slice none 0 0] w fun e w' => e = .returned (.slice none 0 0) ∧ w = w' := by
  have hq := eql_nil_nil (P := Tryz.prog) w _ _ Tryz.underlying22
  go_enter Tryz.func93, Tryz.ntmps93
  go_wp2_with fail
  go_ret
  exact ⟨rfl, rfl⟩
set_option maxRecDepth 100000 in
set_option maxHeartbeats 1000000 in
theorem placed_leaf (s : Int) (b : Bool) (hs : decide (9 > s) = !b) (w : World) : Calls Tryz.prog 29 #[.agg #[.int .i64 1, .int .i64 0, .int .i64 9, .int .i64 0, .string ⟨#[112]⟩, .slice none 0 0], .int .i64 s] w fun e w' => e = .returned (.bool b) ∧ Below w.heap.size w w' := by
  have HB := Lib.hid (alloc_below w (.cells #[.int .i64 1, .int .i64 0, .int .i64 9, .int .i64 0, .string ⟨#[112]⟩, .slice none 0 0] 24))
  cases b with
  | false =>
    have h2 : decide (s < 9) = true := hs
    have h3 : s < 9 := of_decide_eq_true h2
    go_enter Tryz.func29, Tryz.ntmps29
    go_wp2_with fail
    go_ret
    exact ⟨rfl, HB.out⟩
  | true =>
    have h2 : decide (s < 9) = false := hs
    have h3 : ¬ s < 9 := of_decide_eq_false h2
    go_enter Tryz.func29, Tryz.ntmps29
    go_wp2_with fail
    generalize w.alloc (.cells #[.int .i64 1, .int .i64 0, .int .i64 9, .int .i64 0, .string ⟨#[112]⟩, .slice none 0 0] 24) = w1 at *
    go_loopg [39] 0 (fun gg s39 wr => s39 = .int .i64 0 ∧ wr = w1)
    case atStart => exact ⟨rfl, rfl⟩
    case round =>
      obtain ⟨rfl, rfl⟩ := hrel
      go_wp2_with fail
      go_ret
      exact ⟨rfl, HB.out⟩
set_option maxRecDepth 100000 in
set_option maxHeartbeats 1000000 in
theorem copy_leaf (w : World) : Calls Tryz.prog 59 #[.agg #[.int .i64 1, .int .i64 0, .int .i64 9, .int .i64 0, .string ⟨#[112]⟩, .slice none 0 0]] w fun e w' => e = .returned (.agg #[.int .i64 1, .int .i64 0, .int .i64 9, .int .i64 0, .string ⟨#[112]⟩, .slice none 0 0]) ∧ Below w.heap.size w w' := by
  obtain ⟨B1, T1, Z1, K1⟩ := one_more (Below.refl w.heap.size w) (Nat.le_refl _) #[.int .i64 1, .int .i64 0, .int .i64 9, .int .i64 0, .string ⟨#[112]⟩, .slice none 0 0] 24
  obtain ⟨B2, T2, Z2, K2⟩ := one_more B1 B1.size #[.int .i64 0, .int .i64 0, .int .i64 0, .int .i64 0, .string ⟨#[]⟩, .slice none 0 0] 24
  rw [Z1] at T2 Z2
  replace T1 := (K2.block _ (Array.getElem?_eq_some_iff.1 T1).1).trans T1
  have HB2 := Lib.hid B2
  have HT1 := Lib.hid T1
  have HT2 := Lib.hid T2
  have HC := Lib.hid (fun w => clone_any ⟨#[112]⟩ (by decide) w)
  clear B1 B2 T1 T2 Z1 Z2 K1 K2
  go_enter Tryz.func59, Tryz.ntmps59
  go_wp2_with fail
  refine (HC.out _).mono ?_
  rintro e w2 ⟨rfl, hb⟩
  have hT1 := (hb.block _ (Array.getElem?_eq_some_iff.1 HT1.out).1).trans HT1.out
  have hT2 := (hb.block _ (Array.getElem?_eq_some_iff.1 HT2.out).1).trans HT2.out
  have HB3 := Lib.hid (HB2.out.trans (hb.mono HB2.out.size))
  obtain ⟨c0, c1, c2, c3, c4, c5⟩ := six_cells hT1
  have f4 := frozen_of_row _ w.heap.size 4 _ _ hT1
  have f5 := frozen_of_row _ w.heap.size 5 _ _ hT1
  have H1 := Lib.hid hT1
  have H2 := Lib.hid hT2
  clear hb HB2 HT1 HT2 hT1 hT2 HC
  go_wp2_with fail
  refine (sclone_nil _).mono ?_
  rintro e w' ⟨rfl, rfl⟩
  go_wp2_with fail
  have hne : w.heap.size + 1 ≠ w.heap.size := by omega
  have h3 := heap_setCell_same _ w.heap.size 5 _ _ (.slice none 0 0) (heap_setCell_same w2 w.heap.size 4 _ _ (.string ⟨#[112]⟩) H1.out)
  have h4 := (heap_setCell_other (w2.setCell ⟨w.heap.size, 4, none⟩ (.string ⟨#[112]⟩)) ⟨w.heap.size, 5, none⟩ (w.heap.size + 1) (.slice none 0 0) hne).trans ((heap_setCell_other w2 ⟨w.heap.size, 4, none⟩ (w.heap.size + 1) (.string ⟨#[112]⟩) hne).trans H2.out)
  have h5 := (HB3.out.setCell (p := ⟨w.heap.size, 4, none⟩) (Nat.le_refl _) (.string ⟨#[112]⟩)).setCell (p := ⟨w.heap.size, 5, none⟩) (Nat.le_refl _) (.slice none 0 0)
  clear c0 c1 c2 c3 c4 c5 f4 f5 H1 H2 HB3 hne
  generalize (w2.setCell ⟨w.heap.size, 4, none⟩ (.string ⟨#[112]⟩)).setCell ⟨w.heap.size, 5, none⟩ (.slice none 0 0) = w3 at *
  have h3' : w3.heap[w.heap.size]? = some (.cells #[.int .i64 1, .int .i64 0, .int .i64 9, .int .i64 0, .string ⟨#[112]⟩, .slice none 0 0] 24 (0, 0)) := h3
  have H3 := Lib.hid h3'
  have H4 := Lib.hid h4
  have H5 := Lib.hid h5
  clear h3 h3' h4 h5
  go_loopg [16] 0 (fun gg s16 wr => s16 = .int .i64 0 ∧ wr = w3)
  case atStart => exact ⟨rfl, rfl⟩
  case round =>
    obtain ⟨rfl, rfl⟩ := hrel
    obtain ⟨c0, c1, c2, c3, c4, c5⟩ := six_cells H3.out
    obtain ⟨d0, d1, d2, d3, d4, d5⟩ := six_cells H4.out
    have f0 := frozen_of_row _ (w.heap.size + 1) 0 _ _ H4.out
    have f1 := frozen_of_row _ (w.heap.size + 1) 1 _ _ H4.out
    have f2 := frozen_of_row _ (w.heap.size + 1) 2 _ _ H4.out
    have f3 := frozen_of_row _ (w.heap.size + 1) 3 _ _ H4.out
    have f4 := frozen_of_row _ (w.heap.size + 1) 4 _ _ H4.out
    have f5 := frozen_of_row _ (w.heap.size + 1) 5 _ _ H4.out
    go_wp2_with fail
    clear c0 c1 c2 c3 c4 c5 d0 d1 d2 d3 d4 d5 f0 f1 f2 f3 f4 f5
    exact ret_cell1A (p := 2) rfl _ rfl _ (load_nd (six_heap H4.out)) ⟨rfl, below_set6 (R := w.heap.size + 1) H5.out (by omega)⟩
end Go.Proofs.YtcbfohokigamfaaGreatDoor
namespace Go.Proofs.YtcbfohokigamfaaGreatDoor
open Go.RowKit

set_option maxRecDepth 100000 in
set_option maxHeartbeats 1000000 in
theorem around_3 (p q : Nat) (w : World) (hp : w.cell? ⟨p, 0, none⟩ = some (.int .i64 3)) (hq : w.cell? ⟨q, 0, none⟩ = some (.int .i64 3)) : Calls Tryz.prog 58 #[.agg #[.int .i64 1, .int .i64 0, .int .i64 9, .int .i64 0, .string ⟨#[112]⟩, .slice none 0 0], .pointer (some ⟨p, 0, none⟩), .pointer (some ⟨q, 0, none⟩)] w fun e w' => e = .returned (.bool true) ∧ Below w.heap.size w w' := by
  have HB := Lib.hid (alloc_below w (.cells #[.int .i64 1, .int .i64 0, .int .i64 9, .int .i64 0, .string ⟨#[112]⟩, .slice none 0 0] 24))
  have hp1 := cell_kept hp rfl HB.out
  have hq1 := cell_kept hq rfl HB.out
  go_enter Tryz.func58, Tryz.ntmps58
  go_wp2_with fail
  go_ret
  exact ⟨rfl, HB.out⟩
set_option maxRecDepth 100000 in
set_option maxHeartbeats 1000000 in
theorem around_10 (p q : Nat) (w : World) (hp : w.cell? ⟨p, 0, none⟩ = some (.int .i64 10)) (hq : w.cell? ⟨q, 0, none⟩ = some (.int .i64 10)) : Calls Tryz.prog 58 #[.agg #[.int .i64 1, .int .i64 0, .int .i64 9, .int .i64 0, .string ⟨#[112]⟩, .slice none 0 0], .pointer (some ⟨p, 0, none⟩), .pointer (some ⟨q, 0, none⟩)] w fun e w' => e = .returned (.bool false) ∧ Below w.heap.size w w' := by
  have HB := Lib.hid (alloc_below w (.cells #[.int .i64 1, .int .i64 0, .int .i64 9, .int .i64 0, .string ⟨#[112]⟩, .slice none 0 0] 24))
  have hp1 := cell_kept hp rfl HB.out
  have hq1 := cell_kept hq rfl HB.out
  go_enter Tryz.func58, Tryz.ntmps58
  go_wp2_with fail
  go_ret
  exact ⟨rfl, HB.out⟩
/-- All that was there is as it was, but for one block. -/
def Keeps (L : Nat) (w w' : World) : Prop := Below L w w' ∧ w.heap.size ≤ w'.heap.size ∧ ∀ k, k < w.heap.size → k ≠ L → w'.heap[k]? = w.heap[k]?
set_option maxRecDepth 100000 in
set_option maxHeartbeats 1000000 in
theorem apart_leaf (L : Nat) (w : World) (hL : w.heap[L]? = some (.cells #[.int .i64 33554432] 3 (0, 0))) : Calls Tryz.prog 60 #[.agg #[.int .i64 1, .int .i64 0, .int .i64 9, .int .i64 0, .string ⟨#[112]⟩, .slice none 0 0], .pointer (some ⟨L, 0, none⟩)] w fun e w' => e = .returned (.agg #[.int .i64 1, .int .i64 0, .int .i64 9, .int .i64 0, .string ⟨#[112]⟩, .slice none 0 0]) ∧ Keeps L w w' := by
  have hlt : L < w.heap.size := (Array.getElem?_eq_some_iff.1 hL).1
  obtain ⟨B1, T1, Z1, K1⟩ := one_more (Below.refl w.heap.size w) (Nat.le_refl _) #[.int .i64 1, .int .i64 0, .int .i64 9, .int .i64 0, .string ⟨#[112]⟩, .slice none 0 0] 24
  obtain ⟨B2, T2, Z2, K2⟩ := one_more B1 B1.size #[.int .i64 0, .int .i64 0, .int .i64 0, .int .i64 0, .string ⟨#[]⟩, .slice none 0 0] 24
  rw [Z1] at T2 Z2
  replace T1 := (K2.block _ (Array.getElem?_eq_some_iff.1 T1).1).trans T1
  have hL2 := (B2.block _ hlt).trans hL
  have cL := cellA hL2 (i := 0) rfl
  have fL := frozen_of_row _ L 0 _ _ hL2
  obtain ⟨c0, c1, c2, c3, c4, c5⟩ := six_cells T1
  have HB2 := Lib.hid B2
  have HT1 := Lib.hid T1
  have HT2 := Lib.hid T2
  have HL2 := Lib.hid hL2
  have HLT := Lib.hid hlt
  clear B1 B2 T1 T2 Z1 Z2 K1 K2 hL hL2 hlt
  go_enter Tryz.func60, Tryz.ntmps60
  go_wp2_with fail
  go_quiet (fail)
  go_wp2_with fail
  have hB3 := drewN_belowA HB2.out nq
  have hk : ∀ k : Nat, (((w.alloc (.cells #[.int .i64 1, .int .i64 0, .int .i64 9, .int .i64 0, .string ⟨#[112]⟩, .slice none 0 0] 24)).alloc (.cells #[.int .i64 0, .int .i64 0, .int .i64 0, .int .i64 0, .string ⟨#[]⟩, .slice none 0 0] 24)).drewN nq).heap[k]? = ((w.alloc (.cells #[.int .i64 1, .int .i64 0, .int .i64 9, .int .i64 0, .string ⟨#[112]⟩, .slice none 0 0] 24)).alloc (.cells #[.int .i64 0, .int .i64 0, .int .i64 0, .int .i64 0, .string ⟨#[]⟩, .slice none 0 0] 24)).heap[k]? := fun k => rfl
  have hT1 := (hk _).trans HT1.out
  have hT2 := (hk _).trans HT2.out
  have hL3 := (hk _).trans HL2.out
  clear cL fL c0 c1 c2 c3 c4 c5 HB2 HT1 HT2 HL2 hk
  generalize ((w.alloc (.cells #[.int .i64 1, .int .i64 0, .int .i64 9, .int .i64 0, .string ⟨#[112]⟩, .slice none 0 0] 24)).alloc (.cells #[.int .i64 0, .int .i64 0, .int .i64 0, .int .i64 0, .string ⟨#[]⟩, .slice none 0 0] 24)).drewN nq = w3 at *
  have HB3 := Lib.hid hB3
  have HT1 := Lib.hid hT1
  have HT2 := Lib.hid hT2
  have HL3 := Lib.hid hL3
  have cL := cellA hL3 (i := 0) rfl
  have fL := frozen_of_row _ L 0 _ _ hL3
  obtain ⟨c0, c1, c2, c3, c4, c5⟩ := six_cells hT1
  clear hB3 hT1 hT2 hL3 c0 c1 c2 c3 c4
  have hw0 : IntKind.i64.wrap 33554432 = 33554432 := rfl
  refine wp_region_held_drew (S := fun w' => w'.cell? ⟨L, 0, none⟩ = some (.int .i64 33554432) ∧ w'.cell? ⟨w.heap.size, 5, none⟩ = some (.slice none 0 0)) (by kernel_rfl) ⟨cL, c5⟩ (fun hHeld => ?_)
  refine wpAnyH_take (i := 0) (oi := ⟨some 15, _, _, _, _, _⟩) (v := ?_) rfl (by kernel_rfl) (by kernel_rfl) (by kernel_rfl) (fun _ _ _ h => h) (Or.inl ⟨by rfl, ?_⟩) hHeld ?_
  rotate_left
  · (intro W hSW; (try dsimp only at hSW); go_simp; first | done | with_reducible rfl)
  try simp only [Act.put, List.setIfInBounds_toArray, List.set_cons_zero, List.set_cons_succ]
  refine wpAnyH_take (i := 1) (oi := ⟨some 16, _, _, _, _, _⟩) (v := ?_) rfl (by kernel_rfl) (by kernel_rfl) (by kernel_rfl) (fun _ _ _ h => h) (Or.inl ⟨by rfl, ?_⟩) hHeld ?_
  rotate_left
  · (intro W hSW; (try dsimp only at hSW); go_simp; first | done | with_reducible rfl)
  try simp only [Act.put, List.setIfInBounds_toArray, List.set_cons_zero, List.set_cons_succ]
  refine wpAnyH_take (i := 2) (oi := ⟨some 17, _, _, _, _, _⟩) (v := ?_) rfl (by kernel_rfl) (by kernel_rfl) (by kernel_rfl) (fun _ _ _ h => h) (Or.inl ⟨by rfl, ?_⟩) hHeld ?_
  rotate_left
  · (intro W hSW; (try dsimp only at hSW); go_simp; first | done | with_reducible rfl)
  try simp only [Act.put, List.setIfInBounds_toArray, List.set_cons_zero, List.set_cons_succ]
  refine wpAnyH_take (i := 3) (oi := ⟨some 18, _, _, _, _, _⟩) (v := ?_) rfl (by kernel_rfl) (by kernel_rfl) (by kernel_rfl) (fun _ _ _ h => h) (Or.inl ⟨by rfl, ?_⟩) hHeld ?_
  rotate_left
  · (intro W hSW; (try dsimp only at hSW); go_simp; first | done | with_reducible rfl)
  try simp only [Act.put, List.setIfInBounds_toArray, List.set_cons_zero, List.set_cons_succ]
  refine wpAnyH_take (i := 4) (oi := ⟨some 19, _, _, _, _, _⟩) (v := ?_) rfl (by kernel_rfl) (by kernel_rfl) (by kernel_rfl) (fun _ _ _ h => h) (Or.inl ⟨by rfl, ?_⟩) hHeld ?_
  rotate_left
  · (intro W hSW; (try dsimp only at hSW); go_simp; first | done | with_reducible rfl)
  try simp only [Act.put, List.setIfInBounds_toArray, List.set_cons_zero, List.set_cons_succ]
  refine wpAnyH_take (i := 5) (oi := ⟨some 20, _, _, _, _, _⟩) (v := ?_) rfl (by kernel_rfl) (by kernel_rfl) (by kernel_rfl) (fun _ _ _ h => h) (Or.inl ⟨by rfl, ?_⟩) hHeld ?_
  rotate_left
  · (intro W hSW; (try dsimp only at hSW); go_simp; first | done | with_reducible rfl)
  try simp only [Act.put, List.setIfInBounds_toArray, List.set_cons_zero, List.set_cons_succ]
  refine wpAnyH_take (i := 6) (oi := ⟨some 21, _, _, _, _, _⟩) (v := ?_) rfl (by kernel_rfl) (by kernel_rfl) (by kernel_rfl) (fun _ _ _ h => h) (Or.inl ⟨by rfl, ?_⟩) hHeld ?_
  rotate_left
  · (intro W hSW; (try dsimp only at hSW); go_simp; first | done | with_reducible rfl)
  try simp only [Act.put, List.setIfInBounds_toArray, List.set_cons_zero, List.set_cons_succ]
  refine wpAnyH_take (i := 7) (oi := ⟨some 22, _, _, _, _, _⟩) (v := ?_) rfl (by kernel_rfl) (by kernel_rfl) (by kernel_rfl) (fun _ _ _ h => h) (Or.inl ⟨by rfl, ?_⟩) hHeld ?_
  rotate_left
  · (intro W hSW; (try dsimp only at hSW); go_simp; first | done | with_reducible rfl)
  try simp only [Act.put, List.setIfInBounds_toArray, List.set_cons_zero, List.set_cons_succ]
  refine wpAnyH_ready (rs := [8]) (by kernel_rfl) (by simp) ?_
  refine AllReadyH.cons (o := ⟨none, _, _, _, _, _⟩) rfl (fun K hK => ?_) AllReadyH.nil
  go_simp
  have hL4 := heap_setCell_same w3 L 0 _ _ (.int .i64 33554432) HL3.out
  have hLN : w.heap.size ≠ L := by have := HLT.out; omega
  have hLN1 : w.heap.size + 1 ≠ L := by have := HLT.out; omega
  have hT1 := (heap_setCell_other w3 ⟨L, 0, none⟩ w.heap.size (.int .i64 33554432) hLN).trans HT1.out
  have hT2 := (heap_setCell_other w3 ⟨L, 0, none⟩ (w.heap.size + 1) (.int .i64 33554432) hLN1).trans HT2.out
  have hKP : Keeps L w (w3.setCell ⟨L, 0, none⟩ (.int .i64 33554432)).drew := by
    refine ⟨((HB3.out.mono (Nat.le_of_lt HLT.out)).setCell (p := ⟨L, 0, none⟩) (Nat.le_refl L) _).drew, ?_, fun k hk hne => ?_⟩
    · show w.heap.size ≤ (w3.setCell ⟨L, 0, none⟩ (.int .i64 33554432)).heap.size
      rw [show (w3.setCell ⟨L, 0, none⟩ (.int .i64 33554432)).heap.size = w3.heap.size from by simp [World.setCell]]
      exact HB3.out.size
    · exact (heap_setCell_other w3 ⟨L, 0, none⟩ k (.int .i64 33554432) hne).trans (HB3.out.block k hk)
  have HS4 : Hid ((w3.setCell ⟨L, 0, none⟩ (.int .i64 33554432)).drew.cell? ⟨L, 0, none⟩ = some (.int .i64 33554432) ∧ (w3.setCell ⟨L, 0, none⟩ (.int .i64 33554432)).drew.cell? ⟨w.heap.size, 5, none⟩ = some (.slice none 0 0)) :=
    Lib.hid ⟨cellA hL4 (i := 0) rfl, cellA hT1 (i := 5) rfl⟩
  have hT1' : (w3.setCell ⟨L, 0, none⟩ (.int .i64 33554432)).drew.heap[w.heap.size]? = _ := hT1
  have hT2' : (w3.setCell ⟨L, 0, none⟩ (.int .i64 33554432)).drew.heap[w.heap.size + 1]? = _ := hT2
  refine hK.out _ _ HS4.out (fun hHeld2 => ?_)
  clear hK K hHeld hHeld2 cL fL c5 HB3 HT1 HT2 HL3 hL4 hT1 hT2 HS4
  generalize (w3.setCell ⟨L, 0, none⟩ (.int .i64 33554432)).drew = w4 at *
  try simp only [Act.put, List.setIfInBounds_toArray, List.set_cons_zero, List.set_cons_succ]
  refine wpAnyH_done (by kernel_rfl) ?_ _
  obtain ⟨c0, c1, c2, c3, c4, c5⟩ := six_cells hT1'
  have f5 := frozen_of_row _ w.heap.size 5 _ _ hT1'
  have H1 := Lib.hid hT1'
  have H2 := Lib.hid hT2'
  have HKP := Lib.hid hKP
  have HLN := Lib.hid hLN
  clear hT1' hT2' hKP hLN hLN1
  go_wp2_with fail
  refine (sclone_nil _).mono ?_
  rintro e w' ⟨rfl, rfl⟩
  go_wp2_with fail
  have hne : w.heap.size + 1 ≠ w.heap.size := by omega
  have h3 := heap_setCell_same w4 w.heap.size 5 _ _ (.slice none 0 0) H1.out
  have h4 := (heap_setCell_other w4 ⟨w.heap.size, 5, none⟩ (w.heap.size + 1) (.slice none 0 0) hne).trans H2.out
  have hKP : Keeps L w (w4.setCell ⟨w.heap.size, 5, none⟩ (.slice none 0 0)) := by
    refine ⟨HKP.out.1.setCell (p := ⟨w.heap.size, 5, none⟩) (Nat.le_of_lt HLT.out) _, ?_, fun k hk hn => ?_⟩
    · rw [show (w4.setCell ⟨w.heap.size, 5, none⟩ (.slice none 0 0)).heap.size = w4.heap.size from by simp [World.setCell]]
      exact HKP.out.2.1
    · exact (heap_setCell_other w4 ⟨w.heap.size, 5, none⟩ k (.slice none 0 0) (by show k ≠ w.heap.size; omega)).trans (HKP.out.2.2 k hk hn)
  clear c0 c1 c2 c3 c4 c5 f5 H1 H2 HKP hne
  generalize w4.setCell ⟨w.heap.size, 5, none⟩ (.slice none 0 0) = w5 at *
  have h3' : w5.heap[w.heap.size]? = some (.cells #[.int .i64 1, .int .i64 0, .int .i64 9, .int .i64 0, .string ⟨#[112]⟩, .slice none 0 0] 24 (0, 0)) := h3
  have H3 := Lib.hid h3'
  have H4 := Lib.hid h4
  have HKP := Lib.hid hKP
  clear h3 h3' h4 hKP
  go_loopg [30] 0 (fun gg s30 wr => s30 = .int .i64 0 ∧ wr = w5)
  case atStart => exact ⟨rfl, rfl⟩
  case round =>
    obtain ⟨rfl, rfl⟩ := hrel
    obtain ⟨c0, c1, c2, c3, c4, c5⟩ := six_cells H3.out
    obtain ⟨d0, d1, d2, d3, d4, d5⟩ := six_cells H4.out
    have f0 := frozen_of_row _ (w.heap.size + 1) 0 _ _ H4.out
    have f1 := frozen_of_row _ (w.heap.size + 1) 1 _ _ H4.out
    have f2 := frozen_of_row _ (w.heap.size + 1) 2 _ _ H4.out
    have f3 := frozen_of_row _ (w.heap.size + 1) 3 _ _ H4.out
    have f4 := frozen_of_row _ (w.heap.size + 1) 4 _ _ H4.out
    have f5 := frozen_of_row _ (w.heap.size + 1) 5 _ _ H4.out
    go_wp2_with fail
    clear c0 c1 c2 c3 c4 c5 d0 d1 d2 d3 d4 d5 f0 f1 f2 f3 f4 f5
    refine ret_cell1A (p := 4) rfl _ rfl _ (load_nd (six_heap H4.out)) ⟨rfl, below_set6 (R := w.heap.size + 1) HKP.out.1 (by have := HLT.out; omega), ?_, fun k hk hn => ?_⟩
    · simpa [World.setCell] using HKP.out.2.1
    · refine (heap_setCell_other _ ⟨w.heap.size + 1, 5, none⟩ k _ (by show k ≠ w.heap.size + 1; omega)).trans ?_
      refine (heap_setCell_other _ ⟨w.heap.size + 1, 4, none⟩ k _ (by show k ≠ w.heap.size + 1; omega)).trans ?_
      refine (heap_setCell_other _ ⟨w.heap.size + 1, 3, none⟩ k _ (by show k ≠ w.heap.size + 1; omega)).trans ?_
      refine (heap_setCell_other _ ⟨w.heap.size + 1, 2, none⟩ k _ (by show k ≠ w.heap.size + 1; omega)).trans ?_
      refine (heap_setCell_other _ ⟨w.heap.size + 1, 1, none⟩ k _ (by show k ≠ w.heap.size + 1; omega)).trans ?_
      refine (heap_setCell_other _ ⟨w.heap.size + 1, 0, none⟩ k _ (by show k ≠ w.heap.size + 1; omega)).trans ?_
      exact HKP.out.2.2 k hk hn
end Go.Proofs.YtcbfohokigamfaaGreatDoor
namespace Go.Proofs.YtcbfohokigamfaaGreatDoor
open Go.RowKit

set_option maxRecDepth 100000 in
set_option maxHeartbeats 1000000 in
theorem path_out (w : World) : Calls Tryz.prog 22 #[.agg #[.int .i64 1, .int .i64 0, .int .i64 9, .int .i64 0, .string ⟨#[112]⟩, .slice none 0 0], .int .i64 10, .int .i64 10] w fun e w' => e = .returned (.slice none 0 0) ∧ Below w.heap.size w w' := by
  obtain ⟨B1, T1, Z1, K1⟩ := one_more (Below.refl w.heap.size w) (Nat.le_refl _) #[.int .i64 1, .int .i64 0, .int .i64 9, .int .i64 0, .string ⟨#[112]⟩, .slice none 0 0] 24
  obtain ⟨B2, T2, Z2, K2⟩ := one_more B1 B1.size #[.int .i64 10] 3
  rw [Z1] at T2 Z2
  obtain ⟨B3, T3, Z3, K3⟩ := one_more B2 B2.size #[.int .i64 10] 3
  rw [Z2] at T3 Z3
  replace T2 := (K3.block _ (Array.getElem?_eq_some_iff.1 T2).1).trans T2
  have HB3 := Lib.hid B3
  replace T1 := (K3.block _ (Array.getElem?_eq_some_iff.1 ((K2.block _ (Array.getElem?_eq_some_iff.1 T1).1).trans T1)).1).trans ((K2.block _ (Array.getElem?_eq_some_iff.1 T1).1).trans T1)
  have HT1 := Lib.hid T1
  have HC := Lib.hid (around_10 (w.heap.size + 1) (w.heap.size + 1 + 1) _ (cellA T2 (i := 0) rfl) (cellA T3 (i := 0) rfl))
  clear B1 B2 B3 T1 T2 T3 Z1 Z2 Z3 K1 K2 K3
  have hmf : ∀ (fn : Fn) (first cap : Array Value) (w : World), (Instr.makeFunc fn first cap).run Tryz.prog w = .ok (.func fn first cap) w := fun _ _ _ _ => rfl
  have eg : ∀ (args : Array Value) (w : World), (callFunc 58 args).run Tryz.prog w = .ok (.enter 58 args) w := enters_of Tryz.func58 (by kernel_rfl) rfl
  go_enter Tryz.func22, Tryz.ntmps22
  go_wp2_with fail
  refine HC.out.mono ?_
  rintro e w2 ⟨rfl, hb⟩
  have HB4 := Lib.hid (HB3.out.trans (hb.mono HB3.out.size))
  clear hb HC HB3
  go_wp2_with fail
  go_ret
  exact ⟨rfl, HB4.out⟩
set_option maxRecDepth 100000 in
set_option maxHeartbeats 1000000 in
theorem path_in (w : World) : Calls Tryz.prog 22 #[.agg #[.int .i64 1, .int .i64 0, .int .i64 9, .int .i64 0, .string ⟨#[112]⟩, .slice none 0 0], .int .i64 3, .int .i64 3] w fun e w' => ∃ g cap, e = .returned (.slice (some ⟨g, 0, none⟩) 1 cap) ∧ (w'.cell? ⟨g, 0, none⟩ = some (.int .i64 1) ∧ w'.cell? ⟨g, 1, none⟩ = some (.int .i64 0) ∧ w'.cell? ⟨g, 2, none⟩ = some (.int .i64 9) ∧ w'.cell? ⟨g, 3, none⟩ = some (.int .i64 0) ∧ w'.cell? ⟨g, 4, none⟩ = some (.string ⟨#[112]⟩) ∧ w'.cell? ⟨g, 5, none⟩ = some (.slice none 0 0)) ∧ Below w.heap.size w w' := by
  obtain ⟨i0, hi, hz0, hz1, hz2⟩ := info_parts Tryz.info24
  have HI := Lib.hid hi
  have HZ0 := Lib.hid hz0
  have HZ1 := Lib.hid hz1
  have HZ2 := Lib.hid hz2
  clear hi hz0 hz1 hz2
  obtain ⟨B1, T1, Z1, K1⟩ := one_more (Below.refl w.heap.size w) (Nat.le_refl _) #[.int .i64 1, .int .i64 0, .int .i64 9, .int .i64 0, .string ⟨#[112]⟩, .slice none 0 0] 24
  obtain ⟨B2, T2, Z2, K2⟩ := one_more B1 B1.size #[.int .i64 3] 3
  rw [Z1] at T2 Z2
  obtain ⟨B3, T3, Z3, K3⟩ := one_more B2 B2.size #[.int .i64 3] 3
  rw [Z2] at T3 Z3
  replace T2 := (K3.block _ (Array.getElem?_eq_some_iff.1 T2).1).trans T2
  have HB3 := Lib.hid B3
  replace T1 := (K3.block _ (Array.getElem?_eq_some_iff.1 ((K2.block _ (Array.getElem?_eq_some_iff.1 T1).1).trans T1)).1).trans ((K2.block _ (Array.getElem?_eq_some_iff.1 T1).1).trans T1)
  have HT1 := Lib.hid T1
  have HC := Lib.hid (around_3 (w.heap.size + 1) (w.heap.size + 1 + 1) _ (cellA T2 (i := 0) rfl) (cellA T3 (i := 0) rfl))
  clear B1 B2 B3 T1 T2 T3 Z1 Z2 Z3 K1 K2 K3
  have hmf : ∀ (fn : Fn) (first cap : Array Value) (w : World), (Instr.makeFunc fn first cap).run Tryz.prog w = .ok (.func fn first cap) w := fun _ _ _ _ => rfl
  have eg : ∀ (args : Array Value) (w : World), (callFunc 58 args).run Tryz.prog w = .ok (.enter 58 args) w := enters_of Tryz.func58 (by kernel_rfl) rfl
  go_enter Tryz.func22, Tryz.ntmps22
  go_wp2_with fail
  refine HC.out.mono ?_
  rintro e w2 ⟨rfl, hb⟩
  have HB4 := Lib.hid (HB3.out.trans (hb.mono HB3.out.size))
  have hT1 := (hb.block _ (Array.getElem?_eq_some_iff.1 HT1.out).1).trans HT1.out
  obtain ⟨B5, T5, Z5, K5⟩ := one_more HB4.out HB4.out.size #[.int .i64 33554432] 3
  have hT1' := (K5.block _ (Array.getElem?_eq_some_iff.1 hT1).1).trans hT1
  obtain ⟨c0, c1, c2, c3, c4, c5⟩ := six_cells hT1
  obtain ⟨d0, d1, d2, d3, d4, d5⟩ := six_cells hT1'
  have HB5 := Lib.hid B5
  have HT5 := Lib.hid T5
  have HCP := Lib.hid (copy_leaf (w2.alloc (.cells #[.int .i64 33554432] 3)))
  clear hb HC HB3 HT1 hT1 hT1' B5 T5 Z5 K5
  go_wp2_with fail
  refine HCP.out.mono ?_
  rintro e w3 ⟨rfl, hb⟩
  have hT5 := (hb.block _ (Array.getElem?_eq_some_iff.1 HT5.out).1).trans HT5.out
  have hB6 := HB5.out.trans (hb.mono HB5.out.size)
  obtain ⟨B7, T7, Z7, K7⟩ := one_more hB6 hB6.size #[.int .i64 1, .int .i64 0, .int .i64 9, .int .i64 0, .string ⟨#[112]⟩, .slice none 0 0] 24
  have hT5' := (K7.block _ (Array.getElem?_eq_some_iff.1 hT5).1).trans hT5
  have HT5 := Lib.hid hT5'
  have HT7 := Lib.hid T7
  have HB7 := Lib.hid B7
  have HNE : Hid (w3.heap.size ≠ w2.heap.size ∧ w.heap.size ≤ w2.heap.size) := Lib.hid ⟨by have := (Array.getElem?_eq_some_iff.1 hT5).1; omega, HB4.out.size⟩
  clear hb hT5 hB6 HB4 HB5 c0 c1 c2 c3 c4 c5 d0 d1 d2 d3 d4 d5 HCP hT5' B7 T7 Z7 K7
  go_wp2_with fail
  generalize w3.alloc (.cells #[.int .i64 1, .int .i64 0, .int .i64 9, .int .i64 0, .string ⟨#[112]⟩, .slice none 0 0] 24) = w4 at *
  generalize w3.heap.size = M at *
  generalize w2.heap.size = L at *
  go_loopg [6, 9] 1 (fun gg s6 s9 wr => s6 = .slice none 0 0 ∧ s9 = .pointer (some ⟨M, 0, none⟩) ∧ wr = w4)
  case atStart => exact ⟨rfl, rfl, rfl⟩
  case round =>
    obtain ⟨rfl, rfl, rfl⟩ := hrel
    obtain ⟨c0, c1, c2, c3, c4, c5⟩ := six_cells HT7.out
    have HAP := Lib.hid (apart_leaf L wr HT5.out)
    go_wp2_with fail
    refine HAP.out.mono ?_
    rintro e w5 ⟨rfl, hk1, hk2, hk3⟩
    have hMlt := (Array.getElem?_eq_some_iff.1 HT7.out).1
    have hT7 := (hk3 M hMlt HNE.out.1).trans HT7.out
    have HB8 := Lib.hid (HB7.out.trans (hk1.mono HNE.out.2))
    have HT8 := Lib.hid hT7
    have HSZ : Hid (w.heap.size ≤ w5.heap.size) := Lib.hid (Nat.le_trans HB7.out.size hk2)
    clear c0 c1 c2 c3 c4 c5 hk1 hk2 hk3 hMlt hT7 HAP HB7 HT7 HT5
    go_wp2_with (at_builtin; refine wpList_append_own2 _ rfl _ _ 22 rfl w.heap.size 24 i0 (.agg #[.int .i64 0, .int .i64 0, .int .i64 0, .int .i64 0, .string ⟨#[]⟩, .slice none 0 0]) 6 72 Tryz.underlying22 HI.out HZ0.out HZ1.out HZ2.out rfl (by decide) _ 0 [] rfl ⟨rfl, .inl ⟨rfl, rfl⟩⟩ ⟨w5.heap.size, 0, none⟩ 1 1 [.int .i64 1, .int .i64 0, .int .i64 9, .int .i64 0, .string ⟨#[112]⟩, .slice none 0 0] rfl rfl (new_cell _ _ _) ?c2 ?c3 ?c4 ?c5 ?_)
    case c2 => simp [Value.oneCell']
    case c3 => unfold maxLen; omega
    case c4 => omega
    case c5 => rw [World.size_alloc]; have := HSZ.out; omega
    intro v2 w6 hown2 hgr2 _
    obtain ⟨A2, cp2, rfl⟩ := slice_form hown2
    have hT8 := (alloc_below w5 (.cells #[.int .i64 1, .int .i64 0, .int .i64 9, .int .i64 0, .string ⟨#[112]⟩, .slice none 0 0] 24)).block _ (Array.getElem?_eq_some_iff.1 HT8.out).1
    have hT9 : w6.heap[M]? = some (.cells #[.int .i64 1, .int .i64 0, .int .i64 9, .int .i64 0, .string ⟨#[112]⟩, .slice none 0 0] 24 (0, 0)) :=
      (hgr2.block M (by rw [World.size_alloc]; have := (Array.getElem?_eq_some_iff.1 HT8.out).1; omega) (by simp [Value.ownBlock])).trans (hT8.trans HT8.out)
    have hB9 : Below w.heap.size w w6 := (HB8.out.alloc HSZ.out _).trans ⟨hgr2.os, hgr2.tape, hgr2.output, hgr2.size, fun k hk => hgr2.block k (by rw [World.size_alloc]; have := HSZ.out; omega) (by simp [Value.ownBlock])⟩
    obtain ⟨c0, c1, c2, c3, c4, c5⟩ := six_cells hT9
    have HB9 := Lib.hid hB9
    have HO2 := Lib.hid hown2
    have HIX := Lib.hid (idxN_any [] none 0 (by decide) (fun _ => false) 58 #[.pointer (some ⟨w.heap.size + 1, 0, none⟩), .pointer (some ⟨w.heap.size + 1 + 1, 0, none⟩)] eg w6 (fun h => by cases h) (fun _ _ t ht => by cases ht))
    clear hT8 hT9 hB9 hown2 hgr2 HB8 HT8 HSZ
    go_wp2_with fail
    refine HIX.out.mono ?_
    rintro e w7 ⟨r, rfl, hr, hb⟩
    obtain rfl : r = -1 := by
      rcases hr with ⟨h, -⟩ | ⟨k, t, -, h, -⟩
      · exact h
      · simp at h
    have HB10 := Lib.hid (HB9.out.trans (hb.mono HB9.out.size))
    have hkp : ∀ {a : Addr} {v : Value}, a.spot = none → w6.cell? a = some v → w7.cell? a = some v := fun ha h => cell_kept h ha hb
    have HKP := Lib.hid hb
    clear hr hb hkp HIX c0 c1 c2 c3 c4 c5
    go_wp2_with fail
    go_ret
    rcases HO2.out.2 with ⟨h0, h1⟩ | ⟨g, cap, cur, h0, hg0, hg, hcap, -, hsz, htake⟩
    · cases h1
    · simp only [Value.slice.injEq, true_and] at h0
      obtain ⟨rfl, rfl⟩ := h0
      have hcell : ∀ (i : Nat) (y : Value), ([.int .i64 1, .int .i64 0, .int .i64 9, .int .i64 0, .string ⟨#[112]⟩, .slice none 0 0] : List Value)[i]? = some y → w7.cell? ⟨g, i, none⟩ = some y := by
        intro i y hy
        have h6 : w6.cell? ⟨g, i, none⟩ = some y := by
          rw [cell_at hg, ← Array.getElem?_toList]
          have hi : i < 6 := by
            have := (List.getElem?_eq_some_iff.1 hy).1
            simpa using this
          have hy2 : (cur.toList.take (1 * 6))[i]? = some y := by rw [htake]; exact hy
          rw [List.getElem?_take, if_pos (by omega)] at hy2
          exact hy2
        exact cell_kept h6 rfl HKP.out
      exact ⟨g, _, rfl, ⟨hcell 0 _ rfl, hcell 1 _ rfl, hcell 2 _ rfl, hcell 3 _ rfl, hcell 4 _ rfl, hcell 5 _ rfl⟩, HB10.out⟩
end Go.Proofs.YtcbfohokigamfaaGreatDoor
