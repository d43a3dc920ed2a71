/-
  lexer's tokenAt AT EVERY TEXT of at most 1000000 bytes, from every place of it: the token, what is wrong with it; no memory that was there turns. Conditions: the text's length; the variables that are read hold what their text lays (Facts); what num.Float says of floats (FSpec).
-/
import Derived.Test.YtkpddjbdmjbefaaGreatDoorLVal
import Derived.Deep.RegionHeld3
import Derived.Deep.DeepCutAuto
namespace Go.Proofs.YtkpddjbdmjbefaaGreatDoor
open Go.RowKit

theorem clone_any (s : ByteArray) (hs : s.size ≤ 281474976710656) (w : World) : Calls Tryz.prog 96 #[.string s] w fun e w' => e = .returned (.string s) ∧ Below w.heap.size w w' := by
  have HC := Lib.hid (Tryz.stringslite_Clone s w hs)
  clear hs
  go_enter Tryz.func96, Tryz.ntmps96
  go_wp2_with fail
  refine HC.out.mono ?_
  rintro e w1 ⟨rfl, hb⟩
  have HB := Lib.hid hb
  clear hb
  go_wp2_with fail
  go_ret
  exact ⟨rfl, HB.out⟩
theorem below_drew {W W' : World} (k : Below W.drew.heap.size W.drew W') : Below W.heap.size W W' := ⟨k.os, k.tape, k.output, k.size, k.block⟩
theorem alloc_below (w : World) (o : Obj) : Below w.heap.size w (w.alloc o) := (Below.refl _ _).alloc (Nat.le_refl _) _
theorem four_keep {W W' : World} {p q r s : Addr} {x y z u : Value} (h : W.cell? p = some x ∧ W.cell? q = some y ∧ W.cell? r = some z ∧ W.cell? s = some u) (k : Below W.drew.heap.size W.drew W') (hp : p.spot = none ∧ q.spot = none ∧ r.spot = none ∧ s.spot = none) : W'.cell? p = some x ∧ W'.cell? q = some y ∧ W'.cell? r = some z ∧ W'.cell? s = some u := by
  obtain ⟨b1, o1, s1⟩ := p
  obtain ⟨b2, o2, s2⟩ := q
  obtain ⟨b3, o3, s3⟩ := r
  obtain ⟨b4, o4, s4⟩ := s
  obtain ⟨rfl, rfl, rfl, rfl⟩ := hp
  exact ⟨cell_keep2 (below_drew k) h.1, cell_keep2 (below_drew k) h.2.1, cell_keep2 (below_drew k) h.2.2.1, cell_keep2 (below_drew k) h.2.2.2⟩
theorem cell_set4 {W : World} {R B i : Nat} {x a b c d : Value} (hne : R ≠ B) (h : W.cell? ⟨B, i, none⟩ = some x) : ((((W.setCell ⟨R, 0, none⟩ a).setCell ⟨R, 1, none⟩ b).setCell ⟨R, 2, none⟩ c).setCell ⟨R, 3, none⟩ d).cell? ⟨B, i, none⟩ = some x := by
  rw [World.cell?_setCell_far _ _ _ _ hne, World.cell?_setCell_far _ _ _ _ hne, World.cell?_setCell_far _ _ _ _ hne, World.cell?_setCell_far _ _ _ _ hne]
  exact h
theorem four_set {W : World} {R B : Nat} {x y z u a b c d : Value} (hne : R ≠ B) (h : W.cell? ⟨B, 0, none⟩ = some x ∧ W.cell? ⟨B, 1, none⟩ = some y ∧ W.cell? ⟨B, 2, none⟩ = some z ∧ W.cell? ⟨B, 3, none⟩ = some u) :
    ((((W.setCell ⟨R, 0, none⟩ a).setCell ⟨R, 1, none⟩ b).setCell ⟨R, 2, none⟩ c).setCell ⟨R, 3, none⟩ d).cell? ⟨B, 0, none⟩ = some x ∧ ((((W.setCell ⟨R, 0, none⟩ a).setCell ⟨R, 1, none⟩ b).setCell ⟨R, 2, none⟩ c).setCell ⟨R, 3, none⟩ d).cell? ⟨B, 1, none⟩ = some y ∧ ((((W.setCell ⟨R, 0, none⟩ a).setCell ⟨R, 1, none⟩ b).setCell ⟨R, 2, none⟩ c).setCell ⟨R, 3, none⟩ d).cell? ⟨B, 2, none⟩ = some z ∧ ((((W.setCell ⟨R, 0, none⟩ a).setCell ⟨R, 1, none⟩ b).setCell ⟨R, 2, none⟩ c).setCell ⟨R, 3, none⟩ d).cell? ⟨B, 3, none⟩ = some u :=
  ⟨cell_set4 hne h.1, cell_set4 hne h.2.1, cell_set4 hne h.2.2.1, cell_set4 hne h.2.2.2⟩
theorem frozen_of_row (W : World) (g i : Nat) (cs : Array Value) (t : TypeId) (hg : W.heap[g]? = some (.cells cs t (0, 0))) : W.frozen? ⟨g, i, none⟩ = false := by
  unfold World.frozen?; simp only [hg]; rfl
theorem set4_heap {W : World} {N : Nat} {p q r s : Value} (h : W.heap[N]? = some (.cells #[p, q, r, s] 78 (0, 0))) (a b c d : Value) : ((((W.setCell ⟨N, 0, none⟩ a).setCell ⟨N, 1, none⟩ b).setCell ⟨N, 2, none⟩ c).setCell ⟨N, 3, none⟩ d).heap[N]? = some (.cells #[a, b, c, d] 78 (0, 0)) :=
  heap_setCell_same _ _ 3 _ _ _ (heap_setCell_same _ _ 2 _ _ _ (heap_setCell_same _ _ 1 _ _ _ (heap_setCell_same _ _ 0 _ _ _ h)))
/-- What tokenAt hands back. -/
def tokEnd (ff : List UInt8 → Nat) (k : Nat) (l : List UInt8) : Value :=
  if (tokK l).2 = 0 then .tuple #[.agg #[.int .i64 0, .string ⟨#[]⟩, .int .i64 0, .int .i64 0], .int .i64 4]
  else .tuple #[.agg #[.int .i64 ((tokK l).1 : Int), .string (txt (l.take (tokK l).2)), .int .i64 (k : Int), .int .i64 ((k + (tokK l).2 : Nat) : Int)], .int .i64 (faultF ff (tokK l).1 (l.take (tokK l).2) : Int)]
theorem txt_take (s : ByteArray) (k n : Nat) : s.extract k (k + n) = txt ((rest s k).take n) := by
  apply ByteArray.ext
  show (s.extract k (k + n)).data = ((rest s k).take n).toArray
  rw [← extract_take]
theorem tokK_kind (l : List UInt8) : 1 ≤ (tokK l).1 ∧ (tokK l).1 ≤ 7 := by
  unfold tokK
  split
  · simp only; split <;> omega
  · split
    · unfold numK
      split
      · split <;> (simp only; omega)
      · simp only; omega
    · split
      · simp only; omega
      · split <;> (simp only; omega)
set_option maxRecDepth 100000 in
set_option maxHeartbeats 4000000 in
theorem tokenAt_any {FW : World → Prop} {ff : List UInt8 → Nat} {OK : List UInt8 → Prop} (hS : FSpec FW ff OK) (s : ByteArray) (k : Nat) (hk : k < s.size) (hs : s.size ≤ 1000000) (hO : (tokK (rest s k)).1 = 4 → OK ((rest s k).take (tokK (rest s k)).2)) (w : World) (hF : Facts w) (hW : FW w) : Calls Tryz.prog 90 #[.string s, .int .i64 k] w fun e w' => e = .returned (tokEnd ff k (rest s k)) ∧ Below w.heap.size w w' := by
  have b0 := alloc_below w (.cells #[.int .i64 0, .string ⟨#[]⟩, .int .i64 0, .int .i64 0] 78)
  have HFI := Lib.hid (find_any s k hk hs (w.alloc (.cells #[.int .i64 0, .string ⟨#[]⟩, .int .i64 0, .int .i64 0] 78)) (hF.below b0).marks)
  have hkind := tokK_kind (rest s k)
  have hle := tokK_le (rest s k)
  rw [rest_len] at hle
  have HX := Lib.hid (txt_take s k (tokK (rest s k)).2)
  have HFT := Lib.hid (fun (W : World) (hb : Below w.heap.size w W) => fault_any hS (tokK (rest s k)).1 hkind.1 hkind.2 (txt ((rest s k).take (tokK (rest s k)).2)) (by show (List.toArray _).size ≤ _; rw [List.size_toArray, List.length_take, rest_len]; omega) hO W (hF.below hb) (hS.keep w W hW hb))
  unfold tokEnd
  rw [txt_data] at HFT
  generalize (tokK (rest s k)).1 = q at *
  generalize (tokK (rest s k)).2 = n at *
  generalize (rest s k).take n = x at *
  generalize faultF ff q x = er at *
  have HB0 := Lib.hid b0
  have HR0 := Lib.hid (alloc_top w #[.int .i64 0, .string ⟨#[]⟩, .int .i64 0, .int .i64 0] 78)
  clear b0 hO hF hW hkind hS
  by_cases hn : n = 0
  · rw [if_pos hn]
    have q0 : (((k + n : Nat) : Int) == (k : Int)) = true := by simp only [beq_iff_eq]; omega
    obtain ⟨t, ht⟩ : ∃ t : Int, t = ((k + n : Nat) : Int) := ⟨_, rfl⟩
    rw [← ht] at HFI q0
    clear hn ht HFT HX
    go_enter Tryz.func90, Tryz.ntmps90
    go_wp2_with fail
    refine HFI.out.mono ?_
    rintro e w1 ⟨rfl, hb⟩
    have hr1 := heap_keep hb HR0.out
    have HB1 := Lib.hid (HB0.out.trans (hb.mono HB0.out.size))
    have hq0 := cell_at (o := 0) hr1
    have hq1 := cell_at (o := 1) hr1
    have hq2 := cell_at (o := 2) hr1
    have hq3 := cell_at (o := 3) hr1
    have hf0 := frozen_of_row w1 w.heap.size 0 _ _ hr1
    have hf1 := frozen_of_row w1 w.heap.size 1 _ _ hr1
    have hf2 := frozen_of_row w1 w.heap.size 2 _ _ hr1
    have hf3 := frozen_of_row w1 w.heap.size 3 _ _ hr1
    have hz := set4_heap hr1 (.int .i64 0) (.string ⟨#[]⟩) (.int .i64 0) (.int .i64 0)
    have g0 := cell_at (o := 0) hz
    have g1 := cell_at (o := 1) hz
    have g2 := cell_at (o := 2) hz
    have g3 := cell_at (o := 3) hz
    have HBZ := Lib.hid ((((HB1.out.setCell (p := ⟨w.heap.size, 0, none⟩) (Nat.le_refl _) (.int .i64 0)).setCell (p := ⟨w.heap.size, 1, none⟩) (Nat.le_refl _) (.string ⟨#[]⟩)).setCell (p := ⟨w.heap.size, 2, none⟩) (Nat.le_refl _) (.int .i64 0)).setCell (p := ⟨w.heap.size, 3, none⟩) (Nat.le_refl _) (.int .i64 0))
    clear hb hr1 hz
    go_wp2_with fail
    refine bodyPost_ret (v := .tuple #[.agg #[.int .i64 0, .string ⟨#[]⟩, .int .i64 0, .int .i64 0], .int .i64 4]) ?_ rfl ⟨rfl, HBZ.out⟩
    simp [results, Tryz.f90, go_sem, g0, g1, g2, g3]
  · rw [if_neg hn]
    have q0 : (((k + n : Nat) : Int) == (k : Int)) = false := by simp only [beq_eq_false_iff_ne, ne_eq]; omega
    have HCL := Lib.hid (fun W => clone_any (txt x) (by rw [← HX.out, ByteArray.size_extract]; omega) W)
    have hsl : ∀ W, (Instr.slice 9 (.string s) (some (.int .i64 (k : Int))) (some (.int .i64 ((k + n : Nat) : Int))) none).run Tryz.prog W = .ok (.string (txt x)) W := fun W => by
      rw [run_slice_string W 9 s .i64 .i64 k ((k + n : Nat) : Int) Tryz.underlying9 (by omega) (by omega) (by omega), Int.toNat_natCast, Int.toNat_natCast, HX.out]
    have hkt : (k : Int) ≤ ((k + n : Nat) : Int) := by omega
    have hts : ((k + n : Nat) : Int) ≤ (s.size : Int) := by omega
    obtain ⟨t, ht⟩ : ∃ t : Int, t = ((k + n : Nat) : Int) := ⟨_, rfl⟩
    rw [← ht] at HFI q0 hsl hkt hts ⊢
    have hX2 : s.extract k t.toNat = txt x := by rw [ht, Int.toNat_natCast]; exact HX.out
    have HX2 := Lib.hid hX2
    clear hn ht HX hX2
    go_enter Tryz.func90, Tryz.ntmps90
    go_wp2_with fail
    refine HFI.out.mono ?_
    rintro e w1 ⟨rfl, hb⟩
    have HR1 := Lib.hid (heap_keep hb HR0.out)
    have HB1 := Lib.hid (HB0.out.trans (hb.mono HB0.out.size))
    have hs1 := hb.size
    rw [World.size_alloc] at hs1
    have HS1 := Lib.hid hs1
    clear hb hs1
    go_wp2_with fail
    refine (HCL.out _).mono ?_
    rintro e w2 ⟨rfl, hb⟩
    have HB2 := Lib.hid (HB1.out.trans (hb.mono HB1.out.size))
    have HR2 := Lib.hid (heap_keep hb HR1.out)
    have hne : w.heap.size ≠ w2.heap.size := by have := hb.size; have := HS1.out; omega
    have HNE := Lib.hid hne
    have k2 := alloc_top w2 #[.int .i64 (q : Int), .string (txt x), .int .i64 (k : Int), .int .i64 t] 78
    have b3 := alloc_below w2 (.cells #[.int .i64 (q : Int), .string (txt x), .int .i64 (k : Int), .int .i64 t] 78)
    have HB3 := Lib.hid (HB2.out.trans (b3.mono HB2.out.size))
    have HR3 := Lib.hid (heap_keep b3 HR2.out)
    have HS0 : Hid ((w2.alloc (.cells #[.int .i64 (q : Int), .string (txt x), .int .i64 (k : Int), .int .i64 t] 78)).cell? ⟨w2.heap.size, 0, none⟩ = some (.int .i64 (q : Int)) ∧ (w2.alloc (.cells #[.int .i64 (q : Int), .string (txt x), .int .i64 (k : Int), .int .i64 t] 78)).cell? ⟨w2.heap.size, 1, none⟩ = some (.string (txt x)) ∧ (w2.alloc (.cells #[.int .i64 (q : Int), .string (txt x), .int .i64 (k : Int), .int .i64 t] 78)).cell? ⟨w2.heap.size, 2, none⟩ = some (.int .i64 (k : Int)) ∧ (w2.alloc (.cells #[.int .i64 (q : Int), .string (txt x), .int .i64 (k : Int), .int .i64 t] 78)).cell? ⟨w2.heap.size, 3, none⟩ = some (.int .i64 t)) :=
      Lib.hid ⟨(cell_at (o := 0) k2).trans rfl, (cell_at (o := 1) k2).trans rfl, (cell_at (o := 2) k2).trans rfl, (cell_at (o := 3) k2).trans rfl⟩
    have HFA := Lib.hid (fun (W : World) (hb : Below w.heap.size w W) => HFT.out W hb)
    clear hb k2 b3 hne HFT HFI HCL HX2 HR0 HR1 HR2 HB0 HB1 HS1 hsl
    go_wp2_with fail
    go_region_held3 (fun w' => w'.cell? ⟨w2.heap.size, 0, none⟩ = some (.int .i64 (q : Int)) ∧ w'.cell? ⟨w2.heap.size, 1, none⟩ = some (.string (txt x)) ∧ w'.cell? ⟨w2.heap.size, 2, none⟩ = some (.int .i64 (k : Int)) ∧ w'.cell? ⟨w2.heap.size, 3, none⟩ = some (.int .i64 t)) (first | exact HS0.out | exact four_keep HS0.out kq ⟨rfl, rfl, rfl, rfl⟩ | exact four_set HNE.out (four_keep HS0.out kq ⟨rfl, rfl, rfl, rfl⟩)) (first | (go_at_call 97; refine (HFA.out _ (HB3.out.trans ((below_drew (Below.refl _ _)).mono HB3.out.size))).mono ?_; rintro e wq ⟨rfl, kq⟩; have hqr := heap_keep (below_drew kq) HR3.out; have hq0 := cell_at (o := 0) hqr; have hq1 := cell_at (o := 1) hqr; have hq2 := cell_at (o := 2) hqr; have hq3 := cell_at (o := 3) hqr; have hf0 := frozen_of_row wq w.heap.size 0 _ _ hqr; have hf1 := frozen_of_row wq w.heap.size 1 _ _ hqr; have hf2 := frozen_of_row wq w.heap.size 2 _ _ hqr; have hf3 := frozen_of_row wq w.heap.size 3 _ _ hqr))
    have hz := set4_heap (heap_keep (below_drew kq) HR3.out) (.int .i64 (q : Int)) (.string (txt x)) (.int .i64 (k : Int)) (.int .i64 t)
    have g0 := cell_at (o := 0) hz
    have g1 := cell_at (o := 1) hz
    have g2 := cell_at (o := 2) hz
    have g3 := cell_at (o := 3) hz
    have HBZ := Lib.hid (((((HB3.out.trans ((below_drew kq).mono HB3.out.size)).setCell (p := ⟨w.heap.size, 0, none⟩) (Nat.le_refl _) (.int .i64 (q : Int))).setCell (p := ⟨w.heap.size, 1, none⟩) (Nat.le_refl _) (.string (txt x))).setCell (p := ⟨w.heap.size, 2, none⟩) (Nat.le_refl _) (.int .i64 (k : Int))).setCell (p := ⟨w.heap.size, 3, none⟩) (Nat.le_refl _) (.int .i64 t))
    clear HS0 hq0 hq1 hq2 hq3 hf0 hf1 hf2 hf3 hqr hz
    go_wp2_with fail
    refine bodyPost_ret (v := .tuple #[.agg #[.int .i64 (q : Int), .string (txt x), .int .i64 (k : Int), .int .i64 t], .int .i64 (er : Int)]) ?_ rfl ⟨rfl, HBZ.out⟩
    simp [results, Tryz.f90, go_sem, g0, g1, g2, g3]
end Go.Proofs.YtkpddjbdmjbefaaGreatDoor
