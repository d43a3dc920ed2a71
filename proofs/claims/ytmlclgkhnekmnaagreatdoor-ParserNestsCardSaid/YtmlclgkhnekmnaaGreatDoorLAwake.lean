/- Part of a proof. -/
import Derived.Test.YtmlclgkhnekmnaaGreatDoorLVal
import Derived.Deep.RegionHeld3
import Derived.Deep.DeepCutAuto
namespace Go.Proofs.YtmlclgkhnekmnaaGreatDoor
open Go.RowKit
theorem clone_any (s : ByteArray) (hs : s.size ≤ 281474976710656) (w : World) : Calls Tryz.prog 54 #[.string s] w fun e w' => e = .returned (.string s) ∧ Below w.heap.size w w' := by
 have HC := Lib.hid (Tryz.stringslite_Clone s w hs)
 clear hs
 go_enter Tryz.func54, Tryz.ntmps54
 go_wp2_with fail
 refine HC.out.mono ?_
 rintro e w1 ⟨rfl, hb⟩
 have HB := Lib.hid hb
 clear hb
 go_wp2_with fail
 go_ret
 exact ⟨rfl, HB.out⟩
theorem below_drew {W W' : World} (k : Below W.drew.heap.size W.drew W') : Below W.heap.size W W' := ⟨k.os, k.tape, k.output, k.size, k.block⟩
theorem alloc_below (w : World) (o : Obj) : Below w.heap.size w (w.alloc o) := (Below.refl _ _).alloc (Nat.le_refl _) _
theorem four_keep {W W' : World} {p q r s : Addr} {x y z u : Value} (h : W.cell? p = some x ∧ W.cell? q = some y ∧ W.cell? r = some z ∧ W.cell? s = some u) (k : Below W.drew.heap.size W.drew W') (hp : p.spot = none ∧ q.spot = none ∧ r.spot = none ∧ s.spot = none) : W'.cell? p = some x ∧ W'.cell? q = some y ∧ W'.cell? r = some z ∧ W'.cell? s = some u := by
 obtain ⟨b1, o1, s1⟩ := p
 obtain ⟨b2, o2, s2⟩ := q
 obtain ⟨b3, o3, s3⟩ := r
 obtain ⟨b4, o4, s4⟩ := s
 obtain ⟨rfl, rfl, rfl, rfl⟩ := hp
 exact ⟨cell_keep2 (below_drew k) h.1, cell_keep2 (below_drew k) h.2.1, cell_keep2 (below_drew k) h.2.2.1, cell_keep2 (below_drew k) h.2.2.2⟩
theorem cell_set4 {W : World} {R B i : Nat} {x a b c d : Value} (hne : R ≠ B) (h : W.cell? ⟨B, i, none⟩ = some x) : ((((W.setCell ⟨R, 0, none⟩ a).setCell ⟨R, 1, none⟩ b).setCell ⟨R, 2, none⟩ c).setCell ⟨R, 3, none⟩ d).cell? ⟨B, i, none⟩ = some x := by
 rw [World.cell?_setCell_far _ _ _ _ hne, World.cell?_setCell_far _ _ _ _ hne, World.cell?_setCell_far _ _ _ _ hne, World.cell?_setCell_far _ _ _ _ hne]
 exact h
theorem four_set {W : World} {R B : Nat} {x y z u a b c d : Value} (hne : R ≠ B) (h : W.cell? ⟨B, 0, none⟩ = some x ∧ W.cell? ⟨B, 1, none⟩ = some y ∧ W.cell? ⟨B, 2, none⟩ = some z ∧ W.cell? ⟨B, 3, none⟩ = some u) :
 ((((W.setCell ⟨R, 0, none⟩ a).setCell ⟨R, 1, none⟩ b).setCell ⟨R, 2, none⟩ c).setCell ⟨R, 3, none⟩ d).cell? ⟨B, 0, none⟩ = some x ∧ ((((W.setCell ⟨R, 0, none⟩ a).setCell ⟨R, 1, none⟩ b).setCell ⟨R, 2, none⟩ c).setCell ⟨R, 3, none⟩ d).cell? ⟨B, 1, none⟩ = some y ∧ ((((W.setCell ⟨R, 0, none⟩ a).setCell ⟨R, 1, none⟩ b).setCell ⟨R, 2, none⟩ c).setCell ⟨R, 3, none⟩ d).cell? ⟨B, 2, none⟩ = some z ∧ ((((W.setCell ⟨R, 0, none⟩ a).setCell ⟨R, 1, none⟩ b).setCell ⟨R, 2, none⟩ c).setCell ⟨R, 3, none⟩ d).cell? ⟨B, 3, none⟩ = some u :=
 ⟨cell_set4 hne h.1, cell_set4 hne h.2.1, cell_set4 hne h.2.2.1, cell_set4 hne h.2.2.2⟩
theorem frozen_of_row (W : World) (g i : Nat) (cs : Array Value) (t : TypeId) (hg : W.heap[g]? = some (.cells cs t (0, 0))) : W.frozen? ⟨g, i, none⟩ = false := by
 unfold World.frozen?; simp only [hg]; rfl
theorem set4_heap {W : World} {N : Nat} {p q r s : Value} (h : W.heap[N]? = some (.cells #[p, q, r, s] 65 (0, 0))) (a b c d : Value) : ((((W.setCell ⟨N, 0, none⟩ a).setCell ⟨N, 1, none⟩ b).setCell ⟨N, 2, none⟩ c).setCell ⟨N, 3, none⟩ d).heap[N]? = some (.cells #[a, b, c, d] 65 (0, 0)) :=
 heap_setCell_same _ _ 3 _ _ _ (heap_setCell_same _ _ 2 _ _ _ (heap_setCell_same _ _ 1 _ _ _ (heap_setCell_same _ _ 0 _ _ _ h)))
def tokEnd (ff : List UInt8 → Nat) (k : Nat) (l : List UInt8) : Value :=
 if (tokK l).2 = 0 then .tuple #[.agg #[.int .i64 0, .string ⟨#[]⟩, .int .i64 0, .int .i64 0], .int .i64 4]
 else .tuple #[.agg #[.int .i64 ((tokK l).1 : Int), .string (txt (l.take (tokK l).2)), .int .i64 (k : Int), .int .i64 ((k + (tokK l).2 : Nat) : Int)], .int .i64 (faultF ff (tokK l).1 (l.take (tokK l).2) : Int)]
theorem txt_take (s : ByteArray) (k n : Nat) : s.extract k (k + n) = txt ((rest s k).take n) := by
 apply ByteArray.ext
 show (s.extract k (k + n)).data = ((rest s k).take n).toArray
 rw [← extract_take]
theorem tokK_kind (l : List UInt8) : 1 ≤ (tokK l).1 ∧ (tokK l).1 ≤ 7 := by
 unfold tokK
 split
 · simp only; split <;> omega
 · split
   · unfold numK
     split
     · split <;> (simp only; omega)
     · simp only; omega
   · split
     · simp only; omega
     · split <;> (simp only; omega)
set_option maxRecDepth 100000 in
set_option maxHeartbeats 4000000 in
theorem tokenAt_any {FW : World → Prop} {ff : List UInt8 → Nat} {OK : List UInt8 → Prop} (hS : FSpec FW ff OK) (s : ByteArray) (k : Nat) (hk : k < s.size) (hs : s.size ≤ 1000000) (hO : (tokK (rest s k)).1 = 4 → OK ((rest s k).take (tokK (rest s k)).2)) (w : World) (hF : Facts w) (hW : FW w) : Calls Tryz.prog 62 #[.string s, .int .i64 k] w fun e w' => e = .returned (tokEnd ff k (rest s k)) ∧ Below w.heap.size w w' := by
 have b0 := alloc_below w (.cells #[.int .i64 0, .string ⟨#[]⟩, .int .i64 0, .int .i64 0] 65)
 have HFI := Lib.hid (find_any s k hk hs (w.alloc (.cells #[.int .i64 0, .string ⟨#[]⟩, .int .i64 0, .int .i64 0] 65)) (hF.below b0).marks)
 have hkind := tokK_kind (rest s k)
 have hle := tokK_le (rest s k)
 rw [rest_len] at hle
 have HX := Lib.hid (txt_take s k (tokK (rest s k)).2)
 have HFT := Lib.hid (fun (W : World) (hb : Below w.heap.size w W) => fault_any hS (tokK (rest s k)).1 hkind.1 hkind.2 (txt ((rest s k).take (tokK (rest s k)).2)) (by show (List.toArray _).size ≤ _; rw [List.size_toArray, List.length_take, rest_len]; omega) hO W (hF.below hb) (hS.keep w W hW hb))
 unfold tokEnd
 rw [txt_data] at HFT
 generalize (tokK (rest s k)).1 = q at *
 generalize (tokK (rest s k)).2 = n at *
 generalize (rest s k).take n = x at *
 generalize faultF ff q x = er at *
 have HB0 := Lib.hid b0
 have HR0 := Lib.hid (alloc_top w #[.int .i64 0, .string ⟨#[]⟩, .int .i64 0, .int .i64 0] 65)
 clear b0 hO hF hW hkind hS
 by_cases hn : n = 0
 · rw [if_pos hn]
   have q0 : (((k + n : Nat) : Int) == (k : Int)) = true := by simp only [beq_iff_eq]; omega
   obtain ⟨t, ht⟩ : ∃ t : Int, t = ((k + n : Nat) : Int) := ⟨_, rfl⟩
   rw [← ht] at HFI q0
   clear hn ht HFT HX
   go_enter Tryz.func62, Tryz.ntmps62
   go_wp2_with fail
   refine HFI.out.mono ?_
   rintro e w1 ⟨rfl, hb⟩
   have hr1 := heap_keep hb HR0.out
   have HB1 := Lib.hid (HB0.out.trans (hb.mono HB0.out.size))
   have hq0 := cell_at (o := 0) hr1
   have hq1 := cell_at (o := 1) hr1
   have hq2 := cell_at (o := 2) hr1
   have hq3 := cell_at (o := 3) hr1
   have hf0 := frozen_of_row w1 w.heap.size 0 _ _ hr1
   have hf1 := frozen_of_row w1 w.heap.size 1 _ _ hr1
   have hf2 := frozen_of_row w1 w.heap.size 2 _ _ hr1
   have hf3 := frozen_of_row w1 w.heap.size 3 _ _ hr1
   have hz := set4_heap hr1 (.int .i64 0) (.string ⟨#[]⟩) (.int .i64 0) (.int .i64 0)
   have g0 := cell_at (o := 0) hz
   have g1 := cell_at (o := 1) hz
   have g2 := cell_at (o := 2) hz
   have g3 := cell_at (o := 3) hz
   have HBZ := Lib.hid ((((HB1.out.setCell (p := ⟨w.heap.size, 0, none⟩) (Nat.le_refl _) (.int .i64 0)).setCell (p := ⟨w.heap.size, 1, none⟩) (Nat.le_refl _) (.string ⟨#[]⟩)).setCell (p := ⟨w.heap.size, 2, none⟩) (Nat.le_refl _) (.int .i64 0)).setCell (p := ⟨w.heap.size, 3, none⟩) (Nat.le_refl _) (.int .i64 0))
   clear hb hr1 hz
   go_wp2_with fail
   refine bodyPost_ret (v := .tuple #[.agg #[.int .i64 0, .string ⟨#[]⟩, .int .i64 0, .int .i64 0], .int .i64 4]) ?_ rfl ⟨rfl, HBZ.out⟩
   simp [results, Tryz.f62, go_sem, g0, g1, g2, g3]
 · rw [if_neg hn]
   have q0 : (((k + n : Nat) : Int) == (k : Int)) = false := by simp only [beq_eq_false_iff_ne, ne_eq]; omega
   have HCL := Lib.hid (fun W => clone_any (txt x) (by rw [← HX.out, ByteArray.size_extract]; omega) W)
   have hsl : ∀ W, (Instr.slice 9 (.string s) (some (.int .i64 (k : Int))) (some (.int .i64 ((k + n : Nat) : Int))) none).run Tryz.prog W = .ok (.string (txt x)) W := fun W => by
    rw [run_slice_string W 9 s .i64 .i64 k ((k + n : Nat) : Int) Tryz.underlying9 (by omega) (by omega) (by omega), Int.toNat_natCast, Int.toNat_natCast, HX.out]
   have hkt : (k : Int) ≤ ((k + n : Nat) : Int) := by omega
   have hts : ((k + n : Nat) : Int) ≤ (s.size : Int) := by omega
   obtain ⟨t, ht⟩ : ∃ t : Int, t = ((k + n : Nat) : Int) := ⟨_, rfl⟩
   rw [← ht] at HFI q0 hsl hkt hts ⊢
   have hX2 : s.extract k t.toNat = txt x := by rw [ht, Int.toNat_natCast]; exact HX.out
   have HX2 := Lib.hid hX2
   clear hn ht HX hX2
   go_enter Tryz.func62, Tryz.ntmps62
   go_wp2_with fail
   refine HFI.out.mono ?_
   rintro e w1 ⟨rfl, hb⟩
   have HR1 := Lib.hid (heap_keep hb HR0.out)
   have HB1 := Lib.hid (HB0.out.trans (hb.mono HB0.out.size))
   have hs1 := hb.size
   rw [World.size_alloc] at hs1
   have HS1 := Lib.hid hs1
   clear hb hs1
   go_wp2_with fail
   refine (HCL.out _).mono ?_
   rintro e w2 ⟨rfl, hb⟩
   have HB2 := Lib.hid (HB1.out.trans (hb.mono HB1.out.size))
   have HR2 := Lib.hid (heap_keep hb HR1.out)
   have hne : w.heap.size ≠ w2.heap.size := by have := hb.size; have := HS1.out; omega
   have HNE := Lib.hid hne
   have k2 := alloc_top w2 #[.int .i64 (q : Int), .string (txt x), .int .i64 (k : Int), .int .i64 t] 65
   have b3 := alloc_below w2 (.cells #[.int .i64 (q : Int), .string (txt x), .int .i64 (k : Int), .int .i64 t] 65)
   have HB3 := Lib.hid (HB2.out.trans (b3.mono HB2.out.size))
   have HR3 := Lib.hid (heap_keep b3 HR2.out)
   have HS0 : Hid ((w2.alloc (.cells #[.int .i64 (q : Int), .string (txt x), .int .i64 (k : Int), .int .i64 t] 65)).cell? ⟨w2.heap.size, 0, none⟩ = some (.int .i64 (q : Int)) ∧ (w2.alloc (.cells #[.int .i64 (q : Int), .string (txt x), .int .i64 (k : Int), .int .i64 t] 65)).cell? ⟨w2.heap.size, 1, none⟩ = some (.string (txt x)) ∧ (w2.alloc (.cells #[.int .i64 (q : Int), .string (txt x), .int .i64 (k : Int), .int .i64 t] 65)).cell? ⟨w2.heap.size, 2, none⟩ = some (.int .i64 (k : Int)) ∧ (w2.alloc (.cells #[.int .i64 (q : Int), .string (txt x), .int .i64 (k : Int), .int .i64 t] 65)).cell? ⟨w2.heap.size, 3, none⟩ = some (.int .i64 t)) :=
    Lib.hid ⟨(cell_at (o := 0) k2).trans rfl, (cell_at (o := 1) k2).trans rfl, (cell_at (o := 2) k2).trans rfl, (cell_at (o := 3) k2).trans rfl⟩
   have HFA := Lib.hid (fun (W : World) (hb : Below w.heap.size w W) => HFT.out W hb)
   clear hb k2 b3 hne HFT HFI HCL HX2 HR0 HR1 HR2 HB0 HB1 HS1 hsl
   go_wp2_with fail
   go_region_held3 (fun w' => w'.cell? ⟨w2.heap.size, 0, none⟩ = some (.int .i64 (q : Int)) ∧ w'.cell? ⟨w2.heap.size, 1, none⟩ = some (.string (txt x)) ∧ w'.cell? ⟨w2.heap.size, 2, none⟩ = some (.int .i64 (k : Int)) ∧ w'.cell? ⟨w2.heap.size, 3, none⟩ = some (.int .i64 t)) (first | exact HS0.out | exact four_keep HS0.out kq ⟨rfl, rfl, rfl, rfl⟩ | exact four_set HNE.out (four_keep HS0.out kq ⟨rfl, rfl, rfl, rfl⟩)) (first | (go_at_call 89; refine (HFA.out _ (HB3.out.trans ((below_drew (Below.refl _ _)).mono HB3.out.size))).mono ?_; rintro e wq ⟨rfl, kq⟩; have hqr := heap_keep (below_drew kq) HR3.out; have hq0 := cell_at (o := 0) hqr; have hq1 := cell_at (o := 1) hqr; have hq2 := cell_at (o := 2) hqr; have hq3 := cell_at (o := 3) hqr; have hf0 := frozen_of_row wq w.heap.size 0 _ _ hqr; have hf1 := frozen_of_row wq w.heap.size 1 _ _ hqr; have hf2 := frozen_of_row wq w.heap.size 2 _ _ hqr; have hf3 := frozen_of_row wq w.heap.size 3 _ _ hqr))
   have hz := set4_heap (heap_keep (below_drew kq) HR3.out) (.int .i64 (q : Int)) (.string (txt x)) (.int .i64 (k : Int)) (.int .i64 t)
   have g0 := cell_at (o := 0) hz
   have g1 := cell_at (o := 1) hz
   have g2 := cell_at (o := 2) hz
   have g3 := cell_at (o := 3) hz
   have HBZ := Lib.hid (((((HB3.out.trans ((below_drew kq).mono HB3.out.size)).setCell (p := ⟨w.heap.size, 0, none⟩) (Nat.le_refl _) (.int .i64 (q : Int))).setCell (p := ⟨w.heap.size, 1, none⟩) (Nat.le_refl _) (.string (txt x))).setCell (p := ⟨w.heap.size, 2, none⟩) (Nat.le_refl _) (.int .i64 (k : Int))).setCell (p := ⟨w.heap.size, 3, none⟩) (Nat.le_refl _) (.int .i64 t))
   clear HS0 hq0 hq1 hq2 hq3 hf0 hf1 hf2 hf3 hqr hz
   go_wp2_with fail
   refine bodyPost_ret (v := .tuple #[.agg #[.int .i64 (q : Int), .string (txt x), .int .i64 (k : Int), .int .i64 t], .int .i64 (er : Int)]) ?_ rfl ⟨rfl, HBZ.out⟩
   simp [results, Tryz.f62, go_sem, g0, g1, g2, g3]
end Go.Proofs.YtmlclgkhnekmnaaGreatDoor
namespace Go.Proofs.YtmlclgkhnekmnaaGreatDoor
open Go.RowKit
def lst : Except (Nat × Nat) (List Tok) → List Tok
 | .ok l => l
 | .error _ => []
def plc : Except (Nat × Nat) (List Tok) → Nat
 | .ok _ => 0
 | .error x => x.1
def err : Except (Nat × Nat) (List Tok) → Nat
 | .ok _ => 0
 | .error x => x.2
def TEnd (R : Except (Nat × Nat) (List Tok)) (w : World) (e : Ending) (w' : World) : Prop :=
 ∃ v, e = .returned (.tuple #[v, .int .i64 (plc R : Int), .int .i64 (err R : Int)]) ∧
  w'.ownsRow w.heap.size 65 4 v (lst R).length (tcells (lst R)) ∧ Below w.heap.size w w'
theorem tend_no {R : Except (Nat × Nat) (List Tok)} {p x : Nat} (h : R = .error (p, x)) {w w' : World} (hb : Below w.heap.size w w') : TEnd R w (.returned (.tuple #[.slice none 0 0, .int .i64 (p : Int), .int .i64 (x : Int)])) w' := by
 subst h
 exact ⟨_, rfl, World.ownsRow_nil _ _ _ _, hb⟩
theorem tend_ok {R : Except (Nat × Nat) (List Tok)} {l : List Tok} (h : R = .ok l) {w w' : World} {v : Value} (ho : w'.ownsRow w.heap.size 65 4 v l.length (tcells l)) (hb : Below w.heap.size w w') : TEnd R w (.returned (.tuple #[v, .int .i64 0, .int .i64 0])) w' := by
 subst h
 exact ⟨_, rfl, ho, hb⟩
def floatsOk (OK : List UInt8 → Prop) (s : ByteArray) : Prop := ∀ k, k < s.size → (tokK (rest s k)).1 = 4 → OK ((rest s k).take (tokK (rest s k)).2)
theorem lst_new (w : World) : LSt (w.heap.size + 1) (w.alloc (.cells #[.slice none 0 0] 59)) w.heap.size [] := by
 have h := alloc_top w #[.slice none 0 0] 59
 refine ⟨Nat.lt_succ_self _, by rw [World.size_alloc]; exact Nat.le_refl _, ⟨.slice none 0 0, cell_at (o := 0) h, frozen_of_row _ _ _ _ _ h, World.ownsRow_nil _ _ _ _⟩, fun t ht => by cases ht⟩
theorem lexT_no (ff : List UInt8 → Nat) (acc : List Tok) (s : ByteArray) (k : Nat) (h : k < s.size) (h0 : (tokK (rest s k)).2 = 0) : lexT ff acc k (rest s k) = .error (k, 4) := by
 unfold lexT
 rw [if_neg (rest_ne s k h), if_pos h0]
theorem lexT_bad (ff : List UInt8 → Nat) (acc : List Tok) (s : ByteArray) (k : Nat) (h : k < s.size) (h0 : (tokK (rest s k)).2 ≠ 0) (hf : faultF ff (tokK (rest s k)).1 ((rest s k).take (tokK (rest s k)).2) ≠ 0) : lexT ff acc k (rest s k) = .error (k, faultF ff (tokK (rest s k)).1 ((rest s k).take (tokK (rest s k)).2)) := by
 unfold lexT
 rw [if_neg (rest_ne s k h), if_neg h0, if_pos hf]
theorem lexT_step (ff : List UInt8 → Nat) (acc : List Tok) (s : ByteArray) (k : Nat) (h : k < s.size) (h0 : (tokK (rest s k)).2 ≠ 0) (hf : faultF ff (tokK (rest s k)).1 ((rest s k).take (tokK (rest s k)).2) = 0) : lexT ff acc k (rest s k) =
 lexT ff (endIf (gap (rest s (k + (tokK (rest s k)).2))).2 (acc ++ [((tokK (rest s k)).1, (rest s k).take (tokK (rest s k)).2, k, k + (tokK (rest s k)).2)])) (k + (tokK (rest s k)).2 + (gap (rest s (k + (tokK (rest s k)).2))).1) (rest s (k + (tokK (rest s k)).2 + (gap (rest s (k + (tokK (rest s k)).2))).1)) := by
 conv => lhs; unfold lexT
 rw [if_neg (rest_ne s k h), if_neg h0, if_neg (by rw [hf]; simp), lex_gap, rest_drop, rest_drop]
theorem lexT_end (ff : List UInt8 → Nat) (acc : List Tok) (s : ByteArray) (k : Nat) (h : ¬ k < s.size) : lexT ff acc k (rest s k) = .ok acc := by
 unfold lexT
 rw [if_pos (rest_end s k h)]
theorem nil_back {W : World} {L : Nat} {v u : Value} (o : Obj) (h : W.cell? ⟨L, 0, none⟩ = some v) : ((W.setCell ⟨L, 0, none⟩ u).alloc o).cell? ⟨L, 0, none⟩ = some u :=
 cell_keep2 (alloc_below _ _) (World.cell?_setCell_same' _ _ _ (by rw [h]; rfl))
theorem endIf_nil (b : Bool) : endIf b [] = [] := by cases b <;> rfl
set_option maxRecDepth 100000 in
set_option maxHeartbeats 4000000 in
theorem tokens_any {FW : World → Prop} {ff : List UInt8 → Nat} {OK : List UInt8 → Prop} (hS : FSpec FW ff OK) (s : ByteArray) (hs : s.size ≤ 1000000) (hO : floatsOk OK s) (w : World) (hF : Facts w) (hW : FW w) : Calls Tryz.prog 40 #[.string s] w (TEnd (tokensL ff s.data.toList) w) := by
 obtain ⟨i0, hi, hz0, hz1, hz2⟩ := info_parts Tryz.info65
 have hsz : s.data.toList.length = s.size := rfl
 unfold tokensL
 rw [hsz]
 have b0 := alloc_below w (.cells #[.slice none 0 0] 59)
 have HB0 := Lib.hid b0
 have HL0 := Lib.hid (lst_new w)
 have hr0 := alloc_top w #[.slice none 0 0] 59
 have HR0 := Lib.hid hr0
 by_cases h65 : 65536 < s.size
 · have d : decide (65536 < (s.size : Int)) = true := by rw [decide_eq_true_eq]; omega
   obtain ⟨R, hR⟩ : ∃ R, R = (if 65536 < s.size then .error (65536, 3) else if good s.data.toList < s.size then .error (good s.data.toList, 8) else lex ff [] 0 s.data.toList : Except (Nat × Nat) (List Tok)) := ⟨_, rfl⟩
   have HV : Hid (R = .error (65536, 3)) := Lib.hid (by rw [hR, if_pos h65])
   rw [← hR]
   clear hR h65 hS hO hF hW hi hz0 hz1 hz2 b0 hr0 hsz
   go_enter Tryz.func40, Tryz.ntmps40
   go_wp2_with fail
   refine bodyPost_ret (v := .tuple #[.slice none 0 0, .int .i64 65536, .int .i64 3]) ?_ rfl (tend_no (p := 65536) (x := 3) HV.out HB0.out)
   have hc := cell_at (o := 0) HR0.out
   simp [results, Tryz.f40, go_sem, hc]
 · have d : decide (65536 < (s.size : Int)) = false := by rw [decide_eq_false_iff_not]; omega
   have HP := Lib.hid (pastUTF8_any s _ (hF.below b0))
   have hg := good_le s.data.toList
   rw [hsz] at hg
   rw [if_neg h65]
   by_cases h8 : good s.data.toList < s.size
   · have d8 : decide (((good s.data.toList : Nat) : Int) < (s.size : Int)) = true := by rw [decide_eq_true_eq]; omega
     obtain ⟨R, hR⟩ : ∃ R, R = (if good s.data.toList < s.size then .error (good s.data.toList, 8) else lex ff [] 0 s.data.toList : Except (Nat × Nat) (List Tok)) := ⟨_, rfl⟩
     have HV : Hid (R = .error (good s.data.toList, 8)) := Lib.hid (by rw [hR, if_pos h8])
     rw [← hR]
     clear hR d8 h65 hS hO hF hW hi hz0 hz1 hz2 b0 hr0 hsz
     generalize good s.data.toList = g at *
     go_enter Tryz.func40, Tryz.ntmps40
     go_wp2_with fail
     refine HP.out.mono ?_
     rintro e w1 ⟨rfl, hb⟩
     have hr1 := heap_keep hb HR0.out
     have hc1 := cell_at (o := 0) hr1
     have hf1 := frozen_of_row w1 w.heap.size 0 _ _ hr1
     have HB1 := Lib.hid (HB0.out.trans (hb.mono HB0.out.size))
     have HR1 := Lib.hid hr1
     clear hb hr1
     go_wp2_with fail
     refine bodyPost_ret (v := .tuple #[.slice none 0 0, .int .i64 (g : Int), .int .i64 8]) ?_ rfl (tend_no (x := 8) HV.out (HB1.out.setCell (Nat.le_refl _) _))
     simp [results, Tryz.f40, go_sem, hc1]
   · have d8 : decide (((good s.data.toList : Nat) : Int) < (s.size : Int)) = false := by rw [decide_eq_false_iff_not]; omega
     obtain ⟨R, hR⟩ : ∃ R, R = (if good s.data.toList < s.size then .error (good s.data.toList, 8) else lex ff [] 0 s.data.toList : Except (Nat × Nat) (List Tok)) := ⟨_, rfl⟩
     have HV : Hid (lexT ff [] (0 + (gap (rest s 0)).1) (rest s (0 + (gap (rest s 0)).1)) = R) := Lib.hid (by
      rw [hR, if_neg h8, ← rest_zero, lex_gap, endIf_nil, rest_drop])
     rw [← hR]
     have hgap := gapB_le false (rest s 0)
     change (gap (rest s 0)).1 ≤ _ at hgap
     rw [rest_len] at hgap
     have hp0 : 0 + (gap (rest s 0)).1 ≤ s.size := by omega
     clear hgap
     have HPG : Hid (∀ W, LSt (w.heap.size + 1) W w.heap.size [] → Calls Tryz.prog 61 #[.string s, .int .i64 0, .func (.func 59) #[] #[.pointer (some ⟨w.heap.size, 0, none⟩)]] W fun e W' => e = .returned (.int .i64 ((0 + (gap (rest s 0)).1 : Nat) : Int)) ∧ LSt (w.heap.size + 1) W' w.heap.size (endIf (gap (rest s 0)).2 []) ∧ Below w.heap.size W W') := Lib.hid (fun (W : World) (h : LSt (w.heap.size + 1) W w.heap.size []) => pastGap_any (w.heap.size + 1) w.heap.size s 0 (Nat.zero_le _) hs [] W h (by simp))
     rw [endIf_nil] at HPG
     have HPA := Lib.hid (fun (k : Nat) (hk : k ≤ s.size) (acc : List Tok) (W : World) (h : LSt (w.heap.size + 1) W w.heap.size acc) (hl : acc.length ≤ 2900000) => pastGap_any (w.heap.size + 1) w.heap.size s k hk hs acc W h hl)
     have HTK := Lib.hid (fun (k : Nat) (hk : k < s.size) (W : World) (hb : Below w.heap.size w W) => tokenAt_any hS s k hk hs (hO k hk) W (hF.below hb) (hS.keep w W hW hb))
     clear hR d8 h65 hS hO hF hW b0 hr0 hsz hg
     generalize good s.data.toList = g at *
     generalize 0 + (gap (rest s 0)).1 = p0 at *
     go_enter Tryz.func40, Tryz.ntmps40
     go_wp2_with fail
     refine HP.out.mono ?_
     rintro e w1 ⟨rfl, hb⟩
     have HB1 := Lib.hid (HB0.out.trans (hb.mono HB0.out.size))
     have HL1 := Lib.hid (HL0.out.below hb)
     clear hb HR0 HL0 HB0 HP
     go_wp2_with fail
     refine (HPG.out _ HL1.out).mono ?_
     rintro e w2 ⟨rfl, hst, hb⟩
     have HB2 := Lib.hid (HB1.out.trans hb)
     have HST := Lib.hid hst
     clear hst hb HB1 HL1 HPG
     go_wp2_with fail
     go_loopw [7] (fun u wr => ∃ (pos : Nat) (acc : List Tok), pos ≤ s.size ∧ u = .int .i64 pos ∧ Hid (acc.length ≤ 2 * pos + 1) ∧ Hid (LSt (w.heap.size + 1) wr w.heap.size acc) ∧ Hid (Below w.heap.size w wr) ∧ Hid (lexT ff acc pos (rest s pos) = R)) (fun u _ => s.size - (intOf u).toNat)
     case atStart => exact ⟨p0, [], by omega, rfl, Lib.hid (by simp), HST, HB2, HV⟩
     case round =>
      obtain ⟨pos, acc, hpos, rfl, hacc, hst, hb, hrel⟩ := hrel
      by_cases hlt : pos < s.size
      · have HT := Lib.hid (HTK.out pos hlt wr hb.out)
        have hle := tokK_le (rest s pos)
        rw [rest_len] at hle
        have hkind := tokK_kind (rest s pos)
        unfold tokEnd at HT
        by_cases hn : (tokK (rest s pos)).2 = 0
        · rw [if_pos hn] at HT
          have HVV : Hid (R = .error (pos, 4)) := Lib.hid (by rw [← hrel.out, lexT_no ff acc s pos hlt hn])
          clear hn hrel hi hz0 hz1 hz2 hle hkind HTK HPA
          go_wp2_with fail
          refine HT.out.mono ?_
          rintro e w3 ⟨rfl, hb3⟩
          have HB3 := Lib.hid (hb.out.trans (hb3.mono hb.out.size))
          have HL3 := Lib.hid (hst.out.below hb3)
          obtain ⟨v3, c3, f3, _⟩ := (hst.out.below hb3).cell
          have HLT : Hid (w.heap.size < w3.heap.size) := Lib.hid (Nat.lt_of_lt_of_le HL3.out.lt HL3.out.sz)
          clear hb3
          have hlt3 := HLT.out
          have gz := nil_back (u := .slice none 0 0) (.cells #[.int .i64 0, .string ⟨#[]⟩, .int .i64 0, .int .i64 0] 65) c3
          go_wp2_with fail
          refine bodyPost_ret (v := .tuple #[.slice none 0 0, .int .i64 (pos : Int), .int .i64 4]) ?_ rfl (tend_no (x := 4) HVV.out ((HB3.out.setCell (Nat.le_refl _) _).alloc (by rw [World.size_setCell]; exact Nat.le_of_lt HLT.out) _))
          simp [results, Tryz.f40, go_sem, gz]
        · rw [if_neg hn] at HT
          by_cases hf : faultF ff (tokK (rest s pos)).1 ((rest s pos).take (tokK (rest s pos)).2) = 0
          · have hstep := lexT_step ff acc s pos hlt hn hf
            rw [hrel.out] at hstep
            have hgap := gapB_le false (rest s (pos + (tokK (rest s pos)).2))
            change (gap (rest s (pos + (tokK (rest s pos)).2))).1 ≤ _ at hgap
            rw [rest_len] at hgap
            rw [hf] at HT
            generalize (tokK (rest s pos)).1 = q at *
            generalize hnn : (tokK (rest s pos)).2 = n at *
            generalize (rest s pos).take n = x at *
            have HPB := Lib.hid (fun (acc : List Tok) (W : World) (h : LSt (w.heap.size + 1) W w.heap.size acc) (hl : acc.length ≤ 2900000) => HPA.out (pos + n) (by omega) acc W h hl)
            generalize gap (rest s (pos + n)) = gp at *
            have HG : Hid (lexT ff (endIf gp.2 (acc ++ [(q, x, pos, pos + n)])) (pos + n + gp.1) (rest s (pos + n + gp.1)) = R) := Lib.hid hstep.symm
            have HAC := Lib.hid (show acc.length ≤ 2100000 by have := hacc.out; omega)
            have HNL := Lib.hid (show (endIf gp.2 (acc ++ [(q, x, pos, pos + n)])).length ≤ 2 * (pos + n + gp.1) + 1 by
             have h1 := endIf_len gp.2 (acc ++ [(q, x, pos, pos + n)])
             rw [List.length_append, List.length_singleton] at h1
             have := hacc.out
             omega)
            have hkk : ∀ t ∈ acc ++ [((q, x, pos, pos + n) : Tok)], 1 ≤ t.1 ∧ t.1 ≤ 7 := fun t ht => by
             rcases List.mem_append.1 ht with ht | ht
             · exact hst.out.kinds t ht
             · obtain rfl : t = (q, x, pos, pos + n) := by simpa using ht
               exact hkind
            have HKK := Lib.hid hkk
            have hto1 : pos + n + gp.1 ≤ s.size := by omega
            have hto2 : pos < pos + n + gp.1 := by omega
            obtain ⟨z, hz⟩ : ∃ z : Int, z = ((pos + n : Nat) : Int) := ⟨_, rfl⟩
            rw [← hz] at HT HPB
            have HZ := Lib.hid hz
            clear hn hf hstep hgap hle hkind hkk hz hrel hacc hnn HTK HPA
            go_wp2_with fail
            refine HT.out.mono ?_
            rintro e w3 ⟨rfl, hb3⟩
            have HB3 := Lib.hid (hb.out.trans (hb3.mono hb.out.size))
            have hl3 := hst.out.below hb3
            have HL3 := Lib.hid hl3
            obtain ⟨v3, c3, f3, o3⟩ := hl3.cell
            obtain ⟨A3, cp3, rfl⟩ := slice_form o3
            have HO3 := Lib.hid o3
            have hLT : w.heap.size < w3.heap.size := Nat.lt_of_lt_of_le hl3.lt hl3.sz
            have HLT := Lib.hid hLT
            clear hb3 hl3 o3
            go_wp2_with (at_builtin; refine wpList_append_own2 _ rfl _ _ 59 rfl (w.heap.size + 1) 65 i0 (.agg #[.int .i64 0, .string ⟨#[]⟩, .int .i64 0, .int .i64 0]) 4 40 Tryz.underlying59 hi hz0 hz1 hz2 rfl (by decide) _ _ _ rfl (World.ownsRow.alloc (World.ownsRow.alloc HO3.out _) _) ⟨w3.heap.size + 1, 0, none⟩ 1 1 [.int .i64 (q : Int), .string (txt x), .int .i64 (pos : Int), .int .i64 z] rfl rfl ?c1 ?c2 ?c3 ?c4 ?c5 ?_)
            case c1 => exact new_add2 _ _ _ _
            case c2 => simp [Value.oneCell']
            case c3 => have := HAC.out; unfold maxLen; omega
            case c4 => have := HAC.out; omega
            case c5 => simp only [World.size_alloc]; have := HLT.out; omega
            intro v4 w4 hown4 hgr4 hne4
            have hs1 : (w3.alloc (.cells #[.int .i64 (q : Int), .string (txt x), .int .i64 (pos : Int), .int .i64 z] 65)).heap.size = w3.heap.size + 1 := World.size_alloc _ _
            have hs2 : ((w3.alloc (.cells #[.int .i64 (q : Int), .string (txt x), .int .i64 (pos : Int), .int .i64 z] 65)).alloc (.cells #[.int .i64 (q : Int), .string (txt x), .int .i64 (pos : Int), .int .i64 z] 65)).heap.size = w3.heap.size + 1 + 1 := (World.size_alloc _ _).trans (by rw [hs1])
            have kk : Below w3.heap.size w3 ((w3.alloc (.cells #[.int .i64 (q : Int), .string (txt x), .int .i64 (pos : Int), .int .i64 z] 65)).alloc (.cells #[.int .i64 (q : Int), .string (txt x), .int .i64 (pos : Int), .int .i64 z] 65)) := ((Below.refl _ _).alloc (Nat.le_refl _) _).alloc (by rw [hs1]; omega) _
            have hOM := World.ownsRow.alloc (World.ownsRow.alloc HO3.out (.cells #[.int .i64 (q : Int), .string (txt x), .int .i64 (pos : Int), .int .i64 z] 65)) (.cells #[.int .i64 (q : Int), .string (txt x), .int .i64 (pos : Int), .int .i64 z] 65)
            have hr : tcells acc ++ [Value.int .i64 (q : Int), .string (txt x), .int .i64 (pos : Int), .int .i64 z] = tcells (acc ++ [(q, x, pos, pos + n)]) := by
             rw [tcells_snoc, HZ.out]; rfl
            rw [hr, show acc.length + 1 = (acc ++ [((q, x, pos, pos + n) : Tok)]).length by simp] at hown4
            have hset := lset (HL3.out.below kk) hOM hgr4 hown4 HKK.out
            have HSET := Lib.hid hset.1
            have HB4 := Lib.hid ((HB3.out.trans (kk.mono HB3.out.size)).trans hset.2)
            have hc3 : w4.cell? ⟨w3.heap.size, 3, none⟩ = some (.int .i64 z) := by
             rw [cell_block (hgr4.block w3.heap.size (by rw [hs2]; omega) (own_far HO3.out _ (.inr (Nat.le_refl _))))]
             have k1 := alloc_top w3 #[.int .i64 (q : Int), .string (txt x), .int .i64 (pos : Int), .int .i64 z] 65
             exact cell_keep2 (alloc_below _ _) ((cell_at (o := 3) k1).trans rfl)
            have hc4 : (w4.setCell ⟨w.heap.size, 0, none⟩ v4).cell? ⟨w3.heap.size, 3, none⟩ = some (.int .i64 z) := by
             rw [World.cell?_setCell_far _ _ _ _ (by show w.heap.size ≠ w3.heap.size; have := HLT.out; omega)]
             exact hc3
            have hcL : w4.cell? ⟨w.heap.size, 0, none⟩ = some (.slice A3 acc.length cp3) := by
             rw [cell_block (hgr4.block w.heap.size (by rw [hs2]; have := HLT.out; omega) (own_far HO3.out _ (.inl (Nat.lt_succ_self _))))]
             exact cell_keep2 kk c3
            have hfL : w4.frozen? ⟨w.heap.size, 0, none⟩ = false := by
             rw [frozen_block (hgr4.block w.heap.size (by rw [hs2]; have := HLT.out; omega) (own_far HO3.out _ (.inl (Nat.lt_succ_self _))))]
             exact (kk.frozen (p := ⟨w.heap.size, 0, none⟩) HLT.out).trans f3
            obtain ⟨A4, cp4, rfl⟩ := slice_form hown4
            rw [List.length_append, List.length_singleton] at HSET hc4 HB4
            clear hs1 hs2 kk hOM hr hset hown4 hgr4 hne4 c3 f3 hi hz0 hz1 hz2 hc3
            go_wp2_with fail
            refine (HPB.out _ _ HSET.out (by rw [List.length_append, List.length_singleton]; have := HAC.out; omega)).mono ?_
            rintro e w5 ⟨rfl, hst5, hb5⟩
            have HST5 := Lib.hid hst5
            have HB5 := Lib.hid (HB4.out.trans hb5)
            clear hst5 hb5
            go_wp2_with fail
            go_roundw
            case rel => exact ⟨pos + n + gp.1, _, hto1, rfl, HNL, HST5, HB5, HG⟩
            case measure => simp [intOf]; omega
          · have HVV : Hid (R = .error (pos, faultF ff (tokK (rest s pos)).1 ((rest s pos).take (tokK (rest s pos)).2))) := Lib.hid (by rw [← hrel.out, lexT_bad ff acc s pos hlt hn hf])
            generalize (tokK (rest s pos)).1 = q at *
            generalize (tokK (rest s pos)).2 = n at *
            generalize (rest s pos).take n = x at *
            generalize faultF ff q x = er at *
            have qe : (((er : Nat) : Int) == 0) = false := by simp only [beq_eq_false_iff_ne, ne_eq]; omega
            have qn : (((er : Nat) : Int) != 0) = true := by simp only [bne_iff_ne, ne_eq]; omega
            clear hn hf hrel hi hz0 hz1 hz2 hle hkind HTK HPA
            go_wp2_with fail
            refine HT.out.mono ?_
            rintro e w3 ⟨rfl, hb3⟩
            have HB3 := Lib.hid (hb.out.trans (hb3.mono hb.out.size))
            have HL3 := Lib.hid (hst.out.below hb3)
            obtain ⟨v3, c3, f3, _⟩ := (hst.out.below hb3).cell
            have HLT : Hid (w.heap.size < w3.heap.size) := Lib.hid (Nat.lt_of_lt_of_le HL3.out.lt HL3.out.sz)
            clear hb3
            have hlt3 := HLT.out
            have gz := nil_back (u := .slice none 0 0) (.cells #[.int .i64 (q : Int), .string (txt x), .int .i64 (pos : Int), .int .i64 ((pos + n : Nat) : Int)] 65) c3
            rw [Int.natCast_add] at gz
            go_wp2_with fail
            refine bodyPost_ret (v := .tuple #[.slice none 0 0, .int .i64 (pos : Int), .int .i64 (er : Int)]) ?_ rfl (tend_no HVV.out ((HB3.out.setCell (Nat.le_refl _) _).alloc (by rw [World.size_setCell]; exact Nat.le_of_lt HLT.out) _))
            simp [results, Tryz.f40, go_sem, gz]
      · have HVV : Hid (R = .ok acc) := Lib.hid (by rw [← hrel.out, lexT_end ff acc s pos hlt])
        obtain ⟨v3, c3, f3, o3⟩ := hst.out.cell
        obtain ⟨A3, cp3, rfl⟩ := slice_form o3
        have HO3 := Lib.hid o3
        clear hrel hi hz0 hz1 hz2 HTK HPA o3
        have hc5 := World.cell?_setCell_same' wr ⟨w.heap.size, 0, none⟩ (.slice A3 acc.length cp3) (by rw [c3]; rfl)
        go_wp2_with fail
        refine bodyPost_ret (v := .tuple #[.slice A3 acc.length cp3, .int .i64 0, .int .i64 0]) ?_ rfl (tend_ok HVV.out (ownsRow_base (owns_row_keep HO3.out (fun k ek => heap_setCell_other _ _ _ _ (by have := (World.ownsRow.lt HO3.out k ek).1; show k ≠ w.heap.size; omega))) (Nat.le_succ _)) (hb.out.setCell (Nat.le_refl _) _))
        simp [results, Tryz.f40, go_sem, hc5]
end Go.Proofs.YtmlclgkhnekmnaaGreatDoor
namespace Go.Proofs.YtmlclgkhnekmnaaGreatDoor
open Go.RowKit
variable {FW : World → Prop} {ff : List UInt8 → Nat} {OK : List UInt8 → Prop}
theorem txt_list (l : List UInt8) : (txt l).toList = l := by rw [Lib.toList_data]; rfl
theorem empty_no {s : ByteArray} (h : 0 < s.size) : s.toList.isEmpty = false := by
 rw [Lib.toList_data]
 cases hl : s.data.toList with
 | nil => exfalso; rw [Lib.size_eq, hl] at h; simp at h
 | cons a l => rfl
theorem empty_yes {s : ByteArray} (h : ¬ 0 < s.size) : s.toList.isEmpty = true := by
 rw [Lib.toList_data]
 cases hl : s.data.toList with
 | nil => rfl
 | cons a l => exfalso; rw [Lib.size_eq, hl] at h; simp at h
set_option maxHeartbeats 1000000 in
theorem name_any (s : ByteArray) (hs : s.size ≤ 1000000) (w : World) : Calls Tryz.prog 49 #[.string s] w fun e w' => e = .returned (.bool (nameB s.data.toList)) ∧ w = w' := by
 have hsz : s.data.toList.length = s.size := rfl
 by_cases h0 : 0 < s.size
 · have he := empty_no h0
   have HL := Lib.hid (fun w => isLetter_any s[0] w)
   have HP : Hid (∀ w, Calls Tryz.prog 72 #[.string s, .int .i64 0] w fun e w' => e = .returned (.int .i64 ((0 + run isW (rest s 0) : Nat) : Int)) ∧ w = w') := Lib.hid (fun w => pastWord_any s 0 (Nat.zero_le _) hs w)
   have HR := Lib.hid (fun w => reserved_any s w)
   have HN := Lib.hid (fun w => nameFault_any s w)
   have hf := fst_at isLt s 0 h0
   rw [rest_zero] at hf HP
   rw [Nat.zero_add] at HP
   unfold nameB
   rw [hf, hsz]
   generalize run isW s.data.toList = n at *
   generalize isRes s.data.toList = c at *
   generalize nameF s.data.toList = z at *
   have h00 := h0
   clear hsz hf
   cases ha : isLt s[0] with
   | false =>
    rw [ha] at HL
    clear ha
    rw [Bool.false_and, Bool.false_and, Bool.false_and]
    go_enter Tryz.func49, Tryz.ntmps49
    go_wp2_with fail
    refine (HL.out _).mono ?_
    rintro e w' ⟨rfl, rfl⟩
    go_wp2_with fail
    go_ret
    exact ⟨rfl, rfl⟩
   | true =>
    rw [ha] at HL
    clear ha
    by_cases hn : n = s.size
    · rw [decide_eq_true hn]
      have q : (((n : Nat) : Int) == (s.size : Int)) = true := by simp only [beq_iff_eq]; omega
      clear hn
      cases c with
      | true =>
       rw [Bool.not_true, Bool.and_false, Bool.false_and]
       go_enter Tryz.func49, Tryz.ntmps49
       go_wp2_with fail
       refine (HL.out _).mono ?_
       rintro e w' ⟨rfl, rfl⟩
       go_wp2_with fail
       refine (HP.out _).mono ?_
       rintro e w' ⟨rfl, rfl⟩
       go_wp2_with fail
       refine (HR.out _).mono ?_
       rintro e w' ⟨rfl, rfl⟩
       go_wp2_with fail
       go_ret
       exact ⟨rfl, rfl⟩
      | false =>
       rw [Bool.not_false, Bool.and_true, Bool.true_and, Bool.true_and]
       have hz : decide (z = 0) = (((z : Nat) : Int) == 0) := by rw [Bool.eq_iff_iff, decide_eq_true_eq, beq_iff_eq]; omega
       rw [hz]
       clear hz
       go_enter Tryz.func49, Tryz.ntmps49
       go_wp2_with fail
       refine (HL.out _).mono ?_
       rintro e w' ⟨rfl, rfl⟩
       go_wp2_with fail
       refine (HP.out _).mono ?_
       rintro e w' ⟨rfl, rfl⟩
       go_wp2_with fail
       refine (HR.out _).mono ?_
       rintro e w' ⟨rfl, rfl⟩
       go_wp2_with fail
       refine (HN.out _).mono ?_
       rintro e w' ⟨rfl, rfl⟩
       go_wp2_with fail
       go_ret
       exact ⟨rfl, rfl⟩
    · rw [decide_eq_false hn, Bool.and_false, Bool.false_and, Bool.false_and]
      have q : (((n : Nat) : Int) == (s.size : Int)) = false := by simp only [beq_eq_false_iff_ne, ne_eq]; omega
      clear hn
      go_enter Tryz.func49, Tryz.ntmps49
      go_wp2_with fail
      refine (HL.out _).mono ?_
      rintro e w' ⟨rfl, rfl⟩
      go_wp2_with fail
      refine (HP.out _).mono ?_
      rintro e w' ⟨rfl, rfl⟩
      go_wp2_with fail
      go_ret
      exact ⟨rfl, rfl⟩
 · have he := empty_yes h0
   have e : nameB s.data.toList = false := by
    have : s.data.toList = [] := List.eq_nil_of_length_eq_zero (by rw [hsz]; omega)
    rw [this]; rfl
   rw [e]
   clear e hsz
   go_enter Tryz.func49, Tryz.ntmps49
   go_wp2_with fail
   go_ret
   exact ⟨rfl, rfl⟩
end Go.Proofs.YtmlclgkhnekmnaaGreatDoor
