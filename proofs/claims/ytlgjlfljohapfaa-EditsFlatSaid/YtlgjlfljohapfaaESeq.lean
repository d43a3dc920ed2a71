/-
  edits' iterator of pieces AT EVERY TEXT and every list of splices that fit it, FOR EVERY LOOP BODY that leaves all cells but those of its own. Conditions: the lengths.
-/
import Derived.RangeFuncNested
import Derived.RangeFuncFrom
import Derived.RangeFuncBound
import Derived.RangeFuncCalls
import Derived.RangeFuncLeaves
import Derived.Shelf.Abstract
import Derived.OwnWalkIn
import Derived.TacticsInMore
import Derived.LoopNIn
import Derived.LoopIn
import Derived.Test.YtlgjlfljohapfaaEFew
import Derived.Test.YtlgjlfljohapfaaEPlain3
namespace Go.Proofs.Ytlgjlfljohapfaa
open Go.RowKit Go.Shelf

/-- All cells stay but those of some blocks. -/
def KX (X : Nat → Prop) (W W' : World) : Prop := W.heap.size ≤ W'.heap.size ∧ ∀ k o, ¬ X k → W.heap[k]? = some o → o.isCells = true → W'.heap[k]? = some o
theorem KX.refl (X : Nat → Prop) (W : World) : KX X W W := ⟨Nat.le_refl _, fun _ _ _ h _ => h⟩
theorem KX.trans {X : Nat → Prop} {A B C : World} (h : KX X A B) (k : KX X B C) : KX X A C := ⟨Nat.le_trans h.1 k.1, fun i o hx ho hc => k.2 i o hx (h.2 i o hx ho hc) hc⟩
theorem KX.put {X : Nat → Prop} (W : World) (l : Nat) (o o' : Obj) (h : W.heap[l]? = some o) (hc : o.isCells = false) : KX X W (W.putObj l o') := by
  refine ⟨by unfold World.putObj; simp, fun k p _ hk hp => ?_⟩
  refine (World.putObj_heap_other ?_).trans hk
  rintro rfl
  rw [hk] at h
  injection h with h
  subst h
  rw [hp] at hc
  cases hc
theorem KX.set {X : Nat → Prop} (W : World) {p : Addr} (v : Value) (h : X p.block) : KX X W (W.setCell p v) :=
  ⟨by simp [World.setCell], fun k _ hk ho _ => (Below.heap_setCell W p v k (fun e => hk (e ▸ h))).trans ho⟩
theorem KX.alloc {X : Nat → Prop} (W : World) (o : Obj) : KX X W (W.alloc o) := ⟨by simp, fun _ _ _ ho _ => heap_keep (alloc_below W o) ho⟩
theorem cell_obj {W : World} {b i : Nat} {v : Value} (h : W.cell? ⟨b, i, none⟩ = some v) : ∃ o, W.heap[b]? = some o ∧ o.isCells = true := by
  unfold World.cell? at h
  simp only at h
  cases hb : W.heap[b]? with
  | none => rw [hb] at h; simp at h
  | some o =>
    rw [hb] at h
    refine ⟨o, rfl, ?_⟩
    cases o with
    | cells => rfl
    | _ => simp at h
theorem KX.cell {X : Nat → Prop} {W W' : World} {b i : Nat} {v : Value} (h : KX X W W') (hx : ¬ X b) (hc : W.cell? ⟨b, i, none⟩ = some v) : W'.cell? ⟨b, i, none⟩ = some v := by
  obtain ⟨o, ho, h1⟩ := cell_obj hc
  have := h.2 b o hx ho h1
  unfold World.cell? at hc ⊢
  simp only at hc ⊢
  rw [this]
  rw [ho] at hc
  exact hc
/-- A text that is not too long. -/
abbrev Bs := { s : ByteArray // s.size ≤ 1000000 }
def encS (s : Bs) : Array Value := #[.string s.1]
def vals (l : List Bs) : List ByteArray := l.map (·.1)
theorem vals_app (a b : List Bs) : vals (a ++ b) = vals a ++ vals b := List.map_append
theorem ext_le (s : ByteArray) (a b : Nat) (h : s.size ≤ 1000000) : (s.extract a b).size ≤ 1000000 := by rw [ByteArray.size_extract]; omega
set_option maxHeartbeats 4000000 in
set_option maxRecDepth 100000 in
theorem pieces_seq (n : Nat) (text : ByteArray) (A : Option Addr) (L : List Spl) (c : Nat) (hs : text.size ≤ 1000000) (hL : L.length ≤ 1000) (hZ : ∀ x ∈ L, x.s.size ≤ 1000000) (hft : fits text.size L = true) (N1 N2 : Nat) (X : Nat → Prop) (w : World)
    (h1 : w.heap[N1]? = some (.cells #[.slice A L.length c] 22 (0, 0))) (h2 : w.heap[N2]? = some (.cells #[.string text] 9 (0, 0))) (hS : SR w A L)
    (hX : ∀ k, X k → k < w.heap.size) (hX1 : ¬ X N1) (hX2 : ¬ X N2) (hX3 : 0 < L.length → ∀ b o, A = some ⟨b, o, none⟩ → ¬ X b) :
    SeqStopsK Fence.wide n Try.prog 60 #[.pointer (some ⟨N1, 0, none⟩), .pointer (some ⟨N2, 0, none⟩)] encS (KX X) (fun xs => vals xs = pcsF text 0 L) (fun _ => True) (2 * L.length + 1) w := by
  intro l J Jx W hbW hAJ hAJx hY h0
  have hN1 := cell_at (i := 0) (heap_keep hbW h1)
  have hN2 := cell_at (i := 0) (heap_keep hbW h2)
  have HS := Lib.hid (hS.keep hbW)
  have HX := Lib.hid (fun k hk => Nat.lt_of_lt_of_le (hX k hk) hbW.size)
  have HN2 := Lib.hid hN2
  have H1 := Lib.hid hX1
  have H2 := Lib.hid hX2
  have H3 := Lib.hid hX3
  have hf0 : fitsF text.size 0 L = true := by unfold fits at hft; rw [Bool.and_eq_true] at hft; exact hft.2
  have HF0 : Hid (fitsF text.size ((0 : Nat) : Int) (L.drop 0) = true) := Lib.hid hf0
  have HA := Lib.hid hAJ
  have HYY := Lib.hid hY
  have HZ := Lib.hid hZ
  have HTS := Lib.hid hs
  have HJ0 := Lib.hid h0
  clear hZ hX1 hX2 hX3 hX hS hbW h1 h2 hft hf0 hAJ hAJx hY h0 hN2
  refine callsIn_of_wp Try.func60 rfl trivial ?_ rfl
  simp only [Try.ntmps60, List.size_toArray, List.length_cons, List.length_nil, Nat.reduceAdd, Nat.reduceSub, Array.replicate_succ, Array.replicate_zero, List.push_toArray, List.append_toArray, List.nil_append, List.cons_append]
  gi_wp2_with fail
  gi_loopw [4, 9] (fun u v wr => ∃ (pre : List Bs) (k i : Nat), u = .int .i64 (k : Int) ∧ v = .int .i64 (i : Int) ∧ k ≤ text.size ∧ i ≤ L.length ∧ pre.length = 2 * i ∧ Hid (pcsF text 0 L = vals pre ++ pcsF text k (L.drop i)) ∧ Hid (fitsF text.size (k : Int) (L.drop i) = true) ∧ Hid (KX X W wr) ∧ Hid (J pre wr)) (fun _ v _ => L.length - (intOf v).toNat)
  case atStart => exact ⟨[], 0, 0, rfl, rfl, Nat.zero_le _, Nat.zero_le _, rfl, Lib.hid rfl, HF0, Lib.hid (KX.refl _ _), HJ0⟩
  case round =>
    clear HF0 HJ0 hN1
    obtain ⟨pre, k, i, rfl, rfl, hk, hi, hpi, hl, hf, hkx, hJ⟩ := hrel
    have a2 := hkx.out.cell H2.out HN2.out
    by_cases hlt : i < L.length
    · obtain ⟨x, hx⟩ : ∃ x, L[i]? = some x := ⟨_, List.getElem?_eq_getElem hlt⟩
      obtain ⟨b, o, rfl, d0, d1, d2⟩ := HS.out.at hx
      have hxb := H3.out (by omega) b o rfl
      have c0 := hkx.out.cell hxb d0
      have c1 := hkx.out.cell hxb d1
      have c2 := hkx.out.cell hxb d2
      have hd := drop_at hx
      rw [hd] at hl hf
      obtain ⟨f1, f2, f3, f4⟩ := fitsF_step hf.out
      obtain ⟨xf, xt, xs⟩ := x
      simp only at f1 f2 f3 f4 c0 c1 c2 hl
      obtain ⟨f, rfl⟩ := Int.eq_ofNat_of_zero_le (show 0 ≤ xf by omega)
      obtain ⟨t, rfl⟩ := Int.eq_ofNat_of_zero_le (show 0 ≤ xt by omega)
      have HF2 := Lib.hid f4
      have hxs : xs.size ≤ 1000000 := HZ.out _ (List.mem_of_getElem? hx)
      have HL : Hid (pcsF text 0 L = vals ((pre ++ [⟨text.extract k f, ext_le _ _ _ HTS.out⟩]) ++ [⟨xs, hxs⟩]) ++ pcsF text t (L.drop (i + 1))) := Lib.hid (by
        rw [hl.out, pcsF, vals_app, vals_app]
        simp [vals])
      have q : decide ((i : Int) < (L.length : Int)) = true := by simpa using hlt
      have HK0 := Lib.hid (hkx.out.trans (KX.alloc wr (.cells #[.int .i64 (f : Int), .int .i64 (t : Int), .string xs] 62)))
      have HJ1 := Lib.hid (HA.out pre wr (wr.alloc (.cells #[.int .i64 (f : Int), .int .i64 (t : Int), .string xs] 62)) none hJ.out (World.grownBy_alloc wr _ none) (fun r e => by cases e))
      have HT := Lib.hid (alloc_top wr #[.int .i64 (f : Int), .int .i64 (t : Int), .string xs] 62)
      have hXw : ¬ X wr.heap.size := fun h => by have := HX.out _ h; have := hkx.out.1; omega
      have HXW := Lib.hid hXw
      obtain ⟨fn, tmps, assign, body, hy, hR⟩ := HYY.out pre ⟨text.extract k f, ext_le _ _ _ HTS.out⟩ _ HJ1.out (by omega)
      have HR := Lib.hid hR
      unfold encS at hy
      have hn2 := cell_lt a2
      have g1 : k ≤ f := by omega
      have g2 : f ≤ text.size := by omega
      have g3 : t ≤ text.size := by omega
      have g4 : f ≤ t := by omega
      clear f1 f2 f3
      clear hx hd d0 d1 d2 f4 hf hl hkx hJ hXw hR hxb
      have HG := Lib.hid (cell_lt c0)
      gi_wp2_with fail
      refine ⟨(fun h => by cases h), HR.out.mono ?_⟩
      rintro e W2 (⟨rfl, hJ2, hK2⟩ | ⟨rfl, hJx⟩)
      · have hc2 := hK2.2 _ _ HXW.out HT.out rfl
        have e2 := cell_at (i := 2) hc2
        have e1 := cell_at (i := 1) hc2
        have HT2 := Lib.hid hc2
        have HK2 := Lib.hid (HK0.out.trans hK2)
        obtain ⟨fn2, tmps2, assign2, body2, hy2, hR2⟩ := HYY.out (pre ++ [⟨text.extract k f, ext_le _ _ _ HTS.out⟩]) ⟨xs, hxs⟩ _ hJ2 (by rw [List.length_append, hpi]; simp; omega)
        have HR2 := Lib.hid hR2
        unfold encS at hy2
        clear hc2 hJ2 hK2 hR2 HR hy a2 hn2 c0 c1 c2 HJ1 HK0
        gi_wp2_with fail
        refine ⟨(fun h => by cases h), HR2.out.mono ?_⟩
        rintro e W3 (⟨rfl, hJ3, hK3⟩ | ⟨rfl, hJx⟩)
        · have hc3 := hK3.2 _ _ HXW.out HT2.out rfl
          have e1 := cell_at (i := 1) hc3
          have HJ3 := Lib.hid hJ3
          have HK3 := Lib.hid (HK2.out.trans hK3)
          clear hc3 hJ3 hK3 HR2 hy2
          gi_wp2_with fail
          refine ⟨⟨(pre ++ [⟨text.extract k f, ext_le _ _ _ HTS.out⟩]) ++ [⟨xs, hxs⟩], t, i + 1, rfl, by go_num, g3, by omega, by rw [List.length_append, List.length_append, hpi]; simp; omega, HL, HF2, HK3, HJ3⟩, ?_⟩
          simp [intOf]
          omega
        · gi_wp2_with fail
          refine bodyPost_ret (results_none rfl _ _ _) rfl ?_
          exact ⟨⟨_, rfl⟩, .inr ⟨_, trivial, hJx⟩⟩
      · gi_wp2_with fail
        refine ⟨fun _ h => (by cases h), ?_⟩
        gi_wp2_with fail
        refine bodyPost_ret (results_none rfl _ _ _) rfl ?_
        exact ⟨⟨_, rfl⟩, .inr ⟨_, trivial, hJx⟩⟩
    · have HL : Hid (pcsF text 0 L = vals (pre ++ [⟨text.extract k text.size, ext_le _ _ _ HTS.out⟩])) := Lib.hid (by rw [hl.out, List.drop_eq_nil_of_le (by omega), vals_app]; rfl)
      have q : decide ((i : Int) < (L.length : Int)) = false := by simp; omega
      obtain ⟨fn, tmps, assign, body, hy, hR⟩ := HYY.out pre ⟨text.extract k text.size, ext_le _ _ _ HTS.out⟩ _ hJ.out (by omega)
      have HR := Lib.hid hR
      unfold encS at hy
      clear hl hf hJ hR
      gi_wp2_with fail
      refine ⟨(fun h => by cases h), HR.out.mono ?_⟩
      rintro e W2 (⟨rfl, hJ2, hK2⟩ | ⟨rfl, hJx⟩)
      · have HJ2 := Lib.hid hJ2
        clear hJ2 hK2
        gi_wp2_with fail
        go_end0
        exact ⟨⟨_, rfl⟩, .inl ⟨_, HL.out.symm, HJ2.out⟩⟩
      · gi_wp2_with fail
        go_end0
        exact ⟨⟨_, rfl⟩, .inr ⟨_, trivial, hJx⟩⟩
end Go.Proofs.Ytlgjlfljohapfaa
