/-
  ast's outside, visit, nodes: which nodes are gone through, and what is kept of memory, FOR EVERY LOOP BODY that leaves all cells. Conditions: the lengths; calls have something that is called.
  ast's visit over outside, nodes, FOR EVERY LOOP BODY that leaves all cells; ofHead. Conditions: the lengths; calls have something that is called.
  ast's nodes as an iterator; ofHead: whether a shape has no literal outside of brackets. Conditions: those of FnV; calls have something that is called.
  Trees of a shape have shapes below, and calls have something that is called (okC); ofHead as a maker of function values. (Written by wip/tools' programs.)
-/
import Derived.RangeFuncNested
import Derived.RangeFuncFrom
import Derived.RangeFuncBound
import Derived.RangeFuncCalls
import Derived.RangeFuncLeaves
import Derived.Shelf.Abstract
import Derived.OwnWalkIn
import Derived.TacticsInMore
import Derived.LoopNIn
import Derived.LoopIn
import Derived.Test.YtkpddjbdmjbefaaGreatDoorNSBase
namespace Go.Proofs.YtkpddjbdmjbefaaGreatDoor
open Go.RowKit Go.Shelf

/-- All cells stay. -/
def KC (W W' : World) : Prop := W.heap.size ≤ W'.heap.size ∧ ∀ (k : Nat) (o : Obj), W.heap[k]? = some o → o.isCells = true → W'.heap[k]? = some o
theorem KC.refl (W : World) : KC W W := ⟨Nat.le_refl _, fun _ _ h _ => h⟩
theorem KC.trans {A B C : World} (h : KC A B) (k : KC B C) : KC A C := ⟨Nat.le_trans h.1 k.1, fun i o ho hc => k.2 i o (h.2 i o ho hc) hc⟩
theorem KC.put (W : World) (l : Nat) (o o' : Obj) (h : W.heap[l]? = some o) (hc : o.isCells = false) : KC W (W.putObj l o') := by
  refine ⟨by unfold World.putObj; simp, fun k p hk hp => ?_⟩
  refine (World.putObj_heap_other ?_).trans hk
  rintro rfl
  rw [hk] at h
  injection h with h
  subst h
  rw [hp] at hc
  cases hc
theorem KC.of_below {W W' : World} (h : Below W.heap.size W W') : KC W W' := ⟨h.size, fun k _ hk _ => (h.block k (Array.getElem?_eq_some_iff.1 hk).1).trans hk⟩
theorem cell_objN {W : World} {b i : Nat} {v : Value} (h : W.cell? ⟨b, i, none⟩ = some v) : ∃ o, W.heap[b]? = some o ∧ o.isCells = true := by
  unfold World.cell? at h
  simp only at h
  cases hb : W.heap[b]? with
  | none => rw [hb] at h; simp at h
  | some o =>
    rw [hb] at h
    refine ⟨o, rfl, ?_⟩
    cases o with
    | cells => rfl
    | _ => simp at h
theorem KC.cell {W W' : World} {b i : Nat} {v : Value} (h : KC W W') (hc : W.cell? ⟨b, i, none⟩ = some v) : W'.cell? ⟨b, i, none⟩ = some v := by
  obtain ⟨o, ho, h1⟩ := cell_objN hc
  have := h.2 b o ho h1
  unfold World.cell? at hc ⊢
  simp only at hc ⊢
  rw [this]
  rw [ho] at hc
  exact hc
mutual
theorem NIn.cells {W W' : World} {P : Nat → Prop} (hs : ∀ b i v, W.cell? ⟨b, i, none⟩ = some v → W'.cell? ⟨b, i, none⟩ = some v) : ∀ (n : Nd) (v : Value), NIn W P n v → NIn W' P n v
  | .mk k f t a s l, v, h => by
    rw [NIn] at h ⊢
    obtain ⟨ia, ic, hv, hcc, hl⟩ := h
    refine ⟨ia, ic, hv, hcc, fun hp => ?_⟩
    obtain ⟨b, o, hA, hP, hc⟩ := hl hp
    exact ⟨b, o, hA, hP, NLn.cells hs b l o hc⟩
theorem NLn.cells {W W' : World} {P : Nat → Prop} (hs : ∀ b i v, W.cell? ⟨b, i, none⟩ = some v → W'.cell? ⟨b, i, none⟩ = some v) (b : Nat) : ∀ (l : List Nd) (o : Nat), NLn W P b o l → NLn W' P b o l
  | [], o, _ => by rw [NLn]; trivial
  | n :: l, o, h => by
    rw [NLn] at h ⊢
    obtain ⟨⟨v0, v1, v2, v3, v4, v5, h0, h1, h2, h3, h4, h5, hj⟩, hl⟩ := h
    exact ⟨⟨v0, v1, v2, v3, v4, v5, hs _ _ _ h0, hs _ _ _ h1, hs _ _ _ h2, hs _ _ _ h3, hs _ _ _ h4, hs _ _ _ h5, NIn.cells hs n _ hj⟩, NLn.cells hs b l (o + 6) hl⟩
end
theorem SIn.kc {W W' : World} {P : Nat → Prop} {l : List Nd} {ia : Option Addr} (h : SIn W P l ia) (k : KC W W') : SIn W' P l ia := by
  intro hp
  obtain ⟨b, o, hA, hP, hc⟩ := h hp
  exact ⟨b, o, hA, hP, NLn.cells (fun _ _ _ h => k.cell h) b l o hc⟩
theorem NLn.take {W : World} {P : Nat → Prop} {b : Nat} : ∀ {l : List Nd} {o : Nat} (k : Nat), NLn W P b o l → NLn W P b o (l.take k)
  | [], o, k, h => by rw [List.take_nil]; exact h
  | n :: l, o, 0, h => by rw [List.take_zero, NLn]; trivial
  | n :: l, o, k + 1, h => by
    rw [NLn] at h
    rw [List.take_succ_cons, NLn]
    exact ⟨h.1, h.2.take k⟩
theorem SIn.take {W : World} {P : Nat → Prop} {l : List Nd} {ia : Option Addr} (k : Nat) (h : SIn W P l ia) : SIn W P (l.take k) ia := by
  intro hp
  obtain ⟨b, o, hA, hP, hc⟩ := h (by rw [List.length_take] at hp; omega)
  exact ⟨b, o, hA, hP, hc.take k⟩
/-- The kinds of the nodes that are gone through. -/
def vis : Nat → Nd → List Int
  | 0, _ => []
  | f + 1, n => (if n.kind = 0 then [] else [n.kind]) ++ (outs n).flatMap (vis f)
/-- Calls have something that is called. -/
def okC : Nat → Nd → Prop
  | 0, _ => True
  | f + 1, n => (n.kind = 27 → n.kids ≠ []) ∧ ∀ t ∈ outs n, okC f t
theorem bare_vis : ∀ (f : Nat) (n : Nd), bare f n = !((vis f n).contains 28)
  | 0, n => rfl
  | f + 1, n => by
    rw [bare, vis]
    rw [Bool.eq_iff_iff, Bool.and_eq_true, List.all_eq_true, Bool.not_eq_true', Bool.not_eq_true', ← Bool.not_eq_true, ← Bool.not_eq_true, List.contains_iff_mem, List.mem_append, List.mem_flatMap, beq_iff_eq]
    constructor
    · rintro ⟨h1, h2⟩ (h | ⟨t, ht, h⟩)
      · split at h
        · cases h
        · rw [List.mem_singleton] at h; exact h1 h.symm
      · have := h2 t ht
        rw [bare_vis f t, Bool.not_eq_true', ← Bool.not_eq_true, List.contains_iff_mem] at this
        exact this h
    · intro h
      refine ⟨fun e => h (.inl ?_), fun t ht => ?_⟩
      · rw [if_neg (by omega), e]; exact List.mem_singleton_self _
      · rw [bare_vis f t, Bool.not_eq_true', ← Bool.not_eq_true, List.contains_iff_mem]
        exact fun h' => h (.inr ⟨t, ht, h'⟩)
theorem outs_sub (n : Nd) : ∀ t ∈ outs n, t ∈ n.kids := by
  intro t ht
  unfold outs at ht
  split at ht
  · cases ht
  · split at ht
    · exact List.mem_of_mem_take ht
    · exact ht
/-- outside. -/
theorem outside_any (n : Nd) (hok : n.kind = 27 → n.kids ≠ []) (nv : Value) (w : World) (hn : NIn w TT n nv) :
    Calls Tryz.prog 74 #[nv] w fun e w' => ∃ A c, e = .returned (.slice A (outs n).length c) ∧ (outs n).length ≤ c ∧ SIn w' TT (outs n) A ∧ Below w.heap.size w w' := by
  obtain ⟨ia, ic, rfl, hcc, hk⟩ := hn.open
  have hb0 := Lib.hid (alloc_below w (.cells #[.int .i64 n.kind, .int .i64 n.fro, .int .i64 n.till, .int .i64 n.at', .string n.name, .slice ia n.kids.length ic] 24))
  have HS := Lib.hid (hk.below hb0.out)
  clear hk hn
  by_cases h33 : n.kind = 33
  · have HO : Hid (outs n = []) := Lib.hid (by unfold outs; simp [h33])
    generalize n.kind = kd at *
    subst h33
    go_enter Tryz.func74, Tryz.ntmps74
    go_wp2_with fail
    go_ret
    refine ⟨none, 0, ?_, ?_, ?_, hb0.out⟩
    · rw [HO.out]; rfl
    · rw [HO.out]; exact Nat.le_refl _
    · rw [HO.out]; intro h; cases h
  · by_cases h32 : n.kind = 32
    · have HO : Hid (outs n = []) := Lib.hid (by unfold outs; simp [h32])
      generalize n.kind = kd at *
      subst h32
      go_enter Tryz.func74, Tryz.ntmps74
      go_wp2_with fail
      go_ret
      refine ⟨none, 0, ?_, ?_, ?_, hb0.out⟩
      · rw [HO.out]; rfl
      · rw [HO.out]; exact Nat.le_refl _
      · rw [HO.out]; intro h; cases h
    · by_cases h27 : n.kind = 27
      · have HO : Hid (outs n = n.kids.take 1) := Lib.hid (by unfold outs; simp [h27])
        have hlen : 1 ≤ n.kids.length := by
          have := hok h27
          cases hx : n.kids with
          | nil => exact absurd hx this
          | cons a l => simp
        have HL : Hid ((outs n).length = 1) := Lib.hid (by rw [HO.out, List.length_take]; omega)
        have hc1 : 1 ≤ ic := by omega
        clear hok h33 h32
        generalize n.kids.length = m at *
        generalize n.kind = kd at *
        subst h27
        go_enter Tryz.func74, Tryz.ntmps74
        go_wp2_with fail
        go_ret
        refine ⟨ia, ic, ?_, ?_, ?_, hb0.out⟩
        · rw [HL.out]; rfl
        · rw [HL.out]; exact hc1
        · rw [HO.out]; exact HS.out.take 1
      · have HO : Hid (outs n = n.kids) := Lib.hid (by unfold outs; simp [h27, h32, h33])
        have g33 : (n.kind == 33) = false := by simpa using h33
        have g32 : (n.kind == 32) = false := by simpa using h32
        have g27 : (n.kind == 27) = false := by simpa using h27
        clear h33 h32 h27 hok
        go_enter Tryz.func74, Tryz.ntmps74
        go_wp2_with fail
        go_ret
        refine ⟨ia, ic, ?_, ?_, ?_, hb0.out⟩
        · rw [HO.out]; rfl
        · rw [HO.out]; exact hcc
        · rw [HO.out]; exact HS.out
end Go.Proofs.YtkpddjbdmjbefaaGreatDoor
namespace Go.Proofs.YtkpddjbdmjbefaaGreatDoor
open Go.RowKit Go.Shelf
attribute [local go_sem] Oper.semAt_some

/-- A node as it is handed to a round. -/
structure Rw where
  k : Int
  f : Int
  t : Int
  a : Int
  s : ByteArray
  A : Option Addr
  n : Nat
  c : Nat
def Rw.v (x : Rw) : Value := .agg #[.int .i64 x.k, .int .i64 x.f, .int .i64 x.t, .int .i64 x.a, .string x.s, .slice x.A x.n x.c]
def encW (x : Rw) : Array Value := #[.agg #[.int .i64 x.k, .int .i64 x.f, .int .i64 x.t, .int .i64 x.a, .string x.s, .slice x.A x.n x.c]]
theorem room_of_noneA {F : Fence} (hd : F.depth = none) (k : Nat) : F.room k := fun d h => by rw [hd] at h; cases h
theorem RoundIn.anyDepthA {F : Fence} (hd : F.depth = none) {m m' : Nat} {P : Program} {l : Nat} {f : FuncId} {tmps : Array Value} {assign body : Code} {w : World} {R : Ending → World → Prop}
    (h : RoundIn F m P l f tmps assign body w R) : RoundIn F m' P l f tmps assign body w R := ⟨h.1, fun c cs _ => h.2 c cs (room_of_noneA hd _)⟩
theorem YieldAt.anyDepthA {F : Fence} (hd : F.depth = none) {m : Nat} (m' : Nat) {P : Program} {l : Nat} {args : Array Value} {W : World} {R : Ending → World → Prop} (h : YieldAt F m P l args W R) : YieldAt F m' P l args W R := by
  obtain ⟨fn, tmps, assign, body, hy, hR⟩ := h
  exact ⟨fn, tmps, assign, body, hy, RoundIn.anyDepthA hd hR⟩
theorem outs_len (n : Nd) : (outs n).length ≤ n.kids.length := by
  unfold outs
  split
  · exact Nat.zero_le _
  · split
    · rw [List.length_take]; omega
    · exact Nat.le_refl _
def intOfN : Value → Int
  | .int _ x => x
  | _ => 0
def VEnd (J Jx : List Rw → World → Prop) (pre : List Rw) (ks : List Int) (W : World) (e : Ending) (W' : World) : Prop :=
  (e = .returned (.bool true) ∧ ∃ xs : List Rw, xs.map Rw.k = ks ∧ J (pre ++ xs) W' ∧ KC W W') ∨ (e = .returned (.bool false) ∧ ∃ xs : List Rw, xs.map Rw.k <+: ks ∧ Jx (pre ++ xs) W')
set_option maxHeartbeats 4000000 in
set_option maxRecDepth 100000 in
theorem visit_in (l N : Nat) (J Jx : List Rw → World → Prop) (hA : ∀ pre W o, J pre W → J pre (World.alloc W o)) (hB : ∀ pre W W', J pre W → Below W.heap.size W W' → J pre W')
    (hY : ∀ m pre x W, J pre W → pre.length < N → YieldAt Fence.wide m Tryz.prog l (encW x) W fun e W' => (e = .returned (.bool true) ∧ J (pre ++ [x]) W' ∧ KC W W') ∨ (e = .returned (.bool false) ∧ Jx (pre ++ [x]) W')) :
    ∀ (f : Nat) (T : Nd) (nv : Value) (pre : List Rw) (W : World) (n : Nat), sz T ≤ f → sz T ≤ 1000000 → okC f T → NIn W TT T nv → J pre W → pre.length + (vis f T).length ≤ N →
      CallsIn Fence.wide n Tryz.prog 80 #[nv, .func (.func 74) #[] #[], .func (.yield l) #[] #[]] W (VEnd J Jx pre (vis f T) W) := by
  intro f
  induction f with
  | zero => intro T nv pre W n h; have := sz_pos T; omega
  | succ f ih =>
    intro T nv pre W n hsz hsz2 hok hn hJ hN
    obtain ⟨ia, ic, rfl, hcc, hk⟩ := hn.open
    have hkl : T.kids.length ≤ 1000000 := by have := szL_len T.kids; have := sz_eq T; omega
    have hb0 := alloc_below W (.cells #[.int .i64 T.kind, .int .i64 T.fro, .int .i64 T.till, .int .i64 T.at', .string T.name, .slice ia T.kids.length ic] 24)
    have HT := alloc_top W #[.int .i64 T.kind, .int .i64 T.fro, .int .i64 T.till, .int .i64 T.at', .string T.name, .slice ia T.kids.length ic] 24
    have HC0 := Lib.hid (six_cells HT)
    have HN1 := Lib.hid (NIn.shut (n := T) hcc (hk.below hb0))
    have HJ1 := Lib.hid (hA pre W (.cells #[.int .i64 T.kind, .int .i64 T.fro, .int .i64 T.till, .int .i64 T.at', .string T.name, .slice ia T.kids.length ic] 24) hJ)
    have HK1 := Lib.hid (KC.of_below hb0)
    have HIH := Lib.hid ih
    have HYY := Lib.hid hY
    have HOK := Lib.hid hok
    have HAA := Lib.hid hA
    have HBB := Lib.hid hB
    have HSZ := Lib.hid (And.intro hsz hsz2)
    have HNN := Lib.hid hN
    clear HT hk hn hb0 hJ ih hY hok hA hB hcc hN hsz hsz2
    by_cases h0 : T.kind = 0
    · have HV : Hid (vis (f + 1) T = [] ++ (outs T).flatMap (vis f)) := Lib.hid (by rw [vis, if_pos h0])
      have HO := Lib.hid (outside_any T HOK.out.1 _ _ HN1.out)
      have HJc : Hid (J (pre ++ []) (W.alloc (.cells #[.int .i64 T.kind, .int .i64 T.fro, .int .i64 T.till, .int .i64 T.at', .string T.name, .slice ia T.kids.length ic] 24))) := Lib.hid (by rw [List.append_nil]; exact HJ1.out)
      have HKc := HK1
      generalize T.kind = kd at *
      subst h0
      refine callsIn_of_wp Tryz.func80 rfl trivial ?_ rfl
      simp only [Tryz.ntmps80, List.size_toArray, List.length_cons, List.length_nil, Nat.reduceAdd, Nat.reduceSub, Array.replicate_succ, Array.replicate_zero, List.push_toArray, List.append_toArray, List.nil_append, List.cons_append]
      gi_wp2_with fail
      refine ⟨fun _ h => (by cases h), ?_⟩
      generalize W.alloc (.cells #[.int .i64 0, .int .i64 T.fro, .int .i64 T.till, .int .i64 T.at', .string T.name, .slice ia T.kids.length ic] 24) = W1 at *
      obtain ⟨k0, k1, k2, k3, k4, k5⟩ := HC0.out
      gi_wp2_with fail
      clear k0 k1 k2 k3 k4 k5
      refine ⟨trivial, (fun h => by cases h), (callsIn_wide.2 HO.out).mono ?_⟩
      rintro e w2 ⟨A, c, rfl, hc, hs, hb⟩
      have HKc2 := Lib.hid (HKc.out.trans (KC.of_below hb))
      have HJ2 := Lib.hid (HBB.out _ _ _ HJc.out hb)
      have HS2 := Lib.hid hs
      clear hs hb HO HKc HJc
      have hob : (outs T).length ≤ 1000000 := Nat.le_trans (outs_len T) hkl
      generalize hol : (outs T).length = on at *
      have HOL := Lib.hid hol
      gi_wp2_with fail
      gi_loopw [8, 22] (fun v8 v22 wr => ∃ (k : Nat) (xs : List Rw), k ≤ on ∧ v22 = .int .i64 (k : Int) ∧ Hid (xs.map Rw.k = ([] : List Int) ++ ((outs T).take k).flatMap (vis f)) ∧ Hid (J (pre ++ xs) wr) ∧ Hid (KC W wr) ∧ Hid (SIn wr TT (outs T) A)) (fun _ v _ => on - (intOfN v).toNat)
      case atStart => exact ⟨0, [], Nat.zero_le _, rfl, Lib.hid (by simp [List.map_nil]), HJ2, HKc2, HS2⟩
      case round =>
        clear HJ2 HKc2 HS2
        obtain ⟨k, xs, hk, rfl, HX, HJ, HKk, HS⟩ := hrel
        by_cases hlt : k < on
        · have hlt' : k < (outs T).length := by omega
          obtain ⟨t, ht⟩ : ∃ t, (outs T)[k]? = some t := ⟨_, List.getElem?_eq_getElem hlt'⟩
          obtain ⟨b, o, rfl, -, hrow⟩ := HS.out (by omega)
          obtain ⟨ka, kc, d0, d1, d2, d3, d4, d5, dcc, dk⟩ := hrow.row ht
          have htm : t ∈ outs T := List.mem_of_getElem? ht
          have hsz := HSZ.out
          have hkid : sz t < sz T := by
            obtain ⟨i, hi, e⟩ := List.getElem_of_mem (outs_sub T t htm)
            exact sz_kid (i := i) (by rw [List.getElem?_eq_getElem hi, e])
          have hTk : (outs T).take (k + 1) = (outs T).take k ++ [t] := by
            obtain ⟨h1, rfl⟩ := List.getElem?_eq_some_iff.1 ht
            exact List.take_succ_eq_append_getElem h1
          have hba := alloc_below wr (.cells #[.int .i64 t.kind, .int .i64 t.fro, .int .i64 t.till, .int .i64 t.at', .string t.name, .slice ka t.kids.length kc] 24)
          have hvl : (vis (f + 1) T).length = ([] : List Int).length + ((outs T).flatMap (vis f)).length := by rw [HV.out, List.length_append]
          have hfl : ((outs T).flatMap (vis f)).length = (((outs T).take k).flatMap (vis f)).length + (vis f t).length + (((outs T).drop (k + 1)).flatMap (vis f)).length := by
            conv => lhs; rw [← List.take_append_drop (k + 1) (outs T), List.flatMap_append, hTk, List.flatMap_append]
            simp [Nat.add_assoc]
          have hxl : xs.length = ([] : List Int).length + (((outs T).take k).flatMap (vis f)).length := by
            have := congrArg List.length HX.out
            rw [List.length_map, List.length_append] at this
            exact this
          have hNN := HNN.out
          have HI := Lib.hid (fun n => HIH.out t (.agg #[.int .i64 t.kind, .int .i64 t.fro, .int .i64 t.till, .int .i64 t.at', .string t.name, .slice ka t.kids.length kc]) (pre ++ xs) (wr.alloc (.cells #[.int .i64 t.kind, .int .i64 t.fro, .int .i64 t.till, .int .i64 t.at', .string t.name, .slice ka t.kids.length kc] 24)) n (by omega) (by omega) (HOK.out.2 t htm) ((NIn.shut dcc dk).below hba) (HAA.out _ _ _ HJ.out) (by rw [List.length_append]; omega))
          have HKa := Lib.hid (HKk.out.trans (KC.of_below hba))
          have HSa := Lib.hid (SIn.below (W' := wr.alloc (.cells #[.int .i64 t.kind, .int .i64 t.fro, .int .i64 t.till, .int .i64 t.at', .string t.name, .slice ka t.kids.length kc] 24)) HS.out hba)
          have HXT : Hid (∀ ys : List Rw, ys.map Rw.k = vis f t → (xs ++ ys).map Rw.k = ([] : List Int) ++ ((outs T).take (k + 1)).flatMap (vis f)) := Lib.hid (fun ys hy => by rw [List.map_append, HX.out, hy, hTk, List.flatMap_append]; simp)
          have HXP : Hid (∀ ys : List Rw, ys.map Rw.k <+: vis f t → (xs ++ ys).map Rw.k <+: vis (f + 1) T) := Lib.hid (fun ys hy => by
            obtain ⟨r, hr⟩ := hy
            refine ⟨r ++ ((outs T).drop (k + 1)).flatMap (vis f), ?_⟩
            rw [HV.out, List.map_append, HX.out]
            conv => rhs; rw [← List.take_append_drop (k + 1) (outs T), List.flatMap_append, hTk, List.flatMap_append]
            simp [← hr])
          have hklt : (k : Int) < (on : Int) := by omega
          clear hrow dk dcc ht htm hsz hkid hTk hba hvl hfl hxl hNN HX HJ HKk HS hlt' hol
          gi_wp2_with fail
          refine ⟨trivial, (fun h => by cases h), (HI.out _).mono ?_⟩
          rintro e W3 (⟨rfl, ys, hy, hJ3, hK3⟩ | ⟨rfl, ys, hy, hJx⟩)
          · have HX3 := Lib.hid (HXT.out ys hy)
            have HJ3 : Hid (J (pre ++ (xs ++ ys)) W3) := Lib.hid (by rw [← List.append_assoc]; exact hJ3)
            have HK3 := Lib.hid (HKa.out.trans hK3)
            have HS3 := Lib.hid (SIn.kc HSa.out hK3)
            clear hy hJ3 hK3
            gi_wp2_with fail
            refine ⟨⟨k + 1, xs ++ ys, by omega, by go_num, HX3, HJ3, HK3, HS3⟩, ?_⟩
            simp [intOfN]
            omega
          · have HX3 := Lib.hid (HXP.out ys hy)
            have HJ3 : Hid (Jx (pre ++ (xs ++ ys)) W3) := Lib.hid (by rw [← List.append_assoc]; exact hJx)
            clear hy hJx
            gi_wp2_with fail
            go_ret
            exact .inr ⟨rfl, xs ++ ys, HX3.out, HJ3.out⟩
        · have hke : k = on := by omega
          subst hke
          have hklt : ¬ (k : Int) < (k : Int) := by omega
          have HX3 : Hid (xs.map Rw.k = vis (f + 1) T) := Lib.hid (by rw [HX.out, HV.out, ← hol, List.take_length])
          clear hol HX
          gi_wp2_with fail
          go_ret
          exact .inl ⟨rfl, xs, HX3.out, HJ.out, HKk.out⟩
    · have HV : Hid (vis (f + 1) T = [T.kind] ++ (outs T).flatMap (vis f)) := Lib.hid (by rw [vis, if_neg h0])
      have g0 : (T.kind != 0) = true := by simpa using h0
      have hlt0 : pre.length < N := by
        have := HNN.out
        rw [HV.out, List.length_append, List.length_singleton] at this
        omega
      obtain ⟨fn, tmps, assign, body, hy, hR⟩ := HYY.out (n - 1) pre ⟨T.kind, T.fro, T.till, T.at', T.name, ia, T.kids.length, ic⟩ _ HJ1.out hlt0
      have HR := Lib.hid hR
      unfold encW at hy
      clear hR hlt0 h0
      refine callsIn_of_wp Tryz.func80 rfl trivial ?_ rfl
      simp only [Tryz.ntmps80, List.size_toArray, List.length_cons, List.length_nil, Nat.reduceAdd, Nat.reduceSub, Array.replicate_succ, Array.replicate_zero, List.push_toArray, List.append_toArray, List.nil_append, List.cons_append]
      gi_wp2_with fail
      refine ⟨(fun h => by cases h), HR.out.mono ?_⟩
      rintro e W1 (⟨rfl, hJ2, hK2⟩ | ⟨rfl, hJx⟩)
      · have HKc := Lib.hid (HK1.out.trans hK2)
        have HJc := Lib.hid hJ2
        have HO := Lib.hid (outside_any T HOK.out.1 _ W1 (NIn.cells (fun _ _ _ h => hK2.cell h) _ _ HN1.out))
        have k0 := hK2.cell HC0.out.1
        have k1 := hK2.cell HC0.out.2.1
        have k2 := hK2.cell HC0.out.2.2.1
        have k3 := hK2.cell HC0.out.2.2.2.1
        have k4 := hK2.cell HC0.out.2.2.2.2.1
        have k5 := hK2.cell HC0.out.2.2.2.2.2
        clear hJ2 hK2 HR hy
        gi_wp2_with fail
        clear k0 k1 k2 k3 k4 k5
        refine ⟨trivial, (fun h => by cases h), (callsIn_wide.2 HO.out).mono ?_⟩
        rintro e w2 ⟨A, c, rfl, hc, hs, hb⟩
        have HKc2 := Lib.hid (HKc.out.trans (KC.of_below hb))
        have HJ2 := Lib.hid (HBB.out _ _ _ HJc.out hb)
        have HS2 := Lib.hid hs
        clear hs hb HO HKc HJc
        have hob : (outs T).length ≤ 1000000 := Nat.le_trans (outs_len T) hkl
        generalize hol : (outs T).length = on at *
        have HOL := Lib.hid hol
        gi_wp2_with fail
        gi_loopw [8, 22] (fun v8 v22 wr => ∃ (k : Nat) (xs : List Rw), k ≤ on ∧ v22 = .int .i64 (k : Int) ∧ Hid (xs.map Rw.k = [T.kind] ++ ((outs T).take k).flatMap (vis f)) ∧ Hid (J (pre ++ xs) wr) ∧ Hid (KC W wr) ∧ Hid (SIn wr TT (outs T) A)) (fun _ v _ => on - (intOfN v).toNat)
        case atStart => exact ⟨0, [⟨T.kind, T.fro, T.till, T.at', T.name, ia, T.kids.length, ic⟩], Nat.zero_le _, rfl, Lib.hid (by simp [List.map_cons, List.map_nil]), HJ2, HKc2, HS2⟩
        case round =>
          clear HJ2 HKc2 HS2
          obtain ⟨k, xs, hk, rfl, HX, HJ, HKk, HS⟩ := hrel
          by_cases hlt : k < on
          · have hlt' : k < (outs T).length := by omega
            obtain ⟨t, ht⟩ : ∃ t, (outs T)[k]? = some t := ⟨_, List.getElem?_eq_getElem hlt'⟩
            obtain ⟨b, o, rfl, -, hrow⟩ := HS.out (by omega)
            obtain ⟨ka, kc, d0, d1, d2, d3, d4, d5, dcc, dk⟩ := hrow.row ht
            have htm : t ∈ outs T := List.mem_of_getElem? ht
            have hsz := HSZ.out
            have hkid : sz t < sz T := by
              obtain ⟨i, hi, e⟩ := List.getElem_of_mem (outs_sub T t htm)
              exact sz_kid (i := i) (by rw [List.getElem?_eq_getElem hi, e])
            have hTk : (outs T).take (k + 1) = (outs T).take k ++ [t] := by
              obtain ⟨h1, rfl⟩ := List.getElem?_eq_some_iff.1 ht
              exact List.take_succ_eq_append_getElem h1
            have hba := alloc_below wr (.cells #[.int .i64 t.kind, .int .i64 t.fro, .int .i64 t.till, .int .i64 t.at', .string t.name, .slice ka t.kids.length kc] 24)
            have hvl : (vis (f + 1) T).length = [T.kind].length + ((outs T).flatMap (vis f)).length := by rw [HV.out, List.length_append]
            have hfl : ((outs T).flatMap (vis f)).length = (((outs T).take k).flatMap (vis f)).length + (vis f t).length + (((outs T).drop (k + 1)).flatMap (vis f)).length := by
              conv => lhs; rw [← List.take_append_drop (k + 1) (outs T), List.flatMap_append, hTk, List.flatMap_append]
              simp [Nat.add_assoc]
            have hxl : xs.length = [T.kind].length + (((outs T).take k).flatMap (vis f)).length := by
              have := congrArg List.length HX.out
              rw [List.length_map, List.length_append] at this
              exact this
            have hNN := HNN.out
            have HI := Lib.hid (fun n => HIH.out t (.agg #[.int .i64 t.kind, .int .i64 t.fro, .int .i64 t.till, .int .i64 t.at', .string t.name, .slice ka t.kids.length kc]) (pre ++ xs) (wr.alloc (.cells #[.int .i64 t.kind, .int .i64 t.fro, .int .i64 t.till, .int .i64 t.at', .string t.name, .slice ka t.kids.length kc] 24)) n (by omega) (by omega) (HOK.out.2 t htm) ((NIn.shut dcc dk).below hba) (HAA.out _ _ _ HJ.out) (by rw [List.length_append]; omega))
            have HKa := Lib.hid (HKk.out.trans (KC.of_below hba))
            have HSa := Lib.hid (SIn.below (W' := wr.alloc (.cells #[.int .i64 t.kind, .int .i64 t.fro, .int .i64 t.till, .int .i64 t.at', .string t.name, .slice ka t.kids.length kc] 24)) HS.out hba)
            have HXT : Hid (∀ ys : List Rw, ys.map Rw.k = vis f t → (xs ++ ys).map Rw.k = [T.kind] ++ ((outs T).take (k + 1)).flatMap (vis f)) := Lib.hid (fun ys hy => by rw [List.map_append, HX.out, hy, hTk, List.flatMap_append]; simp)
            have HXP : Hid (∀ ys : List Rw, ys.map Rw.k <+: vis f t → (xs ++ ys).map Rw.k <+: vis (f + 1) T) := Lib.hid (fun ys hy => by
              obtain ⟨r, hr⟩ := hy
              refine ⟨r ++ ((outs T).drop (k + 1)).flatMap (vis f), ?_⟩
              rw [HV.out, List.map_append, HX.out]
              conv => rhs; rw [← List.take_append_drop (k + 1) (outs T), List.flatMap_append, hTk, List.flatMap_append]
              simp [← hr])
            have hklt : (k : Int) < (on : Int) := by omega
            clear hrow dk dcc ht htm hsz hkid hTk hba hvl hfl hxl hNN HX HJ HKk HS hlt' hol
            gi_wp2_with fail
            refine ⟨trivial, (fun h => by cases h), (HI.out _).mono ?_⟩
            rintro e W3 (⟨rfl, ys, hy, hJ3, hK3⟩ | ⟨rfl, ys, hy, hJx⟩)
            · have HX3 := Lib.hid (HXT.out ys hy)
              have HJ3 : Hid (J (pre ++ (xs ++ ys)) W3) := Lib.hid (by rw [← List.append_assoc]; exact hJ3)
              have HK3 := Lib.hid (HKa.out.trans hK3)
              have HS3 := Lib.hid (SIn.kc HSa.out hK3)
              clear hy hJ3 hK3
              gi_wp2_with fail
              refine ⟨⟨k + 1, xs ++ ys, by omega, by go_num, HX3, HJ3, HK3, HS3⟩, ?_⟩
              simp [intOfN]
              omega
            · have HX3 := Lib.hid (HXP.out ys hy)
              have HJ3 : Hid (Jx (pre ++ (xs ++ ys)) W3) := Lib.hid (by rw [← List.append_assoc]; exact hJx)
              clear hy hJx
              gi_wp2_with fail
              go_ret
              exact .inr ⟨rfl, xs ++ ys, HX3.out, HJ3.out⟩
          · have hke : k = on := by omega
            subst hke
            have hklt : ¬ (k : Int) < (k : Int) := by omega
            have HX3 : Hid (xs.map Rw.k = vis (f + 1) T) := Lib.hid (by rw [HX.out, HV.out, ← hol, List.take_length])
            clear hol HX
            gi_wp2_with fail
            go_ret
            exact .inl ⟨rfl, xs, HX3.out, HJ.out, HKk.out⟩
      · have HX3 : Hid ([T.kind] <+: vis (f + 1) T) := Lib.hid (by rw [HV.out]; exact List.prefix_append ..)
        have HJx := Lib.hid hJx
        clear hJx HR hy
        gi_wp2_with fail
        go_ret
        exact .inr ⟨rfl, [⟨T.kind, T.fro, T.till, T.at', T.name, ia, T.kids.length, ic⟩], HX3.out, HJx.out⟩
end Go.Proofs.YtkpddjbdmjbefaaGreatDoor
namespace Go.Proofs.YtkpddjbdmjbefaaGreatDoor
open Go.RowKit Go.Shelf
attribute [local go_sem] Oper.semAt_some

theorem grown_of_belowA {W W' : World} (h : Below W.heap.size W W') : W.grownBy W' none := ⟨h.os, h.tape, h.output, h.size, fun k hk _ => h.block k hk⟩
theorem heap_ltA {W : World} {k : Nat} {o : Obj} (h : W.heap[k]? = some o) : k < W.heap.size := (Array.getElem?_eq_some_iff.1 h).1
theorem grown_cellsA {W W' : World} {row : Option Nat} (hg : W.grownBy W' row) (hr : ∀ r, row = some r → ∃ o : Obj, W.heap[r]? = some o ∧ o.isCells = false) (k : Nat) (x : Obj) (hk : W.heap[k]? = some x) (hx : x.isCells = true) : W'.heap[k]? = some x := by
  refine (hg.block k (heap_ltA hk) ?_).trans hk
  intro e
  obtain ⟨o', h1, h2⟩ := hr k e.symm
  rw [hk] at h1
  injection h1 with h1
  subst h1
  rw [hx] at h2
  cases h2
set_option maxHeartbeats 4000000 in
set_option maxRecDepth 100000 in
theorem nodes_seq (n f : Nat) (T : Nd) (c0 c1 c2 c3 c4 c5 : Value) (Bn Bb : Nat) (w : World) (hsz : sz T ≤ f) (hsz2 : sz T ≤ 1000000) (hok : okC f T) (hT : NIn w TT T (.agg #[c0, c1, c2, c3, c4, c5]))
    (hBn : w.heap[Bn]? = some (.cells #[c0, c1, c2, c3, c4, c5] 24 (0, 0))) (hBb : w.heap[Bb]? = some (.cells #[.func (.func 74) #[] #[]] 70 (0, 0))) :
    SeqStopsK Fence.wide n Tryz.prog 79 #[.pointer (some ⟨Bn, 0, none⟩), .pointer (some ⟨Bb, 0, none⟩)] encW KC (fun xs => xs.map Rw.k = vis f T) (fun pre => pre.map Rw.k <+: vis f T) (vis f T).length w := by
  intro l J Jx W hbW hAJ hAJx hY h0
  obtain ⟨k0, k1, k2, k3, k4, k5⟩ := six_cells ((hbW.block _ (heap_ltA hBn)).trans hBn)
  have kb : W.cell? ⟨Bb, 0, none⟩ = some (.func (.func 74) #[] #[]) := by
    unfold World.cell?
    simp only [(hbW.block _ (heap_ltA hBb)).trans hBb]
    rfl
  have HV := Lib.hid (visit_in l (vis f T).length J Jx (fun pre W o h => hAJ pre W _ none h (World.grownBy_alloc W o none) (fun r e => by cases e)) (fun pre W W' h hb => hAJ pre W W' none h (grown_of_belowA hb) (fun r e => by cases e))
    (fun m pre x W hj hl => YieldAt.anyDepthA rfl m (hY pre x W hj hl)) f T (.agg #[c0, c1, c2, c3, c4, c5]) [] W (n - 1) hsz hsz2 hok (hT.below hbW) h0 (by simp))
  clear hAJ hAJx hY h0 hT hBn hBb hbW hok
  refine callsIn_of_wp Tryz.func79 rfl trivial ?_ rfl
  simp only [Tryz.ntmps79, List.size_toArray, List.length_cons, List.length_nil, Nat.reduceAdd, Nat.reduceSub, Array.replicate_succ, Array.replicate_zero, List.push_toArray, List.append_toArray, List.nil_append, List.cons_append]
  gi_wp2_with fail
  refine ⟨trivial, (fun h => by cases h), HV.out.mono ?_⟩
  rintro e W1 (⟨rfl, xs, hx, hJ, hK⟩ | ⟨rfl, xs, hx, hJ⟩)
  · have HJ := Lib.hid hJ
    clear hJ hK HV
    gi_wp2_with fail
    go_end0
    exact ⟨⟨_, rfl⟩, .inl ⟨xs, hx, HJ.out⟩⟩
  · have HJ := Lib.hid hJ
    clear hJ HV
    gi_wp2_with fail
    go_end0
    exact ⟨⟨_, rfl⟩, .inr ⟨xs, hx, HJ.out⟩⟩
theorem nodes_any (nv : Value) (c0 c1 c2 c3 c4 c5 : Value) (w : World) (hv : nv = .agg #[c0, c1, c2, c3, c4, c5]) :
    Calls Tryz.prog 73 #[nv, .func (.func 74) #[] #[]] w fun e w' => e = .returned (.func (.func 79) #[] #[.pointer (some ⟨w.heap.size, 0, none⟩), .pointer (some ⟨w.heap.size + 1, 0, none⟩)]) ∧
      w' = (w.alloc (.cells #[c0, c1, c2, c3, c4, c5] 24)).alloc (.cells #[.func (.func 74) #[] #[]] 70) := by
  subst hv
  have hmf : ∀ (fn : Fn) (first cap : Array Value) (w : World), (Instr.makeFunc fn first cap).run Tryz.prog w = .ok (.func fn first cap) w := fun _ _ _ _ => rfl
  go_enter Tryz.func73, Tryz.ntmps73
  go_wp2_with fail
  go_ret
  exact ⟨rfl, rfl⟩
set_option maxHeartbeats 4000000 in
set_option maxRecDepth 100000 in
theorem ofHead1_any {D : Nd → Prop} {σ : Nd → Bool} (f : Nat) (T : Nd) (nv : Value) (Bs : Nat) (gs : FuncId) (caps : Array Value) (w : World) (hsz : sz T ≤ f) (hsz2 : sz T ≤ 1000000) (hD : D T) (hok : σ T = true → okC f T) (hn : NIn w TT T nv)
    (hBs : w.cell? ⟨Bs, 0, none⟩ = some (.func (.func gs) #[] caps)) (hs : FnV D w (.func (.func gs) #[] caps) σ) :
    Calls Tryz.prog 72 #[nv, .pointer (some ⟨Bs, 0, none⟩)] w fun e w' => e = .returned (.bool (σ T && bare f T)) ∧ Below w.heap.size w w' := by
  obtain ⟨ia, ic, rfl, hcc, hk⟩ := hn.open
  obtain ⟨g', cap', he, eg, hc⟩ := hs
  simp only [Value.func.injEq, Fn.func.injEq, true_and] at he
  obtain ⟨rfl, rfl⟩ := he
  have eg' : ∀ (args : Array Value) (w : World), (callFunc gs args).run Tryz.prog w = .ok (.enter gs args) w := eg
  have hb1 := alloc_below w (.cells #[.int .i64 T.kind, .int .i64 T.fro, .int .i64 T.till, .int .i64 T.at', .string T.name, .slice ia T.kids.length ic] 24)
  have hT1 := alloc_top w #[.int .i64 T.kind, .int .i64 T.fro, .int .i64 T.till, .int .i64 T.at', .string T.name, .slice ia T.kids.length ic] 24
  have hz1 : (w.alloc (.cells #[.int .i64 T.kind, .int .i64 T.fro, .int .i64 T.till, .int .i64 T.at', .string T.name, .slice ia T.kids.length ic] 24)).heap.size = w.heap.size + 1 := World.size_alloc ..
  generalize hW1 : w.alloc (.cells #[.int .i64 T.kind, .int .i64 T.fro, .int .i64 T.till, .int .i64 T.at', .string T.name, .slice ia T.kids.length ic] 24) = W1 at hb1 hT1 hz1
  have hb2 := alloc_below W1 (.cells #[.bool false] 4)
  have hT2 := alloc_top W1 #[.bool false] 4
  rw [hz1] at hT2
  generalize hW2 : W1.alloc (.cells #[.bool false] 4) = W2 at hb2 hT2
  have hb12 := hb1.trans (hb2.mono hb1.size)
  have hT1' := (hb2.block _ (heap_ltA hT1)).trans hT1
  have HC := Lib.hid (hc W2 hb12 T _ hD (NIn.shut hcc (hk.below hb12)))
  have HB2 := Lib.hid hb12
  have HT1 := Lib.hid hT1'
  have HT2 := Lib.hid hT2
  have HKS := Lib.hid (hk.below hb12)
  have HOK := Lib.hid hok
  have HCC := Lib.hid hcc
  have HSZ := Lib.hid (And.intro hsz hsz2)
  have hWW : ((w.alloc (.cells #[.int .i64 T.kind, .int .i64 T.fro, .int .i64 T.till, .int .i64 T.at', .string T.name, .slice ia T.kids.length ic] 24)).alloc (.cells #[.bool false] 4)) = W2 := by rw [hW1, hW2]
  have kBs : ((w.alloc (.cells #[.int .i64 T.kind, .int .i64 T.fro, .int .i64 T.till, .int .i64 T.at', .string T.name, .slice ia T.kids.length ic] 24)).alloc (.cells #[.bool false] 4)).cell? ⟨Bs, 0, none⟩ = some (.func (.func gs) #[] caps) := by rw [hWW]; exact cell_kept hBs rfl hb12
  have HWW := Lib.hid hWW
  clear hc hk hb1 hb2 hT1 hT2 hT1' hok hBs hn hW1 hW2 hz1 hb12 hWW hcc hsz hsz2
  cases hq : σ T with
  | false =>
    rw [hq] at HC
    rw [Bool.false_and]
    clear hq
    refine (callsIn_wide (n := 9)).1 ?_
    refine callsIn_of_wp_marks Tryz.func72 rfl trivial ?_ rfl
    simp only [Tryz.ntmps72, List.size_toArray, List.length_cons, List.length_nil, Nat.reduceAdd, Nat.reduceSub, Array.replicate_succ, Array.replicate_zero, List.push_toArray, List.append_toArray, List.nil_append, List.cons_append]
    gi_wp2_with fail
    rw [HWW.out]
    refine ⟨trivial, (callsIn_wide.2 HC.out).mono ?_⟩
    rintro e w3 ⟨rfl, hb⟩
    have hR := cell_at (o := 0) ((hb.block _ (heap_ltA HT2.out)).trans HT2.out)
    have hF := frozen_of_row w3 (w.heap.size + 1) 0 _ _ ((hb.block _ (heap_ltA HT2.out)).trans HT2.out)
    have HB3 := Lib.hid (HB2.out.trans (hb.mono HB2.out.size))
    clear hb kBs HC
    gi_wp2_with fail
    have hc5 : (w3.setCell ⟨w.heap.size + 1, 0, none⟩ (.bool false)).cell? ⟨w.heap.size + 1, 0, none⟩ = some (.bool false) := World.cell?_setCell_same _ _ _ hR
    refine ⟨.bool false, ?_, rfl, HB3.out.setCell (p := ⟨w.heap.size + 1, 0, none⟩) (by simp) _⟩
    simp [results, go_sem, hc5]
  | true =>
    rw [hq] at HC
    rw [Bool.true_and]
    have HOK2 := Lib.hid (HOK.out hq)
    clear hq HOK
    refine (callsIn_wide (n := 9)).1 ?_
    refine callsIn_of_wp_marks Tryz.func72 rfl trivial ?_ rfl
    simp only [Tryz.ntmps72, List.size_toArray, List.length_cons, List.length_nil, Nat.reduceAdd, Nat.reduceSub, Array.replicate_succ, Array.replicate_zero, List.push_toArray, List.append_toArray, List.nil_append, List.cons_append]
    gi_wp2_with fail
    rw [HWW.out]
    refine ⟨trivial, (callsIn_wide.2 HC.out).mono ?_⟩
    rintro e w3 ⟨rfl, hb⟩
    have HB3 := Lib.hid (HB2.out.trans (hb.mono HB2.out.size))
    have HR3 := Lib.hid ((hb.block _ (heap_ltA HT2.out)).trans HT2.out)
    have HK3 := Lib.hid (HKS.out.below hb)
    have hT3 := (hb.block _ (heap_ltA HT1.out)).trans HT1.out
    obtain ⟨k0, k1, k2, k3, k4, k5⟩ := six_cells hT3
    have HSW : Hid (w.heap.size + 1 < w3.heap.size) := Lib.hid (heap_ltA HR3.out)
    clear hb kBs HC HWW HT1 HT2 HB2 HKS hT3
    gi_wp2_with fail
    refine ⟨trivial, (callsIn_wide.2 (nodes_any _ _ _ _ _ _ _ w3 rfl)).mono ?_⟩
    rintro e w4 ⟨rfl, rfl⟩
    clear k0 k1 k2 k3 k4 k5
    have hb4 := alloc_below w3 (.cells #[.int .i64 T.kind, .int .i64 T.fro, .int .i64 T.till, .int .i64 T.at', .string T.name, .slice ia T.kids.length ic] 24)
    have hn4 := alloc_top w3 #[.int .i64 T.kind, .int .i64 T.fro, .int .i64 T.till, .int .i64 T.at', .string T.name, .slice ia T.kids.length ic] 24
    have hz4 : (w3.alloc (.cells #[.int .i64 T.kind, .int .i64 T.fro, .int .i64 T.till, .int .i64 T.at', .string T.name, .slice ia T.kids.length ic] 24)).heap.size = w3.heap.size + 1 := World.size_alloc ..
    generalize w3.alloc (.cells #[.int .i64 T.kind, .int .i64 T.fro, .int .i64 T.till, .int .i64 T.at', .string T.name, .slice ia T.kids.length ic] 24) = w4 at *
    have hb5 := alloc_below w4 (.cells #[.func (.func 74) #[] #[]] 70)
    have hn5 := alloc_top w4 #[.func (.func 74) #[] #[]] 70
    rw [hz4] at hn5
    generalize w4.alloc (.cells #[.func (.func 74) #[] #[]] 70) = w5 at *
    have hb45 := hb4.trans (hb5.mono hb4.size)
    have hsq := nodes_seq 8 f T _ _ _ _ _ _ w3.heap.size (w3.heap.size + 1) w5 HSZ.out.1 HSZ.out.2 HOK2.out (NIn.shut HCC.out (HK3.out.below hb45)) ((hb5.block _ (heap_ltA hn4)).trans hn4) hn5
    have HR5 : w5.heap[w.heap.size + 1]? = some (.cells #[.bool false] 4 (0, 0)) := (hb45.block _ (heap_ltA HR3.out)).trans HR3.out
    have HB5 : Below w.heap.size w w5 := HB3.out.trans (hb45.mono HB3.out.size)
    generalize hWS : w3.heap.size = WS at *
    gi_wp2_with fail
    refine wpIn_rangeFunc_ownH rfl (by omega) (gf := 79) (lb := #[.pointer (some ⟨WS, 0, none⟩), .pointer (some ⟨WS + 1, 0, none⟩)]) rfl trivial (enters_of Tryz.func79 (by kernel_rfl) rfl)
      hsq (fun h k => h.trans k) (fun W l o o' _ h hc _ => KC.put W l o o' h hc) (Below.refl _ _) (fun _ => rfl)
      (fun pre W => ((∀ x ∈ pre, x.k ≠ 28) ∧ W.heap[w.heap.size + 1]? = some (.cells #[.bool false] 4 (0, 0))) ∧ Below w.heap.size w W)
      (fun c pre W => ((c = .ret ∧ ∃ x ∈ pre, x.k = 28) ∧ W.heap[w.heap.size + 1]? = some (.cells #[.bool false] 4 (0, 0))) ∧ Below w.heap.size w W)
      ?own (fun c => ?ownx) ⟨⟨(fun x hx => by cases hx), HR5⟩, HB5⟩
      (fun x a' W => ∃ Bx, w.heap.size + 1 < Bx ∧ W.heap[Bx]? = some (.cells #[.int .i64 x.k, .int .i64 x.f, .int .i64 x.t, .int .i64 x.a, .string x.s, .slice x.A x.n x.c] 24 (0, 0)) ∧ a' = { tmps := #[.agg #[.int .i64 T.kind, .int .i64 T.fro, .int .i64 T.till, .int .i64 T.at', .string T.name, .slice ia T.kids.length ic], .pointer (some ⟨Bs, 0, none⟩), .pointer (some ⟨w.heap.size, 0, none⟩), .pointer (some ⟨w.heap.size + 1, 0, none⟩), .pointer (some ⟨Bx, 0, none⟩), .func (.func gs) #[] caps, .agg #[.int .i64 T.kind, .int .i64 T.fro, .int .i64 T.till, .int .i64 T.at', .string T.name, .slice ia T.kids.length ic], .bool true, .bool false, .agg #[.int .i64 T.kind, .int .i64 T.fro, .int .i64 T.till, .int .i64 T.at', .string T.name, .slice ia T.kids.length ic], .func (.func 79) #[] #[.pointer (some ⟨WS, 0, none⟩), .pointer (some ⟨WS + 1, 0, none⟩)], (.agg #[.int .i64 x.k, .int .i64 x.f, .int .i64 x.t, .int .i64 x.a, .string x.s, .slice x.A x.n x.c]), undef, undef, undef], defers := [] })
      ?hax ?assign ?body ?done ?stop
    case own =>
      rintro pre W W' row ⟨⟨hp, hc⟩, hb⟩ hg hr
      exact ⟨⟨hp, grown_cellsA hg (fun r e => (hr r e).2) _ _ hc rfl⟩, hb.grown hg hb.size (fun k e => Nat.le_trans HB5.size (hr k e).1)⟩
    case ownx =>
      rintro pre W W' row ⟨⟨hp, hc⟩, hb⟩ hg hr
      exact ⟨⟨hp, grown_cellsA hg (fun r e => (hr r e).2) _ _ hc rfl⟩, hb.grown hg hb.size (fun k e => Nat.le_trans HB5.size (hr k e).1)⟩
    case hax =>
      rintro x a' _ W W' row ⟨Bx, h1, h2, h3⟩ hg hr
      exact ⟨Bx, h1, grown_cellsA hg (fun r e => (hr r e).2) _ _ h2 rfl, h3⟩
    case assign =>
      rintro l pre x W K ⟨⟨hp, hc⟩, hb⟩ hK
      unfold encW
      have HC9 := Lib.hid hc
      have HB9 := Lib.hid hb
      have HP9 := Lib.hid hp
      clear hc hb hp
      gi_wp2
      have hba := alloc_below W (.cells #[.int .i64 x.k, .int .i64 x.f, .int .i64 x.t, .int .i64 x.a, .string x.s, .slice x.A x.n x.c] 24)
      refine hK _ _ ((KeepsOthers.alloc _ _).from _) (KC.of_below hba) ⟨⟨HP9.out, heap_keep hba HC9.out⟩, HB9.out.trans (hba.mono HB9.out.size)⟩ ⟨W.heap.size, heap_ltA HC9.out, alloc_top W _ _, rfl⟩
    case body =>
      rintro l pre x a' W hl hr ⟨⟨hp, hc⟩, hb⟩ ⟨Bx, hBx, hx, rfl⟩ hlt
      obtain ⟨k0, k1, k2, k3, k4, k5⟩ := six_cells hx
      have cR := cell_at (o := 0) hc
      have fR := frozen_of_row W (w.heap.size + 1) 0 _ _ hc
      have HC9 := Lib.hid hc
      have HB9 := Lib.hid hb
      have HP9 := Lib.hid hp
      clear hc hb hp hx hl hr hlt
      by_cases h28 : x.k = 28
      · have HX28 := Lib.hid h28
        have g28 : (x.k == 28) = true := by simpa using h28
        clear h28
        gi_wp2
        exact ⟨(KeepsOthers.setCell _ _ _).from _, ⟨⟨rfl, x, by simp, HX28.out⟩, heap_setCell_same W (w.heap.size + 1) 0 _ _ _ HC9.out⟩, HB9.out.setCell (p := ⟨w.heap.size + 1, 0, none⟩) (by simp) _⟩
      · have HX28 := Lib.hid h28
        have g28 : (x.k == 28) = false := by simpa using h28
        clear h28
        gi_wp2
        refine ⟨(KeepsOthers.refl _).from _, KC.refl _, ⟨fun y hy => ?_, HC9.out⟩, HB9.out⟩
        rcases List.mem_append.1 hy with h | h
        · exact HP9.out y h
        · rw [List.mem_singleton] at h
          rw [h]
          exact HX28.out
    case done =>
      rintro D xs W hD hxs ⟨⟨hp, hc⟩, hb⟩ hK
      have cR := cell_at (o := 0) hc
      have fR := frozen_of_row W (w.heap.size + 1) 0 _ _ hc
      have HB9 := Lib.hid hb
      have HP9 : Hid (bare f T = true) := Lib.hid (by
        rw [bare_vis, ← hxs, Bool.not_eq_true', ← Bool.not_eq_true, List.contains_iff_mem, List.mem_map]
        rintro ⟨x, hx, e⟩
        exact hp x hx e)
      clear hb hp hxs hc
      gi_wp2
      have hK' := (KeepsOthers.setCell W ⟨w.heap.size + 1, 0, none⟩ (.bool true)).same D _ hK rfl
      refine ⟨by simp, .inl ⟨_, _, rfl, run_takeDeferred hK', ?_⟩⟩
      have hc5 := _root_.Go.cell_kept (World.cell?_setCell_same _ _ (.bool true) cR) (grownBy_putObj' _ D (.deferred none)) (fun r e => by cases e; exact ⟨_, hK', rfl⟩)
      refine ⟨.bool true, ?_, by rw [HP9.out], (HB9.out.setCell (p := ⟨w.heap.size + 1, 0, none⟩) (by simp) _).trans (belowK_b (w := w) (Nat.le_refl _) _ D _ _ (by have := HB5.size; omega) hK' rfl rfl)⟩
      simp [results, go_sem, hc5]
    case stop =>
      rintro D c pre W hD hpre ⟨⟨⟨rfl, x, hx, hxk⟩, hc⟩, hb⟩ hK
      have HB9 := Lib.hid hb
      have HP9 : Hid (bare f T = false) := Lib.hid (by
        rw [bare_vis, Bool.not_eq_false', List.contains_iff_mem]
        exact hpre.subset (List.mem_map.2 ⟨x, hx, hxk⟩))
      have cR := cell_at (o := 0) hc
      clear hb hc hpre hx hxk
      gi_wp2
      refine ⟨by simp, .inl ⟨_, _, rfl, run_takeDeferred hK, ?_⟩⟩
      have hc5 := _root_.Go.cell_kept cR (grownBy_putObj' _ D (.deferred none)) (fun r e => by cases e; exact ⟨_, hK, rfl⟩)
      refine ⟨.bool false, ?_, by rw [HP9.out], HB9.out.trans (belowK_b (w := w) (Nat.le_refl _) W D _ _ (by have := HB5.size; omega) hK rfl rfl)⟩
      simp [results, go_sem, hc5]
end Go.Proofs.YtkpddjbdmjbefaaGreatDoor
namespace Go.Proofs.YtkpddjbdmjbefaaGreatDoor
open Go.RowKit
variable {tk : Int → ByteArray → Bool}

def Good (tk : Int → ByteArray → Bool) (t : Nd) : Prop := ∃ f c, shp tk f c t = true ∧ c ≠ .var ∧ ∀ k own, c = .typed k own → k ≠ 27
def PartG (tk : Int → ByteArray → Bool) (p : List Nd → Option (List Nd)) : Prop := ∀ l r, p l = some r → ∀ t ∈ l, t ∈ r ∨ Good tk t
theorem partG_one {ss : List (Nd → Bool)} (h : ∀ s ∈ ss, ∀ t, s t = true → Good tk t) : PartG tk (oneP ss) := by
  intro l r hr t ht
  cases l with
  | nil => cases ht
  | cons n l =>
    unfold oneP at hr
    dsimp only at hr
    by_cases hc : (ss.any fun s => s n) = true
    · rw [if_pos hc] at hr
      obtain rfl : l = r := by simpa using hr
      rcases List.mem_cons.1 ht with rfl | ht
      · obtain ⟨s, hs, h1⟩ := List.any_eq_true.1 hc
        exact .inr (h s hs t h1)
      · exact .inl ht
    · rw [if_neg hc] at hr
      cases hr
theorem partG_many {s : Nd → Bool} (h : ∀ t, s t = true → Good tk t) : PartG tk (manyP s) := by
  intro l r hr t ht
  unfold manyP at hr
  obtain rfl : l.dropWhile s = r := by simpa using hr
  clear hr
  induction l with
  | nil => cases ht
  | cons n l ih =>
    rw [List.dropWhile_cons]
    by_cases hs : s n = true
    · rw [if_pos hs]
      rcases List.mem_cons.1 ht with rfl | ht
      · exact .inr (h t hs)
      · exact ih ht
    · rw [if_neg hs]
      exact .inl ht
theorem goP_good : ∀ {ps : List (List Nd → Option (List Nd))}, (∀ p ∈ ps, PartG tk p) → ∀ {l r : List Nd}, goP ps l = some r → ∀ t ∈ l, t ∈ r ∨ Good tk t
  | [], _, l, r, h, t, ht => by
    rw [goP] at h
    obtain rfl : l = r := by simpa using h
    exact .inl ht
  | p :: ps, hp, l, r, h, t, ht => by
    rw [goP] at h
    cases hx : p l with
    | none => rw [hx] at h; cases h
    | some m =>
      rw [hx] at h
      rcases hp p (List.mem_cons_self ..) l m hx t ht with h1 | h1
      · exact goP_good (fun q hq => hp q (List.mem_cons_of_mem _ hq)) h t h1
      · exact .inr h1
theorem madeP_good {n : Nd} {m : ByteArray → Bool} {ps : List (List Nd → Option (List Nd))} (hp : ∀ p ∈ ps, PartG tk p) (h : madeP n m ps = true) : ∀ t ∈ n.kids, Good tk t := by
  unfold madeP at h
  rw [Bool.and_eq_true] at h
  cases hg : goP ps n.kids with
  | none => rw [hg] at h; simp [doneP] at h
  | some r =>
    cases r with
    | nil =>
      intro t ht
      rcases goP_good hp hg t ht with h1 | h1
      · cases h1
      · exact h1
    | cons a r => rw [hg] at h; simp [doneP] at h
theorem madeP_first {n : Nd} {m : ByteArray → Bool} {ss : List (Nd → Bool)} {ps : List (List Nd → Option (List Nd))} (h : madeP n m (oneP ss :: ps) = true) : n.kids ≠ [] := by
  intro e
  unfold madeP at h
  rw [e, goP] at h
  simp [oneP, doneP] at h
theorem g1 {f : Nat} {c : Sc} {t : Nd} (h : shp tk f c t = true) (h1 : c ≠ .var := by intro e; cases e) (h2 : ∀ k own, c = .typed k own → k ≠ 27 := by intro k own e; first | (cases e; done) | (cases e; decide)) : Good tk t := ⟨f, c, h, h1, h2⟩
theorem g2 {f g : Nat} {c : Sc} {t : Nd} (h : (shp tk f c t && bare g t) = true) (h1 : c ≠ .var := by intro e; cases e) (h2 : ∀ k own, c = .typed k own → k ≠ 27 := by intro k own e; first | (cases e; done) | (cases e; decide)) : Good tk t := ⟨f, c, (Bool.and_eq_true _ _ ▸ h).1, h1, h2⟩
theorem all_nil {α : Type} {p : α → Prop} : ∀ x ∈ ([] : List α), p x := fun _ h => by cases h
theorem all_cons {α : Type} {p : α → Prop} {a : α} {l : List α} (h : p a) (hl : ∀ x ∈ l, p x) : ∀ x ∈ a :: l, p x := fun x hx => by
  rcases List.mem_cons.1 hx with rfl | hx
  · exact h
  · exact hl x hx
/-- What is below has shapes; a call has something that is called. -/
def OKN (tk : Int → ByteArray → Bool) (n : Nd) : Prop := (∀ t ∈ n.kids, Good tk t) ∧ (n.kind = 27 → n.kids ≠ [])
theorem okn_made {n : Nd} {m : ByteArray → Bool} {ps : List (List Nd → Option (List Nd))} (hk : n.kind ≠ 27) (hp : ∀ p ∈ ps, PartG tk p) (h : madeP n m ps = true) : OKN tk n := ⟨madeP_good hp h, fun e => absurd e hk⟩
theorem okn_kind {n : Nd} {k : Int} {m : ByteArray → Bool} {ps : List (List Nd → Option (List Nd))} (hk : k ≠ 27) (hp : ∀ p ∈ ps, PartG tk p) (h : (n.kind == k && madeP n m ps) = true) : OKN tk n := by
  rw [Bool.and_eq_true, beq_iff_eq] at h
  exact okn_made (by rw [h.1]; exact hk) hp h.2

set_option maxRecDepth 10000 in
theorem shp_ok : ∀ (f : Nat) (c : Sc) (n : Nd), shp tk f c n = true → (∀ k own, c = .typed k own → k ≠ 27) → OKN tk n ∨ c = .var
  | 0, c, n, h, _ => by rw [shp] at h; cases h
  | f + 1, .imp, n, h, _ => by rw [shp] at h; exact .inl (okn_kind (by decide) all_nil h)
  | f + 1, .params, n, h, _ => by rw [shp] at h; exact .inl (okn_kind (by decide) (all_cons (partG_many fun _ => g1) all_nil) h)
  | f + 1, .basic, n, h, _ => by rw [shp] at h; exact .inl (okn_kind (by decide) all_nil h)
  | f + 1, .own, n, h, _ => by rw [shp] at h; exact .inl (okn_kind (by decide) all_nil h)
  | f + 1, .far, n, h, _ => by rw [shp] at h; exact .inl (okn_kind (by decide) (all_cons (partG_one (all_cons (fun _ => g1) all_nil)) all_nil) h)
  | f + 1, .ident, n, h, _ => by rw [shp] at h; exact .inl (okn_kind (by decide) all_nil h)
  | f + 1, .block, n, h, _ => by rw [shp] at h; exact .inl (okn_kind (by decide) (all_cons (partG_many fun _ => g1) all_nil) h)
  | f + 1, .nothing, n, h, _ => by rw [shp] at h; exact .inl (okn_kind (by decide) all_nil h)
  | f + 1, .iff, n, h, _ => by rw [shp] at h; exact .inl (okn_kind (by decide) (all_cons (partG_one (all_cons (fun _ => g2) all_nil)) (all_cons (partG_one (all_cons (fun _ => g1) all_nil)) (all_cons (partG_one (all_cons (fun _ => g1) (all_cons (fun _ => g1) (all_cons (fun _ => g1) all_nil)))) all_nil))) h)
  | f + 1, .forr, n, h, _ => by rw [shp] at h; exact .inl (okn_kind (by decide) (all_cons (partG_one (all_cons (fun _ => g2) (all_cons (fun _ => g2) (all_cons (fun _ => g2) (all_cons (fun _ => g1) all_nil))))) (all_cons (partG_one (all_cons (fun _ => g2) (all_cons (fun _ => g1) all_nil))) (all_cons (partG_one (all_cons (fun _ => g2) (all_cons (fun _ => g2) (all_cons (fun _ => g1) all_nil)))) (all_cons (partG_one (all_cons (fun _ => g1) all_nil)) all_nil)))) h)
  | f + 1, .define, n, h, _ => by rw [shp] at h; exact .inl (okn_kind (by decide) (all_cons (partG_one (all_cons (fun _ => g1) all_nil)) all_nil) h)
  | f + 1, .assign, n, h, _ => by rw [shp] at h; exact .inl (okn_kind (by decide) (all_cons (partG_one (all_cons (fun _ => g1) all_nil)) (all_cons (partG_one (all_cons (fun _ => g1) all_nil)) all_nil)) h)
  | f + 1, .callS, n, h, _ => by rw [shp] at h; exact .inl (okn_kind (by decide) (all_cons (partG_one (all_cons (fun _ => g1) all_nil)) all_nil) h)
  | f + 1, .sel, n, h, _ => by rw [shp] at h; exact .inl (okn_kind (by decide) (all_cons (partG_one (all_cons (fun _ => g1) all_nil)) all_nil) h)
  | f + 1, .keyed, n, h, _ => by rw [shp] at h; exact .inl (okn_kind (by decide) (all_cons (partG_one (all_cons (fun _ => g1) all_nil)) all_nil) h)
  | f + 1, .typed k own, n, h, hk => by
    rw [shp] at h
    cases own
    · exact .inl (okn_kind (hk k _ rfl) (all_cons (partG_one (all_cons (fun _ => g1 (c := .ty)) all_nil)) all_nil) h)
    · exact .inl (okn_kind (hk k _ rfl) (all_cons (partG_one (all_cons (fun _ => g1 (c := .own)) all_nil)) all_nil) h)
  | f + 1, .decl, n, h, _ => by
    rw [shp] at h
    split at h
    · rename_i hk; exact .inl (okn_made (by rw [hk]; decide) (all_cons (partG_many fun _ => g1) all_nil) h)
    · split at h
      · rename_i hk; exact .inl (okn_made (by rw [hk]; decide) (all_cons (partG_one (all_cons (fun _ => g1) (all_cons (fun _ => g1) all_nil))) (all_cons (partG_one (all_cons (fun _ => g1) all_nil)) (all_cons (partG_one (all_cons (fun _ => g1) (all_cons (fun _ => g1) all_nil))) (all_cons (partG_one (all_cons (fun _ => g1) all_nil)) all_nil)))) h)
      · cases h
  | f + 1, .ty, n, h, _ => by
    rw [shp, Bool.or_eq_true, Bool.or_eq_true] at h
    rcases h with (h | h) | h
    · exact (shp_ok f .basic n h (by intro k own e; cases e)).elim .inl (fun e => by cases e)
    · exact (shp_ok f .own n h (by intro k own e; cases e)).elim .inl (fun e => by cases e)
    · exact (shp_ok f .far n h (by intro k own e; cases e)).elim .inl (fun e => by cases e)
  | f + 1, .var, n, h, _ => .inr rfl
  | f + 1, .stmt, n, h, _ => by
    rw [shp] at h
    split at h
    · rename_i hk
      rcases f with _ | f
      · rw [shp] at h; cases h
      · rw [shp, Bool.or_eq_true] at h
        rcases h with h | h
        · exact .inl (okn_made (by rw [hk]; decide) (all_cons (partG_one (all_cons (fun _ => g1) all_nil)) (all_cons (partG_one (all_cons (fun _ => g1) all_nil)) all_nil)) h)
        · exact .inl (okn_made (by rw [hk]; decide) (all_cons (partG_one (all_cons (fun _ => g1) (all_cons (fun _ => g1) all_nil))) (all_cons (partG_one (all_cons (fun _ => g1) all_nil)) all_nil)) h)
    · split at h
      · exact (shp_ok f .block n h (by intro k own e; cases e)).elim .inl (fun e => by cases e)
      · split at h
        · exact (shp_ok f .iff n h (by intro k own e; cases e)).elim .inl (fun e => by cases e)
        · split at h
          · exact (shp_ok f .forr n h (by intro k own e; cases e)).elim .inl (fun e => by cases e)
          · split at h
            · rename_i hk; exact .inl (okn_made (by rw [hk]; decide) (all_cons (partG_one (all_cons (fun _ => g1) all_nil)) all_nil) h)
            · split at h
              · rename_i hk
                rw [Bool.or_eq_true] at h
                have hk' : n.kind ≠ 27 := by omega
                rcases h with h | h
                · exact .inl (okn_made hk' all_nil h)
                · exact .inl (okn_made hk' all_nil h)
              · split at h
                · rename_i hk
                  rw [Bool.or_eq_true] at h
                  rcases h with h | h
                  · exact .inl (okn_made (by rw [hk]; decide) all_nil h)
                  · exact .inl (okn_made (by rw [hk]; decide) (all_cons (partG_one (all_cons (fun _ => g1) all_nil)) all_nil) h)
                · rw [Bool.or_eq_true, Bool.or_eq_true] at h
                  rcases h with (h | h) | h
                  · exact (shp_ok f .define n h (by intro k own e; cases e)).elim .inl (fun e => by cases e)
                  · exact (shp_ok f .assign n h (by intro k own e; cases e)).elim .inl (fun e => by cases e)
                  · exact (shp_ok f .callS n h (by intro k own e; cases e)).elim .inl (fun e => by cases e)
  | f + 1, .path, n, h, _ => by
    rw [shp, Bool.or_eq_true] at h
    rcases h with h | h
    · exact (shp_ok f .ident n h (by intro k own e; cases e)).elim .inl (fun e => by cases e)
    · exact .inl (okn_kind (by decide) (all_cons (partG_one (all_cons (fun _ => g1) all_nil)) all_nil) h)
  | f + 1, .call, n, h, _ => by
    rw [shp, Bool.and_eq_true] at h
    exact (shp_ok f .expr n h.2 (by intro k own e; cases e)).elim .inl (fun e => by cases e)
  | f + 1, .expr, n, h, _ => by
    rw [shp] at h
    exact (shp_ok f (.level 1) n h (by intro k own e; cases e)).elim .inl (fun e => by cases e)
  | f + 1, .level k, n, h, _ => by
    rw [shp] at h
    split at h
    · rename_i hk
      rw [Bool.and_eq_true] at h
      exact .inl (okn_made (by rw [hk]; decide) (all_cons (partG_one (all_cons (fun _ => g1) all_nil)) (all_cons (partG_one (all_cons (fun _ => g1) all_nil)) all_nil)) h.2)
    · split at h
      · rename_i hk
        rw [Bool.and_eq_true] at h
        exact .inl (okn_made (by rw [hk]; decide) (all_cons (partG_one (all_cons (fun _ => g1) all_nil)) all_nil) h.2)
      · exact (shp_ok f .operand n h (by intro k own e; cases e)).elim .inl (fun e => by cases e)
  | f + 1, .operand, n, h, _ => by
    rw [shp] at h
    split at h
    · rename_i hk; exact .inl (okn_made (by rw [hk]; decide) all_nil h)
    · split at h
      · rename_i hk; exact .inl (okn_made (by rw [hk]; decide) all_nil h)
      · split at h
        · rename_i hk; exact .inl (okn_made (by rw [hk]; decide) all_nil h)
        · split at h
          · rename_i hk; exact .inl (okn_made (by rw [hk]; decide) all_nil h)
          · split at h
            · exact (shp_ok f .ident n h (by intro k own e; cases e)).elim .inl (fun e => by cases e)
            · split at h
              · rename_i hk; exact .inl (okn_made (by rw [hk]; decide) (all_cons (partG_one (all_cons (fun _ => g1) all_nil)) all_nil) h)
              · split at h
                · exact (shp_ok f .sel n h (by intro k own e; cases e)).elim .inl (fun e => by cases e)
                · split at h
                  · exact .inl ⟨madeP_good (all_cons (partG_one (all_cons (fun _ => g1) (all_cons (fun _ => g1) all_nil))) (all_cons (partG_many fun _ => g1) all_nil)) h, fun _ => madeP_first h⟩
                  · split at h
                    · rename_i hk; exact .inl (okn_made (by rw [hk]; decide) (all_cons (partG_many fun _ => g1) all_nil) h)
                    · split at h
                      · rename_i hk; exact .inl (okn_made (by rw [hk]; decide) (all_cons (partG_one (all_cons (fun _ => g1) (all_cons (fun _ => g1) all_nil))) (all_cons (partG_many fun _ => g1) all_nil)) h)
                      · cases h
theorem good_okC : ∀ (F : Nat) (n : Nd), Good tk n → okC F n
  | 0, _, _ => trivial
  | F + 1, n, ⟨f, c, h, h1, h2⟩ => by
    have := (shp_ok f c n h h2).resolve_right h1
    exact ⟨this.2, fun t ht => good_okC F t (this.1 t (outs_sub n t ht))⟩
set_option maxRecDepth 100000 in
theorem ofHead_s {O : ByteArray → Prop} {FAC : World → Prop} (f : Nat) (keepF : ∀ w w', FAC w → Below w.heap.size w w' → FAC w') (g : FuncId) (c : Sc) (h1 : c ≠ .var) (h2 : ∀ k own, c = .typed k own → k ≠ 27) (hS : SL FAC tk O f g c) (W : World) (hW : FAC W) :
    Calls Tryz.prog 67 #[.func (.func g) #[] #[]] W fun e w' => ∃ v, e = .returned v ∧ FnV (DD O f) w' v (fun t => shp tk f c t && bare (f + 1) t) ∧ Below W.heap.size W w' := by
  have HB := Lib.hid (alloc_below W (.cells #[.func (.func g) #[] #[]] 53))
  have HT := Lib.hid (alloc_top W #[.func (.func g) #[] #[]] 53)
  have hmf : ∀ (fn : Fn) (first cap : Array Value) (w : World), (Instr.makeFunc fn first cap).run Tryz.prog w = .ok (.func fn first cap) w := fun _ _ _ _ => rfl
  go_enter Tryz.func67, Tryz.ntmps67
  go_wp2_with fail
  go_ret
  refine ⟨_, rfl, ⟨72, #[.pointer (some ⟨W.heap.size, 0, none⟩)], rfl, enters_of Tryz.func72 (by kernel_rfl) rfl, ?_⟩, HB.out⟩
  intro w2 hw2 T u hD hn
  have hB1 : (W.alloc (.cells #[.func (.func g) #[] #[]] 53)).cell? ⟨W.heap.size, 0, none⟩ = some (.func (.func g) #[] #[]) := by unfold World.cell?; simp only [HT.out]; rfl
  exact ofHead1_any (f + 1) T u W.heap.size g #[] w2 (by have := hD.1; omega) (by have := hD.2.1; omega) hD (fun h => good_okC (f + 1) T ⟨f, c, h, h1, h2⟩) hn (cell_kept hB1 rfl hw2) (hS.sf w2 (keepF _ _ (keepF _ _ hW HB.out) hw2))
end Go.Proofs.YtkpddjbdmjbefaaGreatDoor
