/-
  ast's has, one, many, made and what they are made of: what they tell of trees that lie in memory, their shapes and parts given as function values. No memory that was there turns. Conditions: those of FnV, PtV, NmV.
-/
import Derived.Test.YtcbfohokigamfaaGreatDoorNReg
import Derived.Deep.QuietTactic
import Derived.BigQuiet
namespace Go.Proofs.YtcbfohokigamfaaGreatDoor
open Go.RowKit

set_option maxRecDepth 100000 in
set_option maxHeartbeats 1000000 in
theorem contF_any (b o n c : Nat) (hn : n ≤ 1000000) (vs : Nat → Value) (p : Nat → Bool) (g : FuncId) (cap : Array Value) (eg : Enters Tryz.prog g) (w : World) (hc : ∀ i, i < n → w.cell? ⟨b, o + i, none⟩ = some (vs i))
    (hp : ∀ i, i < n → ∀ W, Below w.heap.size w W → Calls Tryz.prog g (#[vs i] ++ cap) W fun e w' => e = .returned (.bool (p i)) ∧ Below W.heap.size W w') :
    Calls Tryz.prog 165 #[.slice (some ⟨b, o, none⟩) n c, .func (.func g) #[] cap] w fun e w' => e = .returned (.bool ((List.range n).any p)) ∧ Below w.heap.size w w' := by
  have HC := Lib.hid (idxF_any b o n c hn vs p g cap eg w hc hp)
  clear hc hp
  go_enter Tryz.func165, Tryz.ntmps165
  go_wp2_with fail
  refine HC.out.mono ?_
  rintro e w' ⟨r, rfl, hr, hb⟩
  have HB := Lib.hid hb
  clear hb
  rcases hr with ⟨rfl, h⟩ | ⟨k, hk, rfl, h1, h2⟩
  · have e1 : (List.range n).any p = false := by
      rw [List.any_eq_false]
      intro i hi
      rw [h i (List.mem_range.1 hi)]; simp
    have E1 := Lib.hid e1
    clear e1 h
    go_wp2_with fail
    go_ret
    exact ⟨by rw [E1.out]; rfl, HB.out⟩
  · have e1 : (List.range n).any p = true := by
      rw [List.any_eq_true]
      exact ⟨k, List.mem_range.2 hk, h1⟩
    have E1 := Lib.hid e1
    have h0 : (0 : Int) ≤ (k : Int) := by omega
    clear h1 h2 e1
    go_wp2_with fail
    go_ret
    exact ⟨by rw [E1.out]; rfl, HB.out⟩
set_option maxRecDepth 100000 in
set_option maxHeartbeats 1000000 in
theorem has1_any {D : Nd → Prop} {s : Nd → Bool} {T : Nd} {v : Value} {N : Nat} (c0 c1 c2 c3 c4 c5 : Value) (w : World) (hv : FnV D w v s) (hT : D T) (hn : NIn w TT T (.agg #[c0, c1, c2, c3, c4, c5]))
    (hN : w.heap[N]? = some (.cells #[c0, c1, c2, c3, c4, c5] 24 (0, 0))) :
    Calls Tryz.prog 166 #[v, .pointer (some ⟨N, 0, none⟩)] w fun e w' => e = .returned (.bool (s T)) ∧ Below w.heap.size w w' := by
  obtain ⟨g, cap, rfl, eg, h⟩ := hv
  have eg' : ∀ (args : Array Value) (w : World), (callFunc g args).run Tryz.prog w = .ok (.enter g args) w := eg
  have HC := Lib.hid (h w (Below.refl _ _) T _ hT hn)
  have k0 : w.cell? ⟨N, 0, none⟩ = some c0 := by unfold World.cell?; simp only [hN]; rfl
  have k1 : w.cell? ⟨N, 1, none⟩ = some c1 := by unfold World.cell?; simp only [hN]; rfl
  have k2 : w.cell? ⟨N, 2, none⟩ = some c2 := by unfold World.cell?; simp only [hN]; rfl
  have k3 : w.cell? ⟨N, 3, none⟩ = some c3 := by unfold World.cell?; simp only [hN]; rfl
  have k4 : w.cell? ⟨N, 4, none⟩ = some c4 := by unfold World.cell?; simp only [hN]; rfl
  have k5 : w.cell? ⟨N, 5, none⟩ = some c5 := by unfold World.cell?; simp only [hN]; rfl
  clear h hn hN
  go_enter Tryz.func166, Tryz.ntmps166
  go_wp2_with (go_at_fn g; refine HC.out.mono ?_; rintro e w' ⟨rfl, hb'⟩)
  go_ret
  exact ⟨rfl, hb'⟩
set_option maxRecDepth 100000 in
set_option maxHeartbeats 1000000 in
theorem has_any {D : Nd → Prop} {ss : List (Nd → Bool)} {T : Nd} {nv : Value} {A : Option Addr} {c : Nat} (w : World) (hs : FRow D w ss A) (h0 : 0 < ss.length) (h1 : ss.length ≤ 1000) (hT : D T) (hn : NIn w TT T nv) :
    Calls Tryz.prog 145 #[nv, .slice A ss.length c] w fun e w' => e = .returned (.bool (ss.any fun s => s T)) ∧ Below w.heap.size w w' := by
  obtain ⟨b, o, rfl, hc⟩ := hs h0
  obtain ⟨ia, ic, rfl, hcc, hk⟩ := hn.open
  have hch : ∀ i, ∃ v, i < ss.length → w.cell? ⟨b, o + i, none⟩ = some v ∧ FnV D w v (ss.getD i fun _ => false) := by
    intro i
    by_cases hi : i < ss.length
    · obtain ⟨v, h1, h2⟩ := hc i ss[i] (List.getElem?_eq_getElem hi)
      refine ⟨v, fun _ => ⟨h1, ?_⟩⟩
      have : ss.getD i (fun _ => false) = ss[i] := by simp [List.getD_eq_getElem?_getD, List.getElem?_eq_getElem hi]
      rw [this]; exact h2
    · exact ⟨undef, fun h => absurd h hi⟩
  obtain ⟨vs, hvs⟩ := Classical.axiomOfChoice hch
  have e1 : (ss.any fun s => s T) = (List.range ss.length).any fun i => (ss.getD i fun _ => false) T := by
    rw [Bool.eq_iff_iff, List.any_eq_true, List.any_eq_true]
    constructor
    · rintro ⟨s, hs, h⟩
      obtain ⟨i, hi, rfl⟩ := List.getElem_of_mem hs
      refine ⟨i, List.mem_range.2 hi, ?_⟩
      simpa [List.getD_eq_getElem?_getD, List.getElem?_eq_getElem hi] using h
    · rintro ⟨i, hi, h⟩
      have hi := List.mem_range.1 hi
      refine ⟨ss[i], List.getElem_mem hi, ?_⟩
      simpa [List.getD_eq_getElem?_getD, List.getElem?_eq_getElem hi] using h
  have HC := Lib.hid (fun (w1 : World) (hb : Below w.heap.size w w1) (hN : w1.heap[w.heap.size]? = some (.cells #[.int .i64 T.kind, .int .i64 T.fro, .int .i64 T.till, .int .i64 T.at', .string T.name, .slice ia T.kids.length ic] 24 (0, 0))) =>
    contF_any b o ss.length c (by omega) vs (fun i => (ss.getD i fun _ => false) T) 166 #[.pointer (some ⟨w.heap.size, 0, none⟩)] (enters_of Tryz.func166 (by kernel_rfl) rfl) w1
      (fun i hi => ncell_blk (fun hx => hb.block b hx) (hvs i hi).1)
      (fun i hi W hW => has1_any _ _ _ _ _ _ W ((hvs i hi).2.below (hb.trans (hW.mono hb.size))) hT ((NIn.shut hcc hk).below (hb.trans (hW.mono hb.size))) (by rw [hW.block _ (ncell_lt (i := 0) (v := .int .i64 T.kind) (by unfold World.cell?; simp only [hN]; rfl))]; exact hN)))
  rw [e1]
  clear e1 hvs hch hc hk hcc hn h0
  generalize ss.length = n at *
  have hb0 := Lib.hid (alloc_below w (.cells #[.int .i64 T.kind, .int .i64 T.fro, .int .i64 T.till, .int .i64 T.at', .string T.name, .slice ia T.kids.length ic] 24))
  have HT := Lib.hid (alloc_top w #[.int .i64 T.kind, .int .i64 T.fro, .int .i64 T.till, .int .i64 T.at', .string T.name, .slice ia T.kids.length ic] 24)
  have HX := Lib.hid (HC.out _ hb0.out HT.out)
  clear HC
  go_enter Tryz.func145, Tryz.ntmps145
  go_wp2_with fail
  refine HX.out.mono ?_
  rintro e w' ⟨rfl, hb⟩
  have HB := Lib.hid (hb0.out.trans (hb.mono hb0.out.size))
  clear hb
  go_wp2_with fail
  go_ret
  exact ⟨rfl, HB.out⟩
theorem drewN_belowA {w w' : World} {B : Nat} (h : Below B w w') (n : Nat) : Below B w (w'.drewN n) := h.trans ⟨rfl, rfl, rfl, Nat.le_refl _, fun _ _ => rfl⟩
/-- A cell and a tree's six. -/
def Seven (W : World) (p : Addr) (v : Value) (b o : Nat) (c0 c1 c2 c3 c4 c5 : Value) : Prop :=
  W.cell? p = some v ∧ W.cell? ⟨b, o, none⟩ = some c0 ∧ W.cell? ⟨b, o + 1, none⟩ = some c1 ∧ W.cell? ⟨b, o + 2, none⟩ = some c2 ∧ W.cell? ⟨b, o + 3, none⟩ = some c3 ∧ W.cell? ⟨b, o + 4, none⟩ = some c4 ∧ W.cell? ⟨b, o + 5, none⟩ = some c5
theorem cell_kept {W W' : World} {p : Addr} {v : Value} (h : W.cell? p = some v) (hp : p.spot = none) (k : Below W.heap.size W W') : W'.cell? p = some v := by
  obtain ⟨b, i, _⟩ := p
  obtain rfl : _ = none := hp
  exact ncell_blk (fun hx => k.block b hx) h
theorem Seven.keep {W W' : World} {B b o : Nat} {v c0 c1 c2 c3 c4 c5 : Value} (h : Seven W ⟨B, 0, none⟩ v b o c0 c1 c2 c3 c4 c5) (k : Below W.heap.size W W') : Seven W' ⟨B, 0, none⟩ v b o c0 c1 c2 c3 c4 c5 :=
  ⟨cell_kept h.1 rfl k, cell_kept h.2.1 rfl k, cell_kept h.2.2.1 rfl k, cell_kept h.2.2.2.1 rfl k, cell_kept h.2.2.2.2.1 rfl k, cell_kept h.2.2.2.2.2.1 rfl k, cell_kept h.2.2.2.2.2.2 rfl k⟩
/-- A block's cells. -/
theorem six_cells {W : World} {N : Nat} {c0 c1 c2 c3 c4 c5 : Value} (hN : W.heap[N]? = some (.cells #[c0, c1, c2, c3, c4, c5] 24 (0, 0))) :
    W.cell? ⟨N, 0, none⟩ = some c0 ∧ W.cell? ⟨N, 1, none⟩ = some c1 ∧ W.cell? ⟨N, 2, none⟩ = some c2 ∧ W.cell? ⟨N, 3, none⟩ = some c3 ∧ W.cell? ⟨N, 4, none⟩ = some c4 ∧ W.cell? ⟨N, 5, none⟩ = some c5 := by
  refine ⟨?_, ?_, ?_, ?_, ?_, ?_⟩ <;> (unfold World.cell?; simp only [hN]; rfl)
theorem SIn.tail {W : World} {P : Nat → Prop} {n : Nd} {l : List Nd} {b o : Nat} (h : NLn W P b o (n :: l)) (hP : P b) : SIn W P l (some ⟨b, o + 6, none⟩) := by
  intro _
  rw [NLn] at h
  exact ⟨b, o + 6, rfl, hP, h.2⟩
set_option maxRecDepth 100000 in
set_option maxHeartbeats 1000000 in
theorem one1_any {D : Nd → Prop} {ss : List (Nd → Bool)} {A As : Option Addr} {B c cs : Nat} (l : List Nd) (w : World) (hB : w.heap[B]? = some (.cells #[.slice As ss.length cs] 137 (0, 0))) (hs : FRow D w ss As) (h0 : 0 < ss.length) (h1 : ss.length ≤ 1000)
    (hD : ∀ t ∈ l, D t) (hl : l.length ≤ 1000000) (hc : l.length ≤ c) (hn : SIn w TT l A) :
    Calls Tryz.prog 144 #[.slice A l.length c, .pointer (some ⟨B, 0, none⟩)] w fun e w' => PtEnd (oneP ss l) e w' ∧ Below w.heap.size w w' := by
  have kB : w.cell? ⟨B, 0, none⟩ = some (.slice As ss.length cs) := by unfold World.cell?; simp only [hB]; rfl
  cases l with
  | nil =>
    have HP : Hid (∀ w', PtEnd (oneP ss []) (.returned (.tuple #[.slice none 0 0, .bool false])) w') := Lib.hid (fun w' => ⟨none, 0, 0, rfl⟩)
    clear hB hs hD hl hc hn
    rw [List.length_nil]
    go_enter Tryz.func144, Tryz.ntmps144
    go_wp2_with fail
    go_quiet (fail)
    go_wp2_with fail
    go_ret2
    exact ⟨HP.out _, drewN_belowA (Below.refl _ _) _⟩
  | cons t l =>
    obtain ⟨b, o, rfl, -, hrow⟩ := hn (by simp)
    obtain ⟨ia, ic, d0, d1, d2, d3, d4, d5, hcc, hk⟩ := hrow.row (i := 0) (n := t) rfl
    simp only [Nat.zero_mul, Nat.add_zero] at d0 d1 d2 d3 d4 d5
    have HC := Lib.hid (fun (W : World) (hb : Below w.heap.size w W) => has_any (A := As) (c := cs) (T := t) (nv := .agg #[.int .i64 t.kind, .int .i64 t.fro, .int .i64 t.till, .int .i64 t.at', .string t.name, .slice ia t.kids.length ic]) W (hs.below hb) h0 h1 (hD t (by simp)) ((NIn.shut hcc hk).below hb))
    have HT := Lib.hid (fun (W : World) (hb : Below w.heap.size w W) => (SIn.tail hrow trivial).below (W' := W) hb)
    have hll : ((l.length + 1 : Nat) : Int) ≠ 0 := by omega
    have hc' : l.length + 1 ≤ c := hc
    have hlen : (t :: l).length = l.length + 1 := rfl
    have HP : Hid (oneP ss (t :: l) = if ss.any (fun s => s t) then some l else none) := Lib.hid rfl
    rw [hlen]
    clear hs hn hrow hk hcc hlen hD hB hc
    have HNE : Hid (l.length = 0 → l = []) := Lib.hid (fun h2 => List.length_eq_zero_iff.1 h2)
    generalize hnl : l.length = n at *
    have HNL := Lib.hid hnl
    generalize ss.length = m at *
    have HS0 : Hid (Seven w ⟨B, 0, none⟩ (.slice As m cs) b o (.int .i64 t.kind) (.int .i64 t.fro) (.int .i64 t.till) (.int .i64 t.at') (.string t.name) (.slice ia t.kids.length ic)) := Lib.hid ⟨kB, d0, d1, d2, d3, d4, d5⟩
    clear kB d0 d1 d2 d3 d4 d5 hnl
    cases hq : ss.any fun s => s t with
    | false =>
      rw [hq] at HP HC
      clear hq
      go_enter Tryz.func144, Tryz.ntmps144
      go_wp2_with fail
      go_region_held3 (fun w' => w'.cell? ⟨B, 0, none⟩ = some (.slice As m cs) ∧ w'.cell? ⟨b, o, none⟩ = some (.int .i64 t.kind) ∧ w'.cell? ⟨b, o + 1, none⟩ = some (.int .i64 t.fro) ∧ w'.cell? ⟨b, o + 2, none⟩ = some (.int .i64 t.till) ∧ w'.cell? ⟨b, o + 3, none⟩ = some (.int .i64 t.at') ∧ w'.cell? ⟨b, o + 4, none⟩ = some (.string t.name) ∧ w'.cell? ⟨b, o + 5, none⟩ = some (.slice ia t.kids.length ic)) (first | exact HS0.out | exact Seven.keep HS0.out (below_drew kq)) (first | (go_at_call 145; refine (HC.out _ ((Below.refl _ _).drew)).mono ?_; rintro e w' ⟨rfl, kq⟩))
      have HB := Lib.hid (below_drew kq)
      clear kq HS0
      go_wp2_with fail
      go_ret2
      refine ⟨?_, HB.out⟩
      rw [HP.out]
      exact ⟨none, 0, 0, rfl⟩
    | true =>
      rw [hq] at HP HC
      clear hq
      go_enter Tryz.func144, Tryz.ntmps144
      go_wp2_with fail
      go_region_held3 (fun w' => w'.cell? ⟨B, 0, none⟩ = some (.slice As m cs) ∧ w'.cell? ⟨b, o, none⟩ = some (.int .i64 t.kind) ∧ w'.cell? ⟨b, o + 1, none⟩ = some (.int .i64 t.fro) ∧ w'.cell? ⟨b, o + 2, none⟩ = some (.int .i64 t.till) ∧ w'.cell? ⟨b, o + 3, none⟩ = some (.int .i64 t.at') ∧ w'.cell? ⟨b, o + 4, none⟩ = some (.string t.name) ∧ w'.cell? ⟨b, o + 5, none⟩ = some (.slice ia t.kids.length ic)) (first | exact HS0.out | exact Seven.keep HS0.out (below_drew kq)) (first | (go_at_call 145; refine (HC.out _ ((Below.refl _ _).drew)).mono ?_; rintro e w' ⟨rfl, kq⟩))
      have HB := Lib.hid (below_drew kq)
      clear kq HS0
      go_wp2_with fail
      · go_ret2
        refine ⟨?_, HB.out⟩
        rw [HP.out]
        have h0 : n = 0 := by omega
        have e := HNE.out h0
        refine ⟨some ⟨b, o, none⟩, 0, ?_, ?_, fun hp => ?_⟩
        · rw [HNL.out]; rfl
        · rw [HNL.out, h0]
          exact Nat.zero_le _
        · rw [e] at hp; cases hp
      · go_ret2
        refine ⟨?_, HB.out⟩
        rw [HP.out]
        refine ⟨some ⟨b, o + 6, none⟩, c - 1, ?_, ?_, HT.out _ HB.out⟩
        · rw [HNL.out]; rfl
        · rw [HNL.out]; omega
/-- many's walk, at a row that has some. -/
theorem wpMany (s : Nd → Bool) (l : List Nd) : manyP s l = some (l.dropWhile s) := rfl
set_option maxRecDepth 100000 in
set_option maxHeartbeats 1000000 in
theorem many1_any {D : Nd → Prop} {s : Nd → Bool} {A : Option Addr} {B c : Nat} {v : Value} (l : List Nd) (w : World) (hB : w.heap[B]? = some (.cells #[v] 119 (0, 0))) (hs : FnV D w v s)
    (hD : ∀ t ∈ l, D t) (hl : l.length ≤ 1000000) (hc : l.length ≤ c) (hn : SIn w TT l A) :
    Calls Tryz.prog 112 #[.slice A l.length c, .pointer (some ⟨B, 0, none⟩)] w fun e w' => PtEnd (manyP s l) e w' ∧ Below w.heap.size w w' := by
  obtain ⟨g, cap, rfl, eg, h⟩ := hs
  have eg' : ∀ (args : Array Value) (w : World), (callFunc g args).run Tryz.prog w = .ok (.enter g args) w := eg
  have kB : Hid (w.cell? ⟨B, 0, none⟩ = some (.func (.func g) #[] cap)) := Lib.hid (by unfold World.cell?; simp only [hB]; rfl)
  have HC := Lib.hid h
  have HD := Lib.hid hD
  have HN := Lib.hid hn
  clear h hD hn hB
  go_enter Tryz.func112, Tryz.ntmps112
  go_wp2_with fail
  go_loopg [0] l.length (fun gg s0 wr => ∃ k A' c', k ≤ l.length ∧ l.length - k ≤ gg ∧ s0 = .slice A' (l.length - k) c' ∧ l.length - k ≤ c' ∧ Aside (Below w.heap.size w wr) ∧ Aside (SIn wr TT (l.drop k) A') ∧ Aside (l.dropWhile s = (l.drop k).dropWhile s))
  case atStart => exact ⟨0, A, c, Nat.zero_le _, by omega, rfl, by omega, Below.refl _ w, HN.out, rfl⟩
  case round =>
    obtain ⟨k, A', c', hk, hg, rfl, hcc, BW, SI, HE⟩ := hrel
    cases hd : l.drop k with
    | nil =>
      have e0 : l.length - k = 0 := by
        have := congrArg List.length hd
        rw [List.length_drop] at this
        exact this
      rw [e0]
      have HE2 : Hid (manyP s l = some []) := Lib.hid (by unfold manyP; rw [HE.out, hd]; rfl)
      clear hd e0 HE SI
      go_wp2_with fail
      go_quiet (fail)
      go_wp2_with fail
      go_ret2
      refine ⟨?_, drewN_belowA BW.out _⟩
      rw [HE2.out]
      exact ⟨A', c', rfl, Nat.zero_le _, fun h => absurd h (by simp)⟩
    | cons t r =>
      have hlen : l.length - k = r.length + 1 := by
        have := congrArg List.length hd
        rw [List.length_drop, List.length_cons] at this
        exact this
      have hmem : t ∈ l := List.mem_of_mem_drop (hd ▸ List.mem_cons_self ..)
      rw [hd] at SI HE
      obtain ⟨b, o, rfl, -, hrow⟩ := SI.out (by simp)
      obtain ⟨ia, ic, d0, d1, d2, d3, d4, d5, hic, hkk⟩ := hrow.row (i := 0) (n := t) rfl
      simp only [Nat.zero_mul, Nat.add_zero] at d0 d1 d2 d3 d4 d5
      have HX := Lib.hid (fun (W : World) (hb : Below wr.heap.size wr W) => HC.out W (BW.out.trans (hb.mono BW.out.size)) t _ (HD.out t hmem) ((NIn.shut hic hkk).below hb))
      have HT := Lib.hid (fun (W : World) (hb : Below wr.heap.size wr W) => (SIn.tail hrow trivial).below (W' := W) hb)
      have HRW := Lib.hid (fun (W : World) (hb : Below wr.heap.size wr W) => NLn.keep (W' := W) (Q := TT) (fun k _ hk => hb.block k hk) (fun _ hP _ => hP) b trivial _ _ hrow)
      have HR : Hid (r = l.drop (k + 1)) := Lib.hid (by rw [← List.drop_drop, hd]; rfl)
      have hcc2 : r.length + 1 ≤ c' := by omega
      rw [hlen]
      have HNE : Hid (r.length = 0 → r = []) := Lib.hid (fun h2 => List.length_eq_zero_iff.1 h2)
      have HKN := Lib.hid (And.intro hlen (And.intro hk hg))
      clear hd hrow hkk hic SI hmem hlen hcc
      generalize hnl : r.length = n at *
      have HNL := Lib.hid hnl
      have kB' := ncell_blk (fun hx => BW.out.block B hx) kB.out
      have HS0 : Hid (Seven wr ⟨B, 0, none⟩ (.func (.func g) #[] cap) b o (.int .i64 t.kind) (.int .i64 t.fro) (.int .i64 t.till) (.int .i64 t.at') (.string t.name) (.slice ia t.kids.length ic)) := Lib.hid ⟨kB', d0, d1, d2, d3, d4, d5⟩
      clear kB' d0 d1 d2 d3 d4 d5 hnl hk hg
      have hl2 : n ≤ 1000000 := by have := HKN.out; omega
      cases hq : s t with
      | false =>
        rw [hq] at HX
        have HE2 : Hid (manyP s l = some (t :: r)) := Lib.hid (by unfold manyP; rw [HE.out, List.dropWhile_cons, if_neg (by rw [hq]; simp)])
        clear hq HE
        go_wp2_with fail
        go_region_held3 (fun w' => w'.cell? ⟨B, 0, none⟩ = some (.func (.func g) #[] cap) ∧ w'.cell? ⟨b, o, none⟩ = some (.int .i64 t.kind) ∧ w'.cell? ⟨b, o + 1, none⟩ = some (.int .i64 t.fro) ∧ w'.cell? ⟨b, o + 2, none⟩ = some (.int .i64 t.till) ∧ w'.cell? ⟨b, o + 3, none⟩ = some (.int .i64 t.at') ∧ w'.cell? ⟨b, o + 4, none⟩ = some (.string t.name) ∧ w'.cell? ⟨b, o + 5, none⟩ = some (.slice ia t.kids.length ic)) (first | exact HS0.out | exact Seven.keep HS0.out (below_drew kq)) (first | (go_at_fn g; refine (HX.out _ ((Below.refl _ _).drew)).mono ?_; rintro e w' ⟨rfl, kq⟩))
        have HB := Lib.hid (BW.out.trans ((below_drew kq).mono BW.out.size))
        have HBr := Lib.hid (below_drew kq)
        clear kq HS0
        go_wp2_with fail
        go_ret2
        refine ⟨?_, HB.out⟩
        rw [HE2.out]
        exact ⟨some ⟨b, o, none⟩, c', by rw [List.length_cons, HNL.out]; rfl, by rw [List.length_cons, HNL.out]; exact hcc2, fun _ => ⟨b, o, rfl, trivial, (HRW.out _ HBr.out)⟩⟩
      | true =>
        rw [hq] at HX
        have HE2 : Hid (l.dropWhile s = r.dropWhile s) := Lib.hid (by rw [HE.out, List.dropWhile_cons, if_pos hq])
        clear hq HE
        go_wp2_with fail
        go_region_held3 (fun w' => w'.cell? ⟨B, 0, none⟩ = some (.func (.func g) #[] cap) ∧ w'.cell? ⟨b, o, none⟩ = some (.int .i64 t.kind) ∧ w'.cell? ⟨b, o + 1, none⟩ = some (.int .i64 t.fro) ∧ w'.cell? ⟨b, o + 2, none⟩ = some (.int .i64 t.till) ∧ w'.cell? ⟨b, o + 3, none⟩ = some (.int .i64 t.at') ∧ w'.cell? ⟨b, o + 4, none⟩ = some (.string t.name) ∧ w'.cell? ⟨b, o + 5, none⟩ = some (.slice ia t.kids.length ic)) (first | exact HS0.out | exact Seven.keep HS0.out (below_drew kq)) (first | (go_at_fn g; refine (HX.out _ ((Below.refl _ _).drew)).mono ?_; rintro e w' ⟨rfl, kq⟩))
        have HB := Lib.hid (BW.out.trans ((below_drew kq).mono BW.out.size))
        have HBr := Lib.hid (below_drew kq)
        clear kq HS0
        go_wp2_with fail
        · have h1 := HKN.out.1
          have h2 := HKN.out.2.1
          have h3 := HKN.out.2.2
          have e1 : l.length - (k + 1) = n := by omega
          have h0 : n = 0 := by omega
          go_roundg (l.length - (k + 1))
          case measure => omega
          case rel =>
            refine ⟨k + 1, some ⟨b, o, none⟩, 0, by omega, Nat.le_refl _, by rw [e1], by omega, HB.out, (show Aside _ from ?_), (show Aside _ from by show l.dropWhile s = _; rw [HE2.out, HR.out])⟩
            show SIn _ TT (l.drop (k + 1)) _
            rw [← HR.out, HNE.out h0]
            intro h; cases h
        · have h1 := HKN.out.1
          have h2 := HKN.out.2.1
          have h3 := HKN.out.2.2
          have e1 : l.length - (k + 1) = n := by omega
          go_roundg (l.length - (k + 1))
          case measure => omega
          case rel =>
            refine ⟨k + 1, some ⟨b, o + 6, none⟩, c' - 1, by omega, Nat.le_refl _, by rw [e1], by omega, HB.out, (show Aside _ from ?_), (show Aside _ from by show l.dropWhile s = _; rw [HE2.out, HR.out])⟩
            show SIn _ TT (l.drop (k + 1)) _
            rw [← HR.out]
            exact HT.out _ HBr.out
end Go.Proofs.YtcbfohokigamfaaGreatDoor
