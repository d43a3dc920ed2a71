/-
  json's isDeeper AT EVERY VALUE in memory of at most 1000000 (szJ) and any bound up to 64: whether it is deeper (deepJ); nothing that was there turns. Conditions: the value's size, the bound.
-/
import Derived.Test.YtmkjoonbjmieoaaDoorQSize
import Derived.Test.YtmkjoonbjmieoaaDoorQParse
import Derived.Shelf.Abstract
namespace Go.Proofs.YtmkjoonbjmieoaaDoor
open Go.RowKit

/-- Items in memory, wherever they lie. -/
def SJ (W : World) (P : Nat → Prop) (l : List J) (A : Option Addr) : Prop := 0 < l.length → ∃ b o, A = some ⟨b, o, none⟩ ∧ P b ∧ LIn W P b o l
theorem JIn.open {W : World} {P : Nat → Prop} {k : Int} {s : List UInt8} {ks : List (List UInt8)} {l : List J} {v : Value} (h : JIn W P (.mk k s ks l) v) :
    ∃ ka kc ia ic, v = .agg #[.int .i64 k, .string (txt s), .slice ka ks.length kc, .slice ia l.length ic] ∧ KIn W P ka ks ∧ SJ W P l ia := by
  rw [JIn] at h; exact h
theorem JIn.shut {W : World} {P : Nat → Prop} {k : Int} {s : List UInt8} {ks : List (List UInt8)} {l : List J} {ka ia : Option Addr} {kc ic : Nat} (hk : KIn W P ka ks) (hl : SJ W P l ia) :
    JIn W P (.mk k s ks l) (.agg #[.int .i64 k, .string (txt s), .slice ka ks.length kc, .slice ia l.length ic]) := by
  rw [JIn]; exact ⟨ka, kc, ia, ic, rfl, hk, hl⟩
theorem SJ.below {W W' : World} {P : Nat → Prop} {l : List J} {A : Option Addr} (h : SJ W P l A) (hb : Below W.heap.size W W') : SJ W' P l A := by
  have h1 : JIn W P (.mk 5 [] [] l) (.agg #[.int .i64 5, .string (txt []), .slice none 0 0, .slice A l.length 0]) := JIn.shut (fun h => absurd h (Nat.lt_irrefl 0)) h
  obtain ⟨_, _, ia, _, he, _, h3⟩ := (h1.below hb).open
  simp only [Value.agg.injEq, Array.mk.injEq, List.cons.injEq, Value.slice.injEq, and_true, true_and] at he
  rw [he.2.1]; exact h3
theorem KIn.below {W W' : World} {P : Nat → Prop} {ks : List (List UInt8)} {A : Option Addr} (h : KIn W P A ks) (hb : Below W.heap.size W W') : KIn W' P A ks :=
  h.keep (fun k _ hk => hb.block k hk) (fun _ hP _ => hP)
/-- A function value that tells of each value of a row, in every world behind. -/
def TellJ (w : World) (P : Nat → Prop) (l : List J) (g : FuncId) (cap : Array Value) (p : J → Bool) : Prop := ∀ W, Below w.heap.size w W → ∀ t ∈ l, ∀ u, JIn W P t u → Calls Tryd.prog g (#[u] ++ cap) W fun e w' => e = .returned (.bool (p t)) ∧ Below W.heap.size W w'
def FirstJ (p : J → Bool) (l : List J) (r : Int) : Prop := (r = -1 ∧ ∀ t ∈ l, p t = false) ∨ ∃ k t, r = (k : Nat) ∧ l[k]? = some t ∧ p t = true
set_option maxRecDepth 100000 in
set_option maxHeartbeats 1000000 in
theorem idxJ_any (P : Nat → Prop) (l : List J) (A : Option Addr) (c : Nat) (hn : l.length ≤ 1000000) (p : J → Bool) (g : FuncId) (cap : Array Value) (eg : Enters Tryd.prog g) (w : World) (hs : SJ w P l A) (hp : TellJ w P l g cap p) :
    Calls Tryd.prog 53 #[.slice A l.length c, .func (.func g) #[] cap] w fun e w' => ∃ r, e = .returned (.int .i64 r) ∧ FirstJ p l r ∧ Below w.heap.size w w' := by
  have eg' : ∀ (args : Array Value) (w : World), (callFunc g args).run Tryd.prog w = .ok (.enter g args) w := eg
  have HS := Lib.hid hs
  have HP := Lib.hid hp
  clear hs hp
  generalize hln : l.length = n at *
  have HLN := Lib.hid hln
  clear hln
  go_enter Tryd.func53, Tryd.ntmps53
  go_wp2_with fail
  go_loopg [5, 8] n (fun gg _ s8 wr => ∃ kk : Nat, kk ≤ n ∧ n - kk ≤ gg ∧ s8 = .int .i64 kk ∧ Aside (Below w.heap.size w wr) ∧ Aside (∀ j, j < kk → ∀ s, l[j]? = some s → p s = false))
  case atStart => exact ⟨0, Nat.zero_le _, by omega, rfl, Below.refl _ w, fun j hj => absurd hj (Nat.not_lt_zero _)⟩
  case round =>
    obtain ⟨kk, hkk, hg, rfl, BW, AA⟩ := hrel
    by_cases hlt : kk < n
    · have hltz : (kk : Int) < (n : Int) := by omega
      have hll : kk < l.length := by rw [HLN.out]; exact hlt
      obtain ⟨b, o, rfl, -, hrow⟩ := (HS.out.below BW.out) (by omega)
      obtain ⟨t, ht⟩ : ∃ t, l[kk]? = some t := ⟨_, List.getElem?_eq_getElem hll⟩
      obtain ⟨v0, v1, v2, v3, d0, d1, d2, d3, hj⟩ := hrow.at ht
      have HX := Lib.hid (HP.out wr BW.out t (List.mem_of_getElem? ht) _ hj)
      have HKL := Lib.hid (And.intro hlt hg)
      have HTT := Lib.hid ht
      clear hrow hj ht hll hg
      cases hq : p t with
      | true =>
        have HQ := Lib.hid hq
        rw [hq] at HX
        clear hq
        go_wp2_with (go_at_fn g; refine HX.out.mono ?_; rintro e w' ⟨rfl, hb'⟩)
        go_ret
        exact ⟨_, rfl, .inr ⟨kk, t, rfl, HTT.out, HQ.out⟩, BW.out.trans (hb'.mono BW.out.size)⟩
      | false =>
        have HQ := Lib.hid hq
        rw [hq] at HX
        clear hq
        go_wp2_with (go_at_fn g; refine HX.out.mono ?_; rintro e w' ⟨rfl, hb'⟩)
        go_roundg (n - (kk + 1))
        case measure => have := HKL.out; omega
        case rel =>
          have h1 := HKL.out
          refine ⟨kk + 1, by omega, Nat.le_refl _, by go_num, BW.out.trans (hb'.mono BW.out.size), (show Aside _ from fun j hj s hs => ?_)⟩
          by_cases e : j = kk
          · subst e
            rw [HTT.out] at hs
            injection hs with hs
            rw [← hs]; exact HQ.out
          · exact AA.out j (by omega) s hs
    · have hltz : ¬ (kk : Int) < (n : Int) := by omega
      have : kk = n := by omega
      subst this
      go_wp2
      go_ret
      refine ⟨_, rfl, .inl ⟨rfl, fun t ht => ?_⟩, BW.out⟩
      obtain ⟨i, hi, rfl⟩ := List.getElem_of_mem ht
      exact AA.out i (by rw [← HLN.out]; exact hi) _ (List.getElem?_eq_getElem hi)
set_option maxRecDepth 100000 in
theorem contJ_any (P : Nat → Prop) (l : List J) (A : Option Addr) (c : Nat) (hn : l.length ≤ 1000000) (p : J → Bool) (g : FuncId) (cap : Array Value) (eg : Enters Tryd.prog g) (w : World) (hs : SJ w P l A) (hp : TellJ w P l g cap p) :
    Calls Tryd.prog 35 #[.slice A l.length c, .func (.func g) #[] cap] w fun e w' => e = .returned (.bool (l.any p)) ∧ Below w.heap.size w w' := by
  have HC := Lib.hid (idxJ_any P l A c hn p g cap eg w hs hp)
  clear hs hp
  go_enter Tryd.func35, Tryd.ntmps35
  go_wp2_with fail
  refine HC.out.mono ?_
  rintro e w' ⟨r, rfl, hr, hb⟩
  have HB := Lib.hid hb
  clear hb
  rcases hr with ⟨rfl, h⟩ | ⟨k, t, rfl, ht, h1⟩
  · have E1 : Hid (l.any p = false) := Lib.hid (by
      rw [List.any_eq_false]
      intro t ht
      rw [h t ht]; simp)
    clear h
    go_wp2_with fail
    go_ret
    exact ⟨by rw [E1.out]; rfl, HB.out⟩
  · have E1 : Hid (l.any p = true) := Lib.hid (by
      rw [List.any_eq_true]
      exact ⟨t, List.mem_of_getElem? ht, h1⟩)
    have h0 : (0 : Int) ≤ (k : Int) := by omega
    clear h1 ht
    go_wp2_with fail
    go_ret
    exact ⟨by rw [E1.out]; rfl, HB.out⟩
theorem deepL_any (m : Nat) : ∀ l : List J, l.any (deepJ m) = deepL m l
  | [] => by rw [deepL]; rfl
  | j :: l => by rw [List.any_cons, deepL_any m l, deepL]
theorem kind_cases (k : Int) : (k = 5 ∨ k = 6) ∨ ((k != 5) = true ∧ (k != 6) = true ∧ ¬ (k = 5 ∨ k = 6)) := by
  by_cases h : k = 5 ∨ k = 6
  · exact .inl h
  · exact .inr ⟨by simp only [bne_iff_ne, ne_eq]; omega, by simp only [bne_iff_ne, ne_eq]; omega, h⟩
set_option maxRecDepth 100000 in
set_option maxHeartbeats 1000000 in
theorem isDeeperJ_any (P : Nat → Prop) : ∀ (m : Nat), m ≤ 64 → ∀ (j : J) (v : Value) (w : World), szJ j ≤ 1000000 → JIn w P j v →
    Calls Tryd.prog 18 #[v, .int .i64 (m : Int)] w fun e w' => e = .returned (.bool (deepJ m j)) ∧ Below w.heap.size w w' := by
  intro m
  induction m with
  | zero =>
    rintro hm ⟨k, s, ks, l⟩ v w hsz hj
    obtain ⟨ka, kc, ia, ic, rfl, hk, hl⟩ := hj.open
    have hb1 := alloc_below w (.cells #[.int .i64 k, .string (txt s), .slice ka ks.length kc, .slice ia l.length ic] 26)
    have HB := Lib.hid (hb1.trans ((alloc_below _ (.cells #[.int .i64 0] 3)).mono hb1.size))
    rw [deepJ]
    rcases kind_cases k with h0 | ⟨g1, g2, h0⟩
    · rw [if_pos h0]
      clear hb1 hk hl hj hsz
      rcases h0 with rfl | rfl
      · go_enter Tryd.func18, Tryd.ntmps18
        go_wp2_with fail
        go_ret
        exact ⟨rfl, HB.out⟩
      · go_enter Tryd.func18, Tryd.ntmps18
        go_wp2_with fail
        go_ret
        exact ⟨rfl, HB.out⟩
    · rw [if_neg h0]
      clear hb1 hk hl hj hsz h0
      go_enter Tryd.func18, Tryd.ntmps18
      go_wp2_with fail
      go_ret
      exact ⟨rfl, HB.out⟩
  | succ m ih =>
    rintro hm ⟨k, s, ks, l⟩ v w hsz hj
    obtain ⟨ka, kc, ia, ic, rfl, hk, hl⟩ := hj.open
    rw [szJ_eq] at hsz
    have hll : l.length ≤ 1000000 := by have := szL_len l; omega
    have hb1 := alloc_below w (.cells #[.int .i64 k, .string (txt s), .slice ka ks.length kc, .slice ia l.length ic] 26)
    have hz1 : (w.alloc (.cells #[.int .i64 k, .string (txt s), .slice ka ks.length kc, .slice ia l.length ic] 26)).heap.size = w.heap.size + 1 := World.size_alloc ..
    have hT2 := alloc_top (w.alloc (.cells #[.int .i64 k, .string (txt s), .slice ka ks.length kc, .slice ia l.length ic] 26)) #[.int .i64 ((m + 1 : Nat) : Int)] 3
    rw [hz1] at hT2
    have hb2 := hb1.trans ((alloc_below _ (.cells #[.int .i64 ((m + 1 : Nat) : Int)] 3)).mono hb1.size)
    have HB := Lib.hid hb2
    rw [deepJ]
    rcases kind_cases k with h0 | ⟨g1, g2, h0⟩
    · rw [if_pos h0]
      show Calls _ _ _ _ (fun e w' => e = .returned (.bool (deepL m l)) ∧ _)
      have HD : Hid (l.any (deepJ m) = deepL m l) := Lib.hid (deepL_any m l)
      have HC : Hid (Calls Tryd.prog 35 #[.slice ia l.length ic, .func (.func 36) #[] #[.pointer (some ⟨w.heap.size + 1, 0, none⟩)]] ((w.alloc (.cells #[.int .i64 k, .string (txt s), .slice ka ks.length kc, .slice ia l.length ic] 26)).alloc (.cells #[.int .i64 ((m + 1 : Nat) : Int)] 3)) _) :=
        Lib.hid (contJ_any P l ia ic hll (deepJ m) 36 #[.pointer (some ⟨w.heap.size + 1, 0, none⟩)] (enters_of Tryd.func36 (by kernel_rfl) rfl) _ (hl.below hb2) (by
          intro W hW t ht u hu
          have hts : szJ t ≤ 1000000 := by have := szL_mem ht; omega
          have kB : W.cell? ⟨w.heap.size + 1, 0, none⟩ = some (.int .i64 ((m + 1 : Nat) : Int)) := cell_keep2 hW (by unfold World.cell?; simp only [hT2]; rfl)
          obtain ⟨k', s', ks', l'⟩ := t
          obtain ⟨ja, jc, ma, mc, rfl, hjk, hjl⟩ := hu.open
          have hb9 := alloc_below W (.cells #[.int .i64 k', .string (txt s'), .slice ja ks'.length jc, .slice ma l'.length mc] 26)
          have HI := Lib.hid (ih (by omega) (.mk k' s' ks' l') (.agg #[.int .i64 k', .string (txt s'), .slice ja ks'.length jc, .slice ma l'.length mc]) (W.alloc (.cells #[.int .i64 k', .string (txt s'), .slice ja ks'.length jc, .slice ma l'.length mc] 26)) hts ((JIn.shut hjk hjl).below hb9))
          have HB9 := Lib.hid hb9
          have kB2 := cell_keep2 hb9 kB
          have hsub : IntKind.i64.wrap (((m + 1 : Nat) : Int) - 1) = (m : Int) := by rw [IntWalk.i64_in _ (by omega)]; omega
          have hmm : m ≤ 64 := by omega
          clear hu hb9 hjk hjl ih hk hl hj hb1 hb2 hT2 hW hts ht HB HD hz1
          show Calls _ _ #[_, .pointer (some ⟨w.heap.size + 1, 0, none⟩)] W _
          generalize w.heap.size + 1 = BB at *
          go_enter Tryd.func36, Tryd.ntmps36
          go_wp2_with fail
          refine HI.out.mono ?_
          rintro e w' ⟨rfl, hb⟩
          have HBB := Lib.hid (HB9.out.trans (hb.mono HB9.out.size))
          clear hb HI kB kB2
          go_wp2_with fail
          go_ret
          exact ⟨rfl, HBB.out⟩))
      have hmf : ∀ (fn : Fn) (first cap : Array Value) (w : World), (Instr.makeFunc fn first cap).run Tryd.prog w = .ok (.func fn first cap) w := fun _ _ _ _ => rfl
      have hm0 : (((m + 1 : Nat) : Int) == 0) = false := by simp only [beq_eq_false_iff_ne, ne_eq]; omega
      clear hb1 hk hl hj ih hz1 hT2 hb2
      rcases h0 with rfl | rfl
      · go_enter Tryd.func18, Tryd.ntmps18
        go_wp2_with fail
        refine HC.out.mono ?_
        rintro e w' ⟨rfl, hb⟩
        have HBB := Lib.hid (HB.out.trans (hb.mono HB.out.size))
        clear hb HC
        go_wp2_with fail
        go_ret
        exact ⟨by rw [HD.out]; rfl, HBB.out⟩
      · go_enter Tryd.func18, Tryd.ntmps18
        go_wp2_with fail
        refine HC.out.mono ?_
        rintro e w' ⟨rfl, hb⟩
        have HBB := Lib.hid (HB.out.trans (hb.mono HB.out.size))
        clear hb HC
        go_wp2_with fail
        go_ret
        exact ⟨by rw [HD.out]; rfl, HBB.out⟩
    · rw [if_neg h0]
      clear hb1 hk hl hj ih hz1 hT2 hb2 h0
      go_enter Tryd.func18, Tryd.ntmps18
      go_wp2_with fail
      go_ret
      exact ⟨rfl, HB.out⟩
end Go.Proofs.YtmkjoonbjmieoaaDoor
