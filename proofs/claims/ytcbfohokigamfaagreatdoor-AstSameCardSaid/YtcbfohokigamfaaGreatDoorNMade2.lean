/-
  ast's made; one, many, isWord as makers of function values; isEmpty, isOperator, levelOf. Conditions: those of FnV, PtV, NmV.
-/
import Derived.Test.YtcbfohokigamfaaGreatDoorNMade
namespace Go.Proofs.YtcbfohokigamfaaGreatDoor
open Go.RowKit

theorem goP_append : ∀ (a b : List (List Nd → Option (List Nd))) (l : List Nd), goP (a ++ b) l = (goP a l).bind (goP b)
  | [], b, l => rfl
  | p :: a, b, l => by
    rw [List.cons_append, goP, goP]
    cases p l with
    | none => rfl
    | some r => exact goP_append a b r
theorem goP_take {ps : List (List Nd → Option (List Nd))} {l r : List Nd} {k : Nat} {p : List Nd → Option (List Nd)} (hp : ps[k]? = some p) (h : goP (ps.take k) l = some r) : goP (ps.take (k + 1)) l = p r := by
  rw [List.take_add_one, hp, goP_append, h]
  show goP [p] r = p r
  rw [goP]
  cases p r <;> rfl
theorem goP_none {ps : List (List Nd → Option (List Nd))} {l : List Nd} {k : Nat} (h : goP (ps.take k) l = none) : goP ps l = none := by
  conv => lhs; rw [← List.take_append_drop k ps]
  rw [goP_append, h]; rfl
set_option maxRecDepth 100000 in
set_option maxHeartbeats 1000000 in
theorem made_any {D : Nd → Prop} {O : ByteArray → Prop} {μ : ByteArray → Bool} {ps : List (List Nd → Option (List Nd))} {n : Nd} {nv mv : Value} {Ap : Option Addr} {cp : Nat} (w : World) (hm : NmV O w mv μ) (hp : PRow D w ps Ap)
    (hO : O n.name) (hs : n.name.size ≤ 1000000) (hD : ∀ t ∈ n.kids, D t) (hl : n.kids.length ≤ 1000000) (hpl : ps.length ≤ 1000) (hn : NIn w TT n nv) :
    Calls Tryz.prog 82 #[nv, mv, .slice Ap ps.length cp] w fun e w' => e = .returned (.bool (madeP n μ ps)) ∧ Below w.heap.size w w' := by
  obtain ⟨ia, ic, rfl, hcc, hk⟩ := hn.open
  obtain ⟨g, cap, rfl, eg, hm⟩ := hm
  have eg' : ∀ (args : Array Value) (w : World), (callFunc g args).run Tryz.prog w = .ok (.enter g args) w := eg
  have hb0 := Lib.hid (alloc_below w (.cells #[.int .i64 n.kind, .int .i64 n.fro, .int .i64 n.till, .int .i64 n.at', .string n.name, .slice ia n.kids.length ic] 24))
  have HT := Lib.hid (alloc_top w #[.int .i64 n.kind, .int .i64 n.fro, .int .i64 n.till, .int .i64 n.at', .string n.name, .slice ia n.kids.length ic] 24)
  have HC := Lib.hid (hm _ hb0.out n.name hs hO)
  have HPR := Lib.hid hp
  have HK := Lib.hid hk
  have HDD := Lib.hid hD
  have hml : Hid (madeP n μ ps = (μ n.name && doneP (goP ps n.kids))) := Lib.hid rfl
  clear hm hp hD hk hn
  cases hq : μ n.name with
  | false =>
    rw [hq] at HC hml
    rw [hml.out]
    clear HT hq
    go_enter Tryz.func82, Tryz.ntmps82
    go_wp2_with (go_at_fn g; refine HC.out.mono ?_; rintro e w' ⟨rfl, hb'⟩)
    go_ret
    exact ⟨rfl, hb0.out.trans (hb'.mono hb0.out.size)⟩
  | true =>
    rw [hq] at HC hml
    rw [hml.out]
    clear hq hml
    have HN0 := Lib.hid HC.out
    clear HC
    go_enter Tryz.func82, Tryz.ntmps82
    go_wp2_with (go_at_fn g; refine HN0.out.mono ?_; rintro e w1 ⟨rfl, hb1⟩; have k1 := six_cells ((hb1.block w.heap.size (ncell_lt (six_cells HT.out).1)).trans HT.out); obtain ⟨k0, k1, k2, k3, k4, k5⟩ := k1)
    go_loopg [7, 8, 10, 20] ps.length (fun gg s7 s8 s10 s20 wr => ∃ k A' c' r, k ≤ ps.length ∧ ps.length - k ≤ gg ∧ s20 = .int .i64 (k : Int) ∧ s7 = .slice A' (List.length r) c' ∧ List.length r ≤ c' ∧ Aside (Below w.heap.size w wr) ∧ Aside (SIn wr TT r A') ∧ Aside (goP (ps.take k) n.kids = some r) ∧ Aside (r <:+ n.kids))
    case atStart =>
      have HB := hb0.out.trans (hb1.mono hb0.out.size)
      exact ⟨0, ia, ic, n.kids, Nat.zero_le _, by omega, rfl, rfl, hcc, HB, HK.out.below HB, rfl, List.suffix_rfl⟩
    case round =>
      obtain ⟨k, A', c', r, hk, hg, rfl, rfl, hrc, BW, SI, HG, HSX⟩ := hrel
      by_cases hlt : k < ps.length
      · obtain ⟨b, o, rfl, hrow⟩ := HPR.out (by omega)
        obtain ⟨v, hcell, hsuf, g2, cap2, rfl, eg2, hcall⟩ := hrow k ps[k] (List.getElem?_eq_getElem hlt)
        have eg2' : ∀ (args : Array Value) (w : World), (callFunc g2 args).run Tryz.prog w = .ok (.enter g2 args) w := eg2
        have l2 := ncell_blk (fun hx => BW.out.block b hx) hcell
        have hrl : r.length ≤ 1000000 := by have := HSX.out.length_le; omega
        have HX := Lib.hid (hcall wr BW.out r A' c' (fun t ht => HDD.out t (HSX.out.subset ht)) hrl hrc SI.out)
        have HGT := Lib.hid (goP_take (List.getElem?_eq_getElem hlt) HG.out)
        have HSS := Lib.hid (hsuf r)
        have HKL := Lib.hid (And.intro hlt hg)
        have hlz : (k : Int) < (ps.length : Int) := by omega
        generalize ps[k] = p at *
        generalize hrn : r.length = rn at *
        clear hcall hsuf hcell hrow HG SI hg hrn hlt
        cases hq : p r with
        | none =>
          rw [hq] at HX HGT
          have HF : Hid (doneP (goP ps n.kids) = false) := Lib.hid (by rw [goP_none HGT.out]; rfl)
          clear hq
          go_wp2_with (go_at_fn g2; refine HX.out.mono ?_; rintro e w' ⟨⟨A2, n2, c2, rfl⟩, hb'⟩)
          go_ret
          refine ⟨?_, BW.out.trans (hb'.mono BW.out.size)⟩
          rw [HF.out]; rfl
        | some r2 =>
          rw [hq] at HX HGT
          have HS2 := Lib.hid ((HSS.out r2 hq).trans HSX.out)
          clear hq HSS
          go_wp2_with (go_at_fn g2; refine HX.out.mono ?_; rintro e w' ⟨⟨A2, c2, rfl, hc2, hs2⟩, hb'⟩)
          go_roundg (ps.length - (k + 1))
          case measure => have := HKL.out; omega
          case rel =>
            have h1 := HKL.out
            exact ⟨k + 1, A2, c2, r2, by omega, Nat.le_refl _, by go_num, rfl, hc2, BW.out.trans (hb'.mono BW.out.size), hs2, HGT.out, HS2.out⟩
      · have hke : k = ps.length := by omega
        have HF : Hid (doneP (goP ps n.kids) = decide (r.length = 0)) := Lib.hid (by
          have := HG.out
          rw [hke, List.take_length] at this
          rw [this]
          cases r <;> rfl)
        have hlz : ¬ (k : Int) < (ps.length : Int) := by omega
        clear hk hke hlt HG SI HSX hg
        generalize r.length = rn at *
        by_cases h0 : rn = 0
        · subst h0
          go_wp2_with fail
          go_ret
          refine ⟨?_, BW.out⟩
          rw [HF.out]; rfl
        · have h0' : ((rn : Int) == 0) = false := by simp only [beq_eq_false_iff_ne, ne_eq]; omega
          go_wp2_with fail
          go_ret
          refine ⟨?_, BW.out⟩
          rw [HF.out, decide_eq_false h0]; rfl
theorem funcV {f : FuncId} (h : Enters Tryz.prog f) : Enters Tryz.prog f := h
set_option maxRecDepth 100000 in
theorem one_any {D : Nd → Prop} {ss : List (Nd → Bool)} {A : Option Addr} {c : Nat} (w : World) (hs : FRow D w ss A) (h0 : 0 < ss.length) (h1 : ss.length ≤ 1000) :
    Calls Tryz.prog 116 #[.slice A ss.length c] w fun e w' => ∃ v, e = .returned v ∧ PtV D w' v (oneP ss) ∧ Below w.heap.size w w' := by
  have HB := Lib.hid (alloc_below w (.cells #[.slice A ss.length c] 137))
  have HT := Lib.hid (alloc_top w #[.slice A ss.length c] 137)
  have hmf : ∀ (fn : Fn) (first cap : Array Value) (w : World), (Instr.makeFunc fn first cap).run Tryz.prog w = .ok (.func fn first cap) w := fun _ _ _ _ => rfl
  go_enter Tryz.func116, Tryz.ntmps116
  go_wp2_with fail
  go_ret
  refine ⟨_, rfl, ⟨oneP_suffix ss, 144, #[.pointer (some ⟨w.heap.size, 0, none⟩)], rfl, enters_of Tryz.func144 (by kernel_rfl) rfl, ?_⟩, HB.out⟩
  intro W hW l A' c' hD hl hc hn
  exact one1_any l W (by rw [hW.block _ (Array.getElem?_eq_some_iff.1 HT.out).1]; exact HT.out) (hs.below (HB.out.trans (hW.mono HB.out.size))) h0 h1 hD hl hc hn
set_option maxRecDepth 100000 in
theorem many_any {D : Nd → Prop} {s : Nd → Bool} {v : Value} (w : World) (hs : FnV D w v s) :
    Calls Tryz.prog 83 #[v] w fun e w' => ∃ v, e = .returned v ∧ PtV D w' v (manyP s) ∧ Below w.heap.size w w' := by
  obtain ⟨g, cap, rfl, hrest⟩ := hs
  have hs : FnV D w (.func (.func g) #[] cap) s := ⟨g, cap, rfl, hrest⟩
  clear hrest
  have HB := Lib.hid (alloc_below w (.cells #[.func (.func g) #[] cap] 119))
  have HT := Lib.hid (alloc_top w #[.func (.func g) #[] cap] 119)
  have hmf : ∀ (fn : Fn) (first cap : Array Value) (w : World), (Instr.makeFunc fn first cap).run Tryz.prog w = .ok (.func fn first cap) w := fun _ _ _ _ => rfl
  have HS := Lib.hid hs
  clear hs
  go_enter Tryz.func83, Tryz.ntmps83
  go_wp2_with fail
  go_ret
  refine ⟨_, rfl, ⟨manyP_suffix s, 112, #[.pointer (some ⟨w.heap.size, 0, none⟩)], rfl, enters_of Tryz.func112 (by kernel_rfl) rfl, ?_⟩, HB.out⟩
  intro W hW l A' c' hD hl hc hn
  exact many1_any l W (by rw [hW.block _ (Array.getElem?_eq_some_iff.1 HT.out).1]; exact HT.out) (HS.out.below (HB.out.trans (hW.mono HB.out.size))) hD hl hc hn
/-- isEmpty. -/
theorem isEmpty_any (s : ByteArray) (w : World) : Calls Tryz.prog 146 #[.string s] w fun e w' => e = .returned (.bool (emB s)) ∧ Below w.heap.size w w' := by
  by_cases h : s.data.toList = []
  · have e1 : s.toList.isEmpty = true := by rw [toL, h]; rfl
    have HE : Hid (emB s = true) := Lib.hid (by unfold emB; simp [h])
    clear h
    go_enter Tryz.func146, Tryz.ntmps146
    go_wp2_with fail
    go_ret
    exact ⟨by rw [HE.out]; rfl, Below.refl _ _⟩
  · have e1 : s.toList.isEmpty = false := by rw [toL]; simpa using h
    have HE : Hid (emB s = false) := Lib.hid (by unfold emB; simpa using h)
    clear h
    go_enter Tryz.func146, Tryz.ntmps146
    go_wp2_with fail
    go_ret
    exact ⟨by rw [HE.out]; rfl, Below.refl _ _⟩
theorem list_inj {a b : ByteArray} (h : a.toList = b.toList) : a = b := by
  rw [toL, toL] at h
  apply ByteArray.ext
  exact Array.toList_inj.1 h
/-- Texts in memory, one cell each. -/
def WRow (W : World) (ws : List ByteArray) (A : Option Addr) : Prop := 0 < ws.length → ∃ b o, A = some ⟨b, o, none⟩ ∧ ∀ i s, ws[i]? = some s → W.cell? ⟨b, o + i, none⟩ = some (.string s)
theorem WRow.below {W W' : World} {ws : List ByteArray} {A : Option Addr} (h : WRow W ws A) (hb : Below W.heap.size W W') : WRow W' ws A := by
  intro hl
  obtain ⟨b, o, hA, h⟩ := h hl
  exact ⟨b, o, hA, fun i s hi => ncell_blk (fun hx => hb.block b hx) (h i s hi)⟩
set_option maxRecDepth 100000 in
set_option maxHeartbeats 1000000 in
theorem idxS_any (ws : List ByteArray) (A : Option Addr) (c : Nat) (hn : ws.length ≤ 1000000) (s : ByteArray) (w : World) (hw : WRow w ws A) :
    Calls Tryz.prog 193 #[.slice A ws.length c, .string s] w fun e w' => ∃ r, e = .returned (.int .i64 r) ∧ IdxOf (fun i => decide (ws[i]? = some s)) ws.length r ∧ Below w.heap.size w w' := by
  have HW := Lib.hid hw
  clear hw
  go_enter Tryz.func193, Tryz.ntmps193
  go_wp2_with fail
  go_loopg [5, 8] ws.length (fun gg _ s8 wr => ∃ kk : Nat, kk ≤ ws.length ∧ ws.length - kk ≤ gg ∧ s8 = .int .i64 kk ∧ Aside (w = wr) ∧ Aside (∀ j, j < kk → decide (ws[j]? = some s) = false))
  case atStart => exact ⟨0, Nat.zero_le _, by omega, rfl, rfl, fun j hj => absurd hj (Nat.not_lt_zero _)⟩
  case round =>
    obtain ⟨kk, hkk, hg, rfl, BW, A'⟩ := hrel
    have BW' := BW.out
    subst BW'
    by_cases hlt : kk < ws.length
    · have hltz : (kk : Int) < (ws.length : Int) := by omega
      obtain ⟨b, o, rfl, hrow⟩ := HW.out (by omega)
      have l2 := hrow kk ws[kk] (List.getElem?_eq_getElem hlt)
      have HE : Hid (ws[kk]? = some ws[kk]) := Lib.hid (List.getElem?_eq_getElem hlt)
      have HKL := Lib.hid (And.intro hlt hg)
      generalize ws[kk] = x at *
      clear hrow
      by_cases hq : s.toList = x.toList
      · have hq1 : (s.toList == x.toList) = true := by simpa using hq
        have HX : Hid (decide (ws[kk]? = some s) = true) := Lib.hid (by rw [HE.out, decide_eq_true_eq, Option.some.injEq]; exact (list_inj hq).symm)
        clear hq
        go_wp2_with fail
        go_ret
        exact ⟨_, rfl, .inr ⟨kk, HKL.out.1, rfl, HX.out, A'.out⟩, Below.refl _ _⟩
      · have hq1 : (s.toList == x.toList) = false := by simpa using hq
        have HX : Hid (decide (ws[kk]? = some s) = false) := Lib.hid (by rw [HE.out, decide_eq_false_iff_not, Option.some.injEq]; intro h; exact hq (by rw [h]))
        clear hq
        go_wp2_with fail
        go_roundg (ws.length - (kk + 1))
        case measure => have := HKL.out; omega
        case rel =>
          have h1 := HKL.out
          refine ⟨kk + 1, by omega, Nat.le_refl _, by go_num, (show Aside _ from rfl), (show Aside _ from fun j hj => ?_)⟩
          by_cases e : j = kk
          · subst e
            exact HX.out
          · exact A'.out j (by omega)
    · have hltz : ¬ (kk : Int) < (ws.length : Int) := by omega
      have : kk = ws.length := by omega
      subst this
      go_wp2
      go_ret
      exact ⟨_, rfl, .inl ⟨rfl, A'.out⟩, Below.refl _ _⟩
theorem any_idx (ws : List ByteArray) (s : ByteArray) : (ws.any fun x => decide (x = s)) = (List.range ws.length).any fun i => decide (ws[i]? = some s) := by
  rw [Bool.eq_iff_iff, List.any_eq_true, List.any_eq_true]
  constructor
  · rintro ⟨x, hx, h⟩
    obtain ⟨i, hi, rfl⟩ := List.getElem_of_mem hx
    exact ⟨i, List.mem_range.2 hi, by rw [List.getElem?_eq_getElem hi]; simpa using h⟩
  · rintro ⟨i, hi, h⟩
    have hi := List.mem_range.1 hi
    rw [List.getElem?_eq_getElem hi] at h
    exact ⟨ws[i], List.getElem_mem hi, by simpa using h⟩
set_option maxRecDepth 100000 in
theorem contS_any (ws : List ByteArray) (A : Option Addr) (c : Nat) (hn : ws.length ≤ 1000000) (s : ByteArray) (w : World) (hw : WRow w ws A) :
    Calls Tryz.prog 181 #[.slice A ws.length c, .string s] w fun e w' => e = .returned (.bool (ws.any fun x => decide (x = s))) ∧ Below w.heap.size w w' := by
  have HC := Lib.hid (idxS_any ws A c hn s w hw)
  have HA := Lib.hid (any_idx ws s)
  clear hw
  go_enter Tryz.func181, Tryz.ntmps181
  go_wp2_with fail
  refine HC.out.mono ?_
  rintro e w' ⟨r, rfl, hr, hb⟩
  have HB := Lib.hid hb
  clear hb
  rcases hr with ⟨rfl, h⟩ | ⟨k, hk, rfl, h1, h2⟩
  · have E1 : Hid ((ws.any fun x => decide (x = s)) = false) := Lib.hid (by
      rw [HA.out, List.any_eq_false]
      intro i hi
      have := h i (List.mem_range.1 hi)
      simpa using this)
    clear h
    go_wp2_with fail
    go_ret
    exact ⟨by rw [E1.out]; rfl, HB.out⟩
  · have E1 : Hid ((ws.any fun x => decide (x = s)) = true) := Lib.hid (by
      rw [HA.out, List.any_eq_true]
      exact ⟨k, List.mem_range.2 hk, h1⟩)
    have h0 : (0 : Int) ≤ (k : Int) := by omega
    clear h1 h2
    go_wp2_with fail
    go_ret
    exact ⟨by rw [E1.out]; rfl, HB.out⟩
set_option maxRecDepth 100000 in
theorem isWord_any {O : ByteArray → Prop} (ws : List ByteArray) (A : Option Addr) (c : Nat) (hn : ws.length ≤ 1000000) (w : World) (hw : WRow w ws A) :
    Calls Tryz.prog 163 #[.slice A ws.length c] w fun e w' => ∃ v, e = .returned v ∧ NmV O w' v (fun s => ws.any fun x => decide (x = s)) ∧ Below w.heap.size w w' := by
  have HB := Lib.hid (alloc_below w (.cells #[.slice A ws.length c] 112))
  have HT := Lib.hid (alloc_top w #[.slice A ws.length c] 112)
  have hmf : ∀ (fn : Fn) (first cap : Array Value) (w : World), (Instr.makeFunc fn first cap).run Tryz.prog w = .ok (.func fn first cap) w := fun _ _ _ _ => rfl
  go_enter Tryz.func163, Tryz.ntmps163
  go_wp2_with fail
  go_ret
  refine ⟨_, rfl, ⟨180, #[.pointer (some ⟨w.heap.size, 0, none⟩)], rfl, enters_of Tryz.func180 (by kernel_rfl) rfl, ?_⟩, HB.out⟩
  intro W hW s hs hO
  have HC := Lib.hid (contS_any ws A c hn s W (hw.below (HB.out.trans (hW.mono HB.out.size))))
  have kB : W.cell? ⟨w.heap.size, 0, none⟩ = some (.slice A ws.length c) := cell_kept (by unfold World.cell?; simp only [HT.out]; rfl) rfl hW
  clear HT HB hW hw hmf
  show Calls _ _ #[.string s, .pointer (some ⟨w.heap.size, 0, none⟩)] W _
  generalize w.heap.size = N at *
  go_enter Tryz.func180, Tryz.ntmps180
  go_wp2_with fail
  refine HC.out.mono ?_
  rintro e w' ⟨rfl, hb⟩
  have HB2 := Lib.hid hb
  clear hb HC
  go_wp2_with fail
  go_ret
  exact ⟨rfl, HB2.out⟩
theorem nm_empty (O : ByteArray → Prop) (w : World) : NmV O w (.func (.func 146) #[] #[]) emB :=
  ⟨_, _, rfl, enters_of Tryz.func146 (by kernel_rfl) rfl, fun W _ s _ _ => isEmpty_any s W⟩
theorem nm_name (O : ByteArray → Prop) (w : World) : NmV O w (.func (.func 45) #[] #[]) nmB :=
  ⟨_, _, rfl, enters_of Tryz.func45 (by kernel_rfl) rfl, fun W _ s hs _ => (name_any s hs W).mono (by rintro e w' ⟨rfl, rfl⟩; exact ⟨rfl, Below.refl _ _⟩)⟩
end Go.Proofs.YtcbfohokigamfaaGreatDoor
