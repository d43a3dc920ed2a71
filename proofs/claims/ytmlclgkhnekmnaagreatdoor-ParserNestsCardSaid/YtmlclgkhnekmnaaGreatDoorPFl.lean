/- Part of a proof. -/
import Derived.Test.YtmlclgkhnekmnaaGreatDoorPLeaf3
namespace Go.Proofs.YtmlclgkhnekmnaaGreatDoor
open Go.RowKit
inductive SelG : Nd → Prop where
 | other (n : Nd) (h : n.kind ≠ 26) : SelG n
 | sel (n e : Nd) (l : List Nd) (h : n.kids = e :: l) (he : SelG e) : SelG n
theorem SelG.some {n : Nd} (h : SelG n) (hk : n.kind = 26) : ∃ e l, n.kids = e :: l ∧ SelG e := by
 cases h with
 | other _ h => exact absurd hk h
 | sel _ e l h he => exact ⟨e, l, h, he⟩
def NdQ (p : PC) (Q : Nat → Prop) (w : World) (s : Ps) : Pz Nd → Ending → World → Prop
 | .ok n s', e, w' => (∃ v, e = .returned v ∧ NIn w' Q n v) ∧ PSt p w' s' ∧ PFr p.R w w' ∧ s.i ≤ s'.i ∧ s'.o = s.o
 | .bad k x, e, w' => e = .panicked [stopV k x] ∧ PFr p.R w w'
def SimC (p : PC) (ex : Rd) : Prop := ∀ (Q : Nat → Prop) (n : Nd) (A : Option Addr) (c : Nat) (s : Ps) (w : World), PSt p w s → 1 ≤ s.i → SelG n → n.kids.length ≤ c → SIn w Q n.kids A → (∀ b, w.heap.size ≤ b → Q b) → ¬ Q p.R → ∀ r, simpleP p.ts ex n s = some r →
 Calls Tryz.prog 170 #[.pointer (some ⟨p.R, 0, none⟩), .agg #[.int .i64 n.kind, .int .i64 n.fro, .int .i64 n.till, .int .i64 n.at', .string n.name, .slice A n.kids.length c]] w (NdQ p Q w s r)
def LitC (p : PC) (ex : Rd) (f : Nat) : Prop := ∀ (Q : Nat → Prop) (n : Nd) (A : Option Addr) (c : Nat) (s : Ps) (w : World), PSt p w s → 1 ≤ s.i → n.kids.length ≤ c → SIn w Q n.kids A → (∀ b, w.heap.size ≤ b → Q b) → ¬ Q p.R → ∀ r, literalP p.ts ex f n s = some r →
 Calls Tryz.prog 195 #[.pointer (some ⟨p.R, 0, none⟩), .agg #[.int .i64 n.kind, .int .i64 n.fro, .int .i64 n.till, .int .i64 n.at', .string n.name, .slice A n.kids.length c]] w (NdQ p Q w s r)
def ThEnd (p : PC) (w : World) (s : Ps) : Pz (Nd × Nd × Nd) → Ending → World → Prop
 | .ok t s', e, w' => (∃ a b c, e = .returned (.tuple #[a, b, c]) ∧ NIn w' (fun b => w.heap.size ≤ b) t.1 a ∧ NIn w' (fun b => w.heap.size ≤ b) t.2.1 b ∧ NIn w' (fun b => w.heap.size ≤ b) t.2.2 c) ∧ PSt p w' s' ∧ PFr p.R w w' ∧ s.i < s'.i ∧ s'.o = s.o
 | .bad k x, e, w' => e = .panicked [stopV k x] ∧ PFr p.R w w'
def LhC (p : PC) (π : Ps → Pf (Nd × Nd × Nd)) : Prop := ∀ (s : Ps) (w : World), PSt p w s → 1 ≤ s.i → ∀ r, π s = some r → Calls Tryz.prog 188 #[.pointer (some ⟨p.R, 0, none⟩)] w (ThEnd p w s r)
set_option maxRecDepth 100000 in
set_option maxHeartbeats 1000000 in
theorem pisNamed_any (n : Nd) (A : Option Addr) (c : Nat) (w : World) : Calls Tryz.prog 192 #[.agg #[.int .i64 n.kind, .int .i64 n.fro, .int .i64 n.till, .int .i64 n.at', .string n.name, .slice A n.kids.length c]] w fun e w' => e = .returned (.bool (namedN n)) ∧ Below w.heap.size w w' := by
 obtain ⟨b, hb⟩ : ∃ b, (n.kind == 25) = b := ⟨_, rfl⟩
 have HB := Lib.hid hb
 generalize hn : n.kind = k at *
 have HN := Lib.hid hn
 generalize n.kids.length = len at *
 clear hn
 cases b with
 | true =>
  go_enter Tryz.func192, Tryz.ntmps192
  go_wp2_with fail
  go_ret
  exact ⟨by unfold namedN kN; rw [HN.out, HB.out]; rfl, alloc_below _ _⟩
 | false =>
  go_enter Tryz.func192, Tryz.ntmps192
  go_wp2_with fail
  go_ret
  exact ⟨by unfold namedN kN; rw [HN.out, HB.out]; rfl, alloc_below _ _⟩
set_option maxRecDepth 100000 in
set_option maxHeartbeats 1000000 in
theorem pisCall_any (n : Nd) (A : Option Addr) (c : Nat) (w : World) : Calls Tryz.prog 190 #[.agg #[.int .i64 n.kind, .int .i64 n.fro, .int .i64 n.till, .int .i64 n.at', .string n.name, .slice A n.kids.length c]] w fun e w' => e = .returned (.bool (callN n)) ∧ Below w.heap.size w w' := by
 obtain ⟨a, ha⟩ : ∃ b, (n.kind == 27) = b := ⟨_, rfl⟩
 obtain ⟨b, hb⟩ : ∃ b, (n.kind == 32) = b := ⟨_, rfl⟩
 obtain ⟨x, hx⟩ : ∃ b, (n.name.toList == [112, 114, 105, 110, 116]) = b := ⟨_, rfl⟩
 obtain ⟨y, hy⟩ : ∃ b, (n.name.toList == [112, 97, 110, 105, 99]) = b := ⟨_, rfl⟩
 have HE : Hid (callN n = if a then true else if b then (x || y) else false) := Lib.hid (by unfold callN kN; rw [ha, hb]; rw [show (n.name.toList == wPrint) = x from hx, show (n.name.toList == wPanic) = y from hy])
 generalize n.kind = k at *
 generalize n.name = nn at *
 generalize n.kids.length = len at *
 cases a with
 | true =>
  clear hb hx hy
  go_enter Tryz.func190, Tryz.ntmps190
  go_wp2_with fail
  go_ret
  exact ⟨by rw [HE.out]; rfl, alloc_below _ _⟩
 | false =>
  cases b with
  | true =>
   cases x with
   | true =>
    go_enter Tryz.func190, Tryz.ntmps190
    go_wp2_with fail
    go_ret
    exact ⟨by rw [HE.out]; rfl, alloc_below _ _⟩
   | false =>
    go_enter Tryz.func190, Tryz.ntmps190
    go_wp2_with fail
    go_ret
    exact ⟨by rw [HE.out]; cases y <;> first | rfl | simp [hy], alloc_below _ _⟩
  | false =>
   clear hx hy
   go_enter Tryz.func190, Tryz.ntmps190
   go_wp2_with fail
   go_ret
   exact ⟨by rw [HE.out]; rfl, alloc_below _ _⟩
set_option maxRecDepth 100000 in
set_option maxHeartbeats 1000000 in
theorem pisTypes_any (n : Nd) (hg : SelG n) (A : Option Addr) (c : Nat) (P : Nat → Prop) (w : World) (hk : SIn w P n.kids A) : Calls Tryz.prog 194 #[.agg #[.int .i64 n.kind, .int .i64 n.fro, .int .i64 n.till, .int .i64 n.at', .string n.name, .slice A n.kids.length c]] w fun e w' => e = .returned (.bool (typesN n)) ∧ Below w.heap.size w w' := by
 obtain ⟨a, ha⟩ : ∃ b, (n.kind == 25) = b := ⟨_, rfl⟩
 obtain ⟨b, hb⟩ : ∃ b, (n.kind == 26) = b := ⟨_, rfl⟩
 cases a with
 | true =>
  have HE : Hid (typesN n = true) := Lib.hid (by unfold typesN kN; rw [ha]; rfl)
  clear hb hk hg
  generalize n.kind = k at *
  generalize n.kids.length = len at *
  go_enter Tryz.func194, Tryz.ntmps194
  go_wp2_with fail
  go_ret
  exact ⟨by rw [HE.out]; rfl, alloc_below _ _⟩
 | false =>
  cases b with
  | false =>
   have HE : Hid (typesN n = false) := Lib.hid (by unfold typesN kN; rw [ha, hb]; rfl)
   clear hk hg
   generalize n.kind = k at *
   generalize n.kids.length = len at *
   go_enter Tryz.func194, Tryz.ntmps194
   go_wp2_with fail
   go_ret
   exact ⟨by rw [HE.out]; rfl, alloc_below _ _⟩
  | true =>
   obtain ⟨e, l, hl, -⟩ := hg.some (by simpa using hb)
   obtain ⟨g, o, rfl, -, hrow⟩ := hk (by rw [hl]; simp)
   obtain ⟨ia, ic, d0, -⟩ := hrow.row (i := 0) (n := e) (by rw [hl]; rfl)
   obtain ⟨x, hx⟩ : ∃ b, (e.kind == 25) = b := ⟨_, rfl⟩
   have HE : Hid (typesN n = x) := Lib.hid (by unfold typesN kN kid0; rw [ha, hb, hl]; exact hx)
   have hlen : n.kids.length = l.length + 1 := by rw [hl]; rfl
   have hgl := ncell_lt d0
   rw [hlen]
   simp only [Nat.zero_mul, Nat.add_zero] at d0
   generalize n.kind = k at *
   generalize e.kind = q at *
   have hz : (0 : Int) < (l.length : Int) + 1 := by omega
   clear hrow hl hk hg hlen
   go_enter Tryz.func194, Tryz.ntmps194
   go_wp2_with fail
   go_ret
   exact ⟨by rw [HE.out]; rfl, alloc_below _ _⟩
theorem pathF_other {f : Nat} {n : Nd} (h : (n.kind == 26) = false) : pathF (f + 1) n = (n.kind == 25) := by
 unfold pathF kN; rw [h]; rfl
theorem pathF_sel {f : Nat} {n e : Nd} {l : List Nd} (h : (n.kind == 26) = true) (hl : n.kids = e :: l) : pathF (f + 1) n = pathF f e := by
 rw [show pathF (f + 1) n = (if kN n 26 then pathF f (kid0 n) else kN n 25) from rfl]
 unfold kN kid0; rw [h, hl]; rfl
theorem pathF_eq : ∀ (f g : Nat) (n : Nd), SelG n → sz n < f → sz n < g → pathF f n = pathF g n
 | 0, _, _, _, h, _ => by omega
 | _, 0, _, _, _, h => by omega
 | f + 1, g + 1, n, hs, h1, h2 => by
  cases hk : (n.kind == 26) with
  | false => rw [pathF_other hk, pathF_other hk]
  | true =>
   obtain ⟨e, l, hl, he⟩ := hs.some (by simpa using hk)
   rw [pathF_sel hk hl, pathF_sel hk hl]
   have := sz_kid (n := n) (m := e) (i := 0) (by rw [hl]; rfl)
   exact pathF_eq f g e he (by omega) (by omega)
set_option maxRecDepth 100000 in
set_option maxHeartbeats 2000000 in
theorem pisPath_any (n : Nd) (hg : SelG n) (A : Option Addr) (c : Nat) (P : Nat → Prop) (w : World) (hc : n.kids.length ≤ c) (hk : SIn w P n.kids A) : Calls Tryz.prog 189 #[.agg #[.int .i64 n.kind, .int .i64 n.fro, .int .i64 n.till, .int .i64 n.at', .string n.name, .slice A n.kids.length c]] w fun e w' => e = .returned (.bool (pathN n)) ∧ Below w.heap.size w w' := by
 have HS0 := Lib.hid (And.intro hg (And.intro hc hk))
 have HT0 := Lib.hid (alloc_top w #[.int .i64 n.kind, .int .i64 n.fro, .int .i64 n.till, .int .i64 n.at', .string n.name, .slice A n.kids.length c] 24)
 have HB0 := Lib.hid (alloc_below w (.cells #[.int .i64 n.kind, .int .i64 n.fro, .int .i64 n.till, .int .i64 n.at', .string n.name, .slice A n.kids.length c] 24))
 clear hg hc hk
 go_enter Tryz.func189, Tryz.ntmps189
 go_wp2_with fail
 go_loopg [] (sz n) (fun gg wr => ∃ (x : Nd) (X : Option Addr) (cx : Nat), Hid (sz x ≤ gg ∧ SelG x ∧ pathF (sz n + 1) n = pathF (sz x + 1) x) ∧ Hid (wr.heap[w.heap.size]? = some (.cells #[.int .i64 x.kind, .int .i64 x.fro, .int .i64 x.till, .int .i64 x.at', .string x.name, .slice X x.kids.length cx] 24 (0, 0))) ∧ Hid (SIn wr (fun b => P b ∧ b < w.heap.size) x.kids X) ∧ Hid (Below w.heap.size w wr))
 case atStart => exact ⟨n, A, c, Lib.hid ⟨Nat.le_refl _, HS0.out.1, rfl⟩, HT0, Lib.hid (SIn.below (HS0.out.2.2.wide (fun k hk hp => ⟨hp, hk⟩)) HB0.out), HB0⟩
 case round =>
  obtain ⟨x, X, cx, HX, HT, HK, HB⟩ := hrel
  clear HT0 HB0
  obtain ⟨q0, q1, q2, q3, q4, q5⟩ := six_cells HT.out
  cases hb : (x.kind == 26) with
  | false =>
   have HE : Hid (pathN n = (x.kind == 25)) := Lib.hid (by show pathF (sz n + 1) n = _; rw [HX.out.2.2, pathF_other hb])
   clear HX HK
   go_wp2_with fail
   go_ret
   exact ⟨by rw [HE.out]; rfl, HB.out⟩
  | true =>
   obtain ⟨e, l, hl, he⟩ := HX.out.2.1.some (by simpa using hb)
   obtain ⟨g, o, rfl, hP, hrow⟩ := HK.out (by rw [hl]; simp)
   obtain ⟨ia, ic, d0, d1, d2, d3, d4, d5, hic, hkk⟩ := hrow.row (i := 0) (n := e) (by rw [hl]; rfl)
   have HX2 : Hid (sz e + 1 ≤ gk ∧ SelG e ∧ pathF (sz n + 1) n = pathF (sz e + 1) e) := Lib.hid (by
    have h1 := sz_kid (n := x) (m := e) (i := 0) (by rw [hl]; rfl)
    have h2 := HX.out
    refine ⟨by omega, he, ?_⟩
    rw [h2.2.2, pathF_sel hb hl]
    exact pathF_eq _ _ e he (by omega) (by omega))
   have HK2 := Lib.hid hkk
   have hlen : x.kids.length = l.length + 1 := by rw [hl]; rfl
   have hz : (0 : Int) < (l.length : Int) + 1 := by omega
   simp only [Nat.zero_mul, Nat.add_zero] at d0 d1 d2 d3 d4 d5
   rw [hlen] at q5
   have hgw : g ≠ w.heap.size := by omega
   have HGW := Lib.hid hP
   have f0 := frozen_of_row _ w.heap.size 0 _ _ HT.out
   have f1 := frozen_of_row _ w.heap.size 1 _ _ HT.out
   have f2 := frozen_of_row _ w.heap.size 2 _ _ HT.out
   have f3 := frozen_of_row _ w.heap.size 3 _ _ HT.out
   have f4 := frozen_of_row _ w.heap.size 4 _ _ HT.out
   have f5 := frozen_of_row _ w.heap.size 5 _ _ HT.out
   clear HX HK hrow hl hlen hkk he hP
   go_wp2_with fail
   go_roundg (sz e)
   case measure => have := HX2.out.1; omega
   case rel => exact ⟨e, ia, ic, Lib.hid ⟨Nat.le_refl _, HX2.out.2⟩, Lib.hid (six_heap HT.out), Lib.hid (HK2.out.keep (fun k hk _ => six_otherP (by have := hk.2; omega) ..) (fun _ hk _ => hk)), Lib.hid (below_set6 HB.out (Nat.le_refl _))⟩
theorem lit_kind {ts : List Tok} {ex : Rd} {f : Nat} {e n : Nd} {s s2 : Ps} (h : literalP ts ex f e s = some (.ok n s2)) : n.kind ≠ 26 := by
 unfold literalP at h
 obtain ⟨r0, hx, hr⟩ := bind_pf h
 cases r0 with
 | bad k e => cases hr
 | ok l s1 =>
  have h2 := Option.some.inj hr
  injection h2 with h3 h4
  rw [← h3]
  show ((28 : Nat) : Int) ≠ 26
  decide
end Go.Proofs.YtmlclgkhnekmnaaGreatDoor
namespace Go.Proofs.YtmlclgkhnekmnaaGreatDoor
open Go.RowKit
theorem some_ok {α : Type} {a b : α} {s t : Ps} (h : (some (Pz.ok a s) : Pf α) = some (.ok b t)) : a = b ∧ s = t := by
 injection h with h
 injection h with h1 h2
 exact ⟨h1, h2⟩
theorem bind_done {α β : Type} {x : Pf α} {f : α → Ps → Pf β} {b : β} {t : Ps} (h : x.bind f = some (.ok b t)) : ∃ a s, x = some (.ok a s) ∧ f a s = some (.ok b t) := by
 obtain ⟨r0, hx, hr⟩ := bind_pf h
 cases r0 with
 | bad k e => cases hr
 | ok a s => exact ⟨a, s, hx, hr⟩
theorem okN_kind {ts : List Tok} {k f a : Nat} {x : List UInt8} {l : List Nd} {s t : Ps} {n : Nd} (h : okN ts k f a x l s = some (.ok n t)) : n.kind = (k : Int) := by
 obtain ⟨rfl, -⟩ := some_ok h
 rfl
theorem leaf_kind {ts : List Tok} {k : Nat} {s t : Ps} {n : Nd} (h : leafP ts k s = some (.ok n t)) : n.kind = (k : Int) := by
 unfold leafP at h
 obtain ⟨_, _, -, h⟩ := bind_done h
 exact okN_kind h
theorem operand_kind {ts : List Tok} {ex : Rd} {f : Nat} {s t : Ps} {n : Nd} (h : operandP ts ex f s = some (.ok n t)) : n.kind ≠ 26 := by
 unfold operandP at h
 repeat' split at h
 · rw [leaf_kind h]; decide
 · rw [leaf_kind h]; decide
 · rw [leaf_kind h]; decide
 · rw [leaf_kind h]; decide
 · rw [leaf_kind h]; decide
 · obtain ⟨_, _, -, h⟩ := bind_done h
   obtain ⟨_, _, -, h⟩ := bind_done h
   rw [okN_kind h]; decide
 · obtain ⟨_, _, -, h⟩ := bind_done h
   obtain ⟨_, _, -, h⟩ := bind_done h
   obtain ⟨_, _, -, h⟩ := bind_done h
   rw [okN_kind h]; decide
theorem chainL_sel {ts : List Tok} {ex : Rd} {f0 : Nat} : ∀ (f : Nat) (e : Nd) (s : Ps) (n : Nd) (t : Ps), SelG e → chainL ts ex f0 f e s = some (.ok n t) → SelG n
 | 0, _, _, _, _, _, h => by cases h
 | f + 1, e, s, n, t, he, h => by
  unfold chainL at h
  repeat' split at h
  · obtain ⟨a, s1, -, h⟩ := bind_done h
    exact chainL_sel f _ _ _ _ (.sel _ e [] rfl he) h
  · obtain ⟨l, s1, -, h⟩ := bind_done h
    exact chainL_sel f _ _ _ _ (.other _ (by show ((27 : Nat) : Int) ≠ 26; decide)) h
  · obtain ⟨y, s1, hy, h⟩ := bind_done h
    exact chainL_sel f _ _ _ _ (.other _ (lit_kind hy)) h
  · obtain ⟨rfl, -⟩ := some_ok h
    exact he
theorem chain_sel {ts : List Tok} {ex : Rd} {f : Nat} {s t : Ps} {n : Nd} (h : chainP ts ex f s = some (.ok n t)) : SelG n := by
 unfold chainP at h
 obtain ⟨e, s1, he, h⟩ := bind_done h
 exact chainL_sel f e s1 n t (.other _ (operand_kind he)) h
theorem binL_sel {ts : List Tok} {bi : Nat → Rd} {least : Nat} : ∀ (f : Nat) (e : Nd) (s : Ps) (n : Nd) (t : Ps), SelG e → binL ts bi least f e s = some (.ok n t) → SelG n
 | 0, _, _, _, _, _, h => by cases h
 | f + 1, e, s, n, t, he, h => by
  unfold binL at h
  split at h
  · obtain ⟨rfl, -⟩ := some_ok h
    exact he
  · obtain ⟨x, s1, -, h⟩ := bind_done h
    exact binL_sel f _ _ _ _ (.other _ (by show ((31 : Nat) : Int) ≠ 26; decide)) h
theorem exF_sel (ts : List Tok) : ∀ (f : Nat), (∀ s n t, (exF ts f).1 s = some (.ok n t) → SelG n) ∧ ∀ l s n t, (exF ts f).2 l s = some (.ok n t) → SelG n
 | 0 => ⟨(fun s n t h => by cases h), (fun l s n t h => by cases h)⟩
 | f + 1 => by
  have ih := exF_sel ts f
  refine ⟨fun s n t h => ?_, fun l s n t h => ?_⟩
  · change unaryP ts (exF ts f).1 ((exF ts f).2 1) f s = _ at h
    unfold unaryP at h
    split at h
    · obtain ⟨_, _, -, h⟩ := bind_done h
      obtain ⟨_, _, -, h⟩ := bind_done h
      exact .other _ (by rw [okN_kind h]; decide)
    · exact chain_sel h
  · change binaryP ts (exF ts f).1 (exF ts f).2 f l s = _ at h
    unfold binaryP at h
    obtain ⟨e, s1, he, h⟩ := bind_done h
    exact binL_sel f e s1 n t (ih.1 _ _ _ he) h
end Go.Proofs.YtmlclgkhnekmnaaGreatDoor
namespace Go.Proofs.YtmlclgkhnekmnaaGreatDoor
open Go.RowKit
structure Fb (p : PC) (w W : World) (s : Ps) : Prop where
 st : PSt p W s
 fr : PFr p.R w W
 rlt : p.R < w.heap.size
 glt : p.G < w.heap.size
 res : ∃ c0 c1 c2 c3 c4 c5, W.heap[w.heap.size + 1]? = some (.cells #[c0, c1, c2, c3, c4, c5] 24 (0, 0))
theorem Fb.start {p : PC} {w : World} {s : Ps} (h : PSt p w s) (o : Obj) (c0 c1 c2 c3 c4 c5 : Value) : Fb p w ((w.alloc o).alloc (.cells #[c0, c1, c2, c3, c4, c5] 24)) s :=
 ⟨(h.alloc _).alloc _, ((PFr.refl _ _).alloc _).alloc _, h.rlt, h.glt, c0, c1, c2, c3, c4, c5, alloc_top2 w _ _ _⟩
theorem Fb.lt {p : PC} {w W : World} {s : Ps} (h : Fb p w W s) : w.heap.size + 1 < W.heap.size := by
 obtain ⟨_, _, _, _, _, _, h⟩ := h.res
 exact (Array.getElem?_eq_some_iff.1 h).1
theorem Fb.step {p : PC} {w W W' : World} {s s' : Ps} (h : Fb p w W s) (hf : PFr p.R W W') (hs : PSt p W' s') : Fb p w W' s' := by
 obtain ⟨c0, c1, c2, c3, c4, c5, hr⟩ := h.res
 exact ⟨hs, h.fr.trans hf, h.rlt, h.glt, c0, c1, c2, c3, c4, c5, hf.kept (by have := h.rlt; omega) hr⟩
theorem Fb.below {p : PC} {w W W' : World} {s : Ps} (h : Fb p w W s) (hb : Below W.heap.size W W') : Fb p w W' s := h.step (PFr.of_below hb) (h.st.below hb)
theorem Fb.alloc {p : PC} {w W : World} {s : Ps} (h : Fb p w W s) (o : Obj) : Fb p w (W.alloc o) s := h.below (alloc_below W o)
theorem Fb.set {p : PC} {w W : World} {s : Ps} (h : Fb p w W s) {a : Addr} (ha : w.heap.size ≤ a.block ∧ a.block ≠ w.heap.size + 1) (v : Value) : Fb p w (W.setCell a v) s := by
 obtain ⟨c0, c1, c2, c3, c4, c5, hr⟩ := h.res
 have := h.rlt; have := h.glt
 exact ⟨h.st.set (by omega) (by omega) v, h.fr.set (.inr ha.1) v, h.rlt, h.glt, c0, c1, c2, c3, c4, c5, (heap_setCell_other W a (w.heap.size + 1) v (by omega)).trans hr⟩
abbrev QB (Q : Nat → Prop) (w : World) (b : Nat) : Prop := (Q b ∧ b < w.heap.size) ∨ w.heap.size + 1 < b
theorem Fb.done {p : PC} {Q : Nat → Prop} {w W : World} {s s' : Ps} (h : Fb p w W s') (hQ : ∀ b, w.heap.size ≤ b → Q b) {k f t a : Int} {x : ByteArray} {l : List Nd} {A : Option Addr} {c : Nat} (hs : SIn W (QB Q w) l A) (hc : l.length ≤ c) (hlt : s.i ≤ s'.i) (ho : s'.o = s.o) (v0 v1 v2 v3 v4 v5 : Value) (hv : Value.agg #[v0, v1, v2, v3, v4, v5] = .agg #[.int .i64 k, .int .i64 f, .int .i64 t, .int .i64 a, .string x, .slice A l.length c]) :
 NdQ p Q w s (.ok (.mk k f t a x l) s') (.returned (.agg #[v0, v1, v2, v3, v4, v5])) ((((((W.setCell ⟨w.heap.size + 1, 0, none⟩ v0).setCell ⟨w.heap.size + 1, 1, none⟩ v1).setCell ⟨w.heap.size + 1, 2, none⟩ v2).setCell ⟨w.heap.size + 1, 3, none⟩ v3).setCell ⟨w.heap.size + 1, 4, none⟩ v4).setCell ⟨w.heap.size + 1, 5, none⟩ v5) := by
 have hr := h.rlt; have hg := h.glt
 have n1 : w.heap.size + 1 ≠ p.R := by omega
 have n2 : w.heap.size + 1 ≠ p.G := by omega
 have n3 : w.heap.size ≤ w.heap.size + 1 := by omega
 refine ⟨⟨_, rfl, ?_⟩, ?_, ?_, hlt, ho⟩
 · rw [hv]
   exact NIn.shut (n := .mk k f t a x l) hc (hs.keep (fun k hk _ => six_otherP (R := w.heap.size + 1) (by rcases hk with hk | hk <;> omega) ..) (fun k hk _ => by rcases hk with hk | hk; exact hk.1; exact hQ k (by omega)))
 · exact (((((h.st.set (a := ⟨w.heap.size + 1, 0, none⟩) n1 n2 _).set (a := ⟨w.heap.size + 1, 1, none⟩) n1 n2 _).set (a := ⟨w.heap.size + 1, 2, none⟩) n1 n2 _).set (a := ⟨w.heap.size + 1, 3, none⟩) n1 n2 _).set (a := ⟨w.heap.size + 1, 4, none⟩) n1 n2 _).set (a := ⟨w.heap.size + 1, 5, none⟩) n1 n2 _
 · exact (((((h.fr.set (p := ⟨w.heap.size + 1, 0, none⟩) (.inr n3) _).set (p := ⟨w.heap.size + 1, 1, none⟩) (.inr n3) _).set (p := ⟨w.heap.size + 1, 2, none⟩) (.inr n3) _).set (p := ⟨w.heap.size + 1, 3, none⟩) (.inr n3) _).set (p := ⟨w.heap.size + 1, 4, none⟩) (.inr n3) _).set (p := ⟨w.heap.size + 1, 5, none⟩) (.inr n3) _
end Go.Proofs.YtmlclgkhnekmnaaGreatDoor
namespace Go.Proofs.YtmlclgkhnekmnaaGreatDoor
open Go.RowKit
structure Fl (p : PC) (w W : World) (s : Ps) : Prop where
 st : PSt p W s
 fr : PFr p.R w W
 rlt : p.R < w.heap.size
 glt : p.G < w.heap.size
 lt : w.heap.size + 2 < W.heap.size
theorem Fl.step {p : PC} {w W W' : World} {s s' : Ps} (h : Fl p w W s) (hf : PFr p.R W W') (hs : PSt p W' s') : Fl p w W' s' := ⟨hs, h.fr.trans hf, h.rlt, h.glt, Nat.lt_of_lt_of_le h.lt hf.size⟩
theorem Fl.below {p : PC} {w W W' : World} {s : Ps} (h : Fl p w W s) (hb : Below W.heap.size W W') : Fl p w W' s := h.step (PFr.of_below hb) (h.st.below hb)
theorem Fl.alloc {p : PC} {w W : World} {s : Ps} (h : Fl p w W s) (o : Obj) : Fl p w (W.alloc o) s := h.below (alloc_below W o)
theorem Fl.drew {p : PC} {w W : World} {s : Ps} (h : Fl p w W s) : Fl p w W.drew s := ⟨h.st.keep rfl rfl, h.fr.drew, h.rlt, h.glt, h.lt⟩
theorem Fl.set {p : PC} {w W : World} {s : Ps} (h : Fl p w W s) {a : Addr} (ha : w.heap.size ≤ a.block) (v : Value) : Fl p w (W.setCell a v) s := by
 have := h.rlt; have := h.glt
 exact ⟨h.st.set (by omega) (by omega) v, h.fr.set (.inr ha) v, h.rlt, h.glt, by rw [World.size_setCell]; exact h.lt⟩
theorem Fl.set6 {p : PC} {w W : World} {s : Ps} (h : Fl p w W s) {N : Nat} (ha : w.heap.size ≤ N) (a b c d e f : Value) : Fl p w ((((((W.setCell ⟨N, 0, none⟩ a).setCell ⟨N, 1, none⟩ b).setCell ⟨N, 2, none⟩ c).setCell ⟨N, 3, none⟩ d).setCell ⟨N, 4, none⟩ e).setCell ⟨N, 5, none⟩ f) s :=
 (((((h.set (a := ⟨N, 0, none⟩) ha a).set (a := ⟨N, 1, none⟩) ha b).set (a := ⟨N, 2, none⟩) ha c).set (a := ⟨N, 3, none⟩) ha d).set (a := ⟨N, 4, none⟩) ha e).set (a := ⟨N, 5, none⟩) ha f
theorem Fl.done {p : PC} {w W : World} {s s' : Ps} (h : Fl p w W s') {a b c : Nd} {A B C : Option Addr} {x y z : Nat} (ha : a.kids.length ≤ x ∧ SIn W (fun b => w.heap.size + 2 < b) a.kids A) (hb : b.kids.length ≤ y ∧ SIn W (fun b => w.heap.size + 2 < b) b.kids B) (hc : c.kids.length ≤ z ∧ SIn W (fun b => w.heap.size + 2 < b) c.kids C) (hlt : s.i < s'.i) (ho : s'.o = s.o) :
 ThEnd p w s (.ok (a, b, c) s') (.returned (.tuple #[.agg (cNd a A x), .agg (cNd b B y), .agg (cNd c C z)])) W :=
 ⟨⟨_, _, _, rfl, NIn.shut ha.1 (ha.2.wide (fun k _ hk => by have : w.heap.size + 2 < k := hk; omega)), NIn.shut hb.1 (hb.2.wide (fun k _ hk => by have : w.heap.size + 2 < k := hk; omega)), NIn.shut hc.1 (hc.2.wide (fun k _ hk => by have : w.heap.size + 2 < k := hk; omega))⟩, h.st, h.fr, hlt, ho⟩
theorem ret_cell3A {fn : Func} {p q t : Tmp} {ty : TypeId} (hr : fn.results = #[.cell p ty, .cell q ty, .cell t ty]) {A B C : Nat} {wq : World} {Q : Ending → World → Prop} (tmps : Array Value) (hp : tmps.getD p undef = .pointer (some ⟨A, 0, none⟩)) (hq : tmps.getD q undef = .pointer (some ⟨B, 0, none⟩)) (ht : tmps.getD t undef = .pointer (some ⟨C, 0, none⟩)) (x y z : Value)
 (hx : (loadVar ty ⟨A, 0, none⟩).run Tryz.prog wq = .ok x wq) (hy : (loadVar ty ⟨B, 0, none⟩).run Tryz.prog wq = .ok y wq) (hz : (loadVar ty ⟨C, 0, none⟩).run Tryz.prog wq = .ok z wq) (h : Q (.returned (.tuple #[x, y, z])) wq) : bodyPost Tryz.prog fn Q Exit.ret ⟨tmps, []⟩ wq := by
 refine bodyPost_ret (v := .tuple #[x, y, z]) ?_ rfl h
 simp only [results, hr]
 simp only [Array.getD_eq_getD_getElem?] at hp hq ht
 simp [Sem.run_bind, Result.andThen, hp, hq, ht, asAddr, hx, hy, hz]
theorem load_ndD {wq : World} {N : Nat} {a b c d e f : Value} {T : TypeId} (hg : wq.heap[N]? = some (.cells #[a, b, c, d, e, f] T (0, 0))) : (loadVar 24 ⟨N, 0, none⟩).run Tryz.prog wq.drew = .ok (.agg #[a, b, c, d, e, f]) wq.drew := load_nd (wq := wq.drew) hg
theorem SIn.drewP {p : PC} {W : World} {P : Nat → Prop} {l : List Nd} {A : Option Addr} (h : SIn W P l A) (hP : ¬ P p.R) : SIn W.drew P l A := SIn.fr h ((PFr.refl p.R W).drew) hP
end Go.Proofs.YtmlclgkhnekmnaaGreatDoor
