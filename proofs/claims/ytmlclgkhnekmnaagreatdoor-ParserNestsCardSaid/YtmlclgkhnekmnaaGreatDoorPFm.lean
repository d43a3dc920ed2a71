/- Part of a proof. -/
import Derived.Test.YtmlclgkhnekmnaaGreatDoorPPars
import Derived.Test.YtmlclgkhnekmnaaGreatDoorNCell
namespace Go.Proofs.YtmlclgkhnekmnaaGreatDoor
open Go.RowKit
structure PFr (R : Nat) (w w' : World) : Prop where
 os : w'.os = w.os
 tape : w'.tape = w.tape
 output : w'.output = w.output
 size : w.heap.size ≤ w'.heap.size
 block : ∀ k, k < w.heap.size → k ≠ R → w'.heap[k]? = w.heap[k]?
theorem PFr.refl (R : Nat) (w : World) : PFr R w w := ⟨rfl, rfl, rfl, Nat.le_refl _, fun _ _ _ => rfl⟩
theorem PFr.trans {R : Nat} {a b c : World} (h : PFr R a b) (k : PFr R b c) : PFr R a c :=
 ⟨k.os.trans h.os, k.tape.trans h.tape, k.output.trans h.output, Nat.le_trans h.size k.size, fun i hi hx => (k.block i (Nat.lt_of_lt_of_le hi h.size) hx).trans (h.block i hi hx)⟩
theorem PFr.of_below {R : Nat} {a b : World} (h : Below a.heap.size a b) : PFr R a b := ⟨h.os, h.tape, h.output, h.size, fun k hk _ => h.block k hk⟩
theorem PFr.alloc {R : Nat} {a b : World} (h : PFr R a b) (o : Obj) : PFr R a (b.alloc o) := h.trans (PFr.of_below (alloc_below b o))
theorem PFr.drew {R : Nat} {a b : World} (h : PFr R a b) : PFr R a b.drew := ⟨h.os, h.tape, h.output, h.size, h.block⟩
theorem PFr.set {R : Nat} {a b : World} (h : PFr R a b) {p : Addr} (hR : p.block = R ∨ a.heap.size ≤ p.block) (v : Value) : PFr R a (b.setCell p v) := by
 have hs : (b.setCell p v).heap.size = b.heap.size := World.size_setCell ..
 refine ⟨h.os, h.tape, h.output, by rw [hs]; exact h.size, fun k hk hx => ?_⟩
 rw [heap_setCell_other b p k v (by rintro rfl; rcases hR with hR | hR; exact hx hR; omega)]
 exact h.block k hk hx
theorem PFr.kept {R N : Nat} {a b : World} {o : Obj} (h : PFr R a b) (hN : N ≠ R) (hb : a.heap[N]? = some o) : b.heap[N]? = some o := by
 rw [h.block N (Array.getElem?_eq_some_iff.1 hb).1 hN]; exact hb
structure TOk (ts : List Tok) : Prop where
 len : ts.length ≤ 300000
 pos : 0 < ts.length
 txt : ∀ t ∈ ts, t.2.1.length ≤ 100000 ∧ t.2.2.1 ≤ 100000 ∧ t.2.2.2 ≤ 100000 ∧ t.1 ≤ 7
 fin : ∀ (i : Nat) (t : Tok), ts[i]? = some t → i + 1 = ts.length → t.1 = 0 ∧ t.2.1 = []
 mid : ∀ (i : Nat) (t : Tok), ts[i]? = some t → i + 1 < ts.length → t.1 ≠ 0
def tcellsAt (W : World) (G : Nat) (ts : List Tok) : Prop := ∀ (i : Nat) (t : Tok), ts[i]? = some t → W.cell? ⟨G, i * 4, none⟩ = some (.int .i64 (t.1 : Int)) ∧ W.cell? ⟨G, i * 4 + 1, none⟩ = some (.string (txt t.2.1)) ∧ W.cell? ⟨G, i * 4 + 2, none⟩ = some (.int .i64 (t.2.2.1 : Int)) ∧ W.cell? ⟨G, i * 4 + 3, none⟩ = some (.int .i64 (t.2.2.2 : Int))
structure PC where
 R : Nat
 G : Nat
 c : Nat
 ts : List Tok
structure PSt (p : PC) (W : World) (s : Ps) : Prop where
 hR : W.heap[p.R]? = some (.cells #[.slice (some ⟨p.G, 0, none⟩) p.ts.length p.c, .int .i64 (s.i : Int), .int .i64 (s.o : Int), .int .i64 (s.h : Int)] 67 (0, 0))
 row : tcellsAt W p.G p.ts
 ne : p.G ≠ p.R
 cap : p.ts.length ≤ p.c
 cap2 : p.c ≤ maxLen
 ok : TOk p.ts
 lt : s.i < p.ts.length
 op : s.o ≤ 128
 hd : s.h ≤ 128
theorem PSt.rlt {p : PC} {W : World} {s : Ps} (h : PSt p W s) : p.R < W.heap.size := (Array.getElem?_eq_some_iff.1 h.hR).1
theorem PSt.at {p : PC} {W : World} {s : Ps} (h : PSt p W s) : p.ts[s.i]? = some (tk p.ts s) := by
 unfold tk
 rw [List.getElem?_eq_getElem h.lt]; rfl
theorem PSt.glt {p : PC} {W : World} {s : Ps} (h : PSt p W s) : p.G < W.heap.size := ncell_lt (h.row _ _ h.at).1
theorem tcellsAt.keep {W W' : World} {G : Nat} {ts : List Tok} (h : tcellsAt W G ts) (hs : G < W.heap.size → W'.heap[G]? = W.heap[G]?) : tcellsAt W' G ts := fun i t ht => by
 obtain ⟨h0, h1, h2, h3⟩ := h i t ht
 exact ⟨ncell_blk hs h0, ncell_blk hs h1, ncell_blk hs h2, ncell_blk hs h3⟩
theorem PSt.keep {p : PC} {W W' : World} {s : Ps} (h : PSt p W s) (hR : W'.heap[p.R]? = W.heap[p.R]?) (hG : W'.heap[p.G]? = W.heap[p.G]?) : PSt p W' s :=
 ⟨hR.trans h.hR, h.row.keep (fun _ => hG), h.ne, h.cap, h.cap2, h.ok, h.lt, h.op, h.hd⟩
theorem PSt.below {p : PC} {W W' : World} {s : Ps} (h : PSt p W s) (hb : Below W.heap.size W W') : PSt p W' s := h.keep (hb.block _ h.rlt) (hb.block _ h.glt)
theorem PSt.alloc {p : PC} {W : World} {s : Ps} (h : PSt p W s) (o : Obj) : PSt p (W.alloc o) s := h.below (alloc_below W o)
theorem PSt.set {p : PC} {W : World} {s : Ps} (h : PSt p W s) {a : Addr} (h1 : a.block ≠ p.R) (h2 : a.block ≠ p.G) (v : Value) : PSt p (W.setCell a v) s :=
 h.keep (heap_setCell_other W a p.R v (Ne.symm h1)) (heap_setCell_other W a p.G v (Ne.symm h2))
theorem PSt.cells {p : PC} {W : World} {s : Ps} (h : PSt p W s) : W.cell? ⟨p.R, 0, none⟩ = some (.slice (some ⟨p.G, 0, none⟩) p.ts.length p.c) ∧ W.cell? ⟨p.R, 1, none⟩ = some (.int .i64 (s.i : Int)) ∧ W.cell? ⟨p.R, 2, none⟩ = some (.int .i64 (s.o : Int)) ∧ W.cell? ⟨p.R, 3, none⟩ = some (.int .i64 (s.h : Int)) :=
 ⟨cellA h.hR rfl, cellA h.hR rfl, cellA h.hR rfl, cellA h.hR rfl⟩
theorem PSt.unf {p : PC} {W : World} {s : Ps} (h : PSt p W s) (i : Nat) : W.frozen? ⟨p.R, i, none⟩ = false := frozen_of_row W p.R i _ _ h.hR
theorem PSt.store {p : PC} {W : World} {s s' : Ps} (h : PSt p W s) (k : Nat) (v : Value) (hv : (#[Value.slice (some ⟨p.G, 0, none⟩) p.ts.length p.c, .int .i64 (s.i : Int), .int .i64 (s.o : Int), .int .i64 (s.h : Int)].setIfInBounds k v) = #[.slice (some ⟨p.G, 0, none⟩) p.ts.length p.c, .int .i64 (s'.i : Int), .int .i64 (s'.o : Int), .int .i64 (s'.h : Int)])
 (hi : s'.i < p.ts.length) (ho : s'.o ≤ 128) (hh : s'.h ≤ 128) : PSt p (W.setCell ⟨p.R, k, none⟩ v) s' := by
 refine ⟨?_, h.row.keep (fun _ => heap_setCell_other W _ p.G v h.ne), h.ne, h.cap, h.cap2, h.ok, hi, ho, hh⟩
 rw [← hv]
 exact heap_setCell_same W p.R k _ _ v h.hR
theorem PSt.adv {p : PC} {W : World} {s : Ps} (h : PSt p W s) (hl : s.i + 1 < p.ts.length) : PSt p (W.setCell ⟨p.R, 1, none⟩ (.int .i64 ((s.i : Int) + 1))) (adv s) :=
 h.store 1 _ rfl hl h.op h.hd
abbrev cTk (t : Tok) : Array Value := #[.int .i64 (t.1 : Int), .string (txt t.2.1), .int .i64 (t.2.2.1 : Int), .int .i64 (t.2.2.2 : Int)]
theorem load_tk {wq : World} {N : Nat} {a b c d : Value} {T : TypeId} (hg : wq.heap[N]? = some (.cells #[a, b, c, d] T (0, 0))) : (loadVar 65 ⟨N, 0, none⟩).run Tryz.prog wq = .ok (.agg #[a, b, c, d]) wq :=
 run_loadVar_row (P := Tryz.prog) wq N T 65 #[a, b, c, d] (0, 0) _ hg Tryz.underlying65 rfl (by kernel_rfl)
theorem PSt.more {p : PC} {W : World} {s : Ps} (h : PSt p W s) (hk : (tk p.ts s).1 ≠ 0 ∨ (tk p.ts s).2.1 ≠ []) : s.i + 1 < p.ts.length := by
 rcases Nat.lt_or_ge (s.i + 1) p.ts.length with h' | h'
 · exact h'
 · have := h.lt
   have h2 := h.ok.fin s.i _ h.at (by omega)
   rcases hk with hk | hk
   · exact absurd h2.1 hk
   · exact absurd h2.2 hk
theorem PSt.more_at {p : PC} {W : World} {s : Ps} (h : PSt p W s) {m : List UInt8} (hm : m ≠ []) (hs : atB p.ts s m = true) : s.i + 1 < p.ts.length :=
 h.more (.inr (by unfold atB at hs; rw [beq_iff_eq] at hs; rw [hs]; exact hm))
theorem PSt.more_kd {p : PC} {W : World} {s : Ps} (h : PSt p W s) {k : Nat} (hm : k ≠ 0) (hs : kdB p.ts s k = true) : s.i + 1 < p.ts.length :=
 h.more (.inl (by unfold kdB at hs; rw [beq_iff_eq] at hs; rw [hs]; exact hm))
def stopV (k e : Nat) : PanicEntry := { v := .iface 63 (.agg #[.int .i64 (k : Int), .int .i64 (e : Int)]), recovered := false }
def TkEnd (p : PC) (w : World) (s : Ps) (d : Nat) : Pz Tok → Ending → World → Prop
 | .ok t s', e, w' => e = .returned (.agg #[.int .i64 (t.1 : Int), .string (txt t.2.1), .int .i64 (t.2.2.1 : Int), .int .i64 (t.2.2.2 : Int)]) ∧ PSt p w' s' ∧ PFr p.R w w' ∧ s'.i = s.i + 1 ∧ s'.o = s.o + d
 | .bad k x, e, w' => e = .panicked [stopV k x] ∧ PFr p.R w w'
def UnEnd (p : PC) (w : World) (s : Ps) : Pz Unit → Ending → World → Prop
 | .ok _ s', e, w' => e = .returned (.tuple #[]) ∧ PSt p w' s' ∧ PFr p.R w w' ∧ s'.i = s.i + 1 ∧ s'.o = s.o - 1
 | .bad k x, e, w' => e = .panicked [stopV k x] ∧ PFr p.R w w'
def NdEnd (p : PC) (w : World) (s : Ps) : Pz Nd → Ending → World → Prop
 | .ok n s', e, w' => (∃ v, e = .returned v ∧ NIn w' (fun b => w.heap.size ≤ b) n v) ∧ PSt p w' s' ∧ PFr p.R w w' ∧ s.i < s'.i ∧ s'.o = s.o
 | .bad k x, e, w' => e = .panicked [stopV k x] ∧ PFr p.R w w'
def NsEnd (p : PC) (w : World) (s : Ps) : Pz (List Nd) → Ending → World → Prop
 | .ok l s', e, w' => (∃ A c, e = .returned (.slice A l.length c) ∧ l.length ≤ c ∧ SIn w' (fun b => w.heap.size ≤ b) l A ∧ l.length ≤ s'.i ∧ (A = none → c = 0)) ∧ PSt p w' s' ∧ PFr p.R w w' ∧ s.i < s'.i ∧ s'.o = s.o
 | .bad k x, e, w' => e = .panicked [stopV k x] ∧ PFr p.R w w'
def RdC (p : PC) (g : FuncId) (args : Array Value) (π : Rd) : Prop := ∀ (s : Ps) (w : World), PSt p w s → 1 ≤ s.i → ∀ r, π s = some r → Calls Tryz.prog g args w (NdEnd p w s r)
def RsC (p : PC) (g : FuncId) (args : Array Value) (π : Ps → Pf (List Nd)) : Prop := ∀ (s : Ps) (w : World), PSt p w s → 1 ≤ s.i → ∀ r, π s = some r → Calls Tryz.prog g args w (NsEnd p w s r)
theorem NIn.fr {R : Nat} {W W' : World} {P : Nat → Prop} {n : Nd} {v : Value} (h : NIn W P n v) (hf : PFr R W W') (hP : ¬ P R) : NIn W' P n v := NIn.keep (fun k hk hl => hf.block k hl (fun e => hP (e ▸ hk))) (fun _ hk _ => hk) n v h
theorem SIn.fr {R : Nat} {W W' : World} {P : Nat → Prop} {l : List Nd} {A : Option Addr} (h : SIn W P l A) (hf : PFr R W W') (hP : ¬ P R) : SIn W' P l A := h.keep (fun k hk hl => hf.block k hl (fun e => hP (e ▸ hk))) (fun _ hk _ => hk)
theorem NIn.set {W : World} {P : Nat → Prop} {n : Nd} {v x : Value} {a : Addr} (h : NIn W P n v) (hP : ¬ P a.block) : NIn (W.setCell a x) P n v := NIn.keep (fun k hk _ => heap_setCell_other W a k x (fun e => hP (e ▸ hk))) (fun _ hk _ => hk) n v h
theorem NIn.wide {W : World} {P Q : Nat → Prop} {n : Nd} {v : Value} (h : NIn W P n v) (hP : ∀ k, k < W.heap.size → P k → Q k) : NIn W Q n v := NIn.keep (fun _ _ _ => rfl) (fun k hk hl => hP k hl hk) n v h
theorem SIn.wide {W : World} {P Q : Nat → Prop} {l : List Nd} {A : Option Addr} (h : SIn W P l A) (hP : ∀ k, k < W.heap.size → P k → Q k) : SIn W Q l A := h.keep (fun _ _ _ => rfl) (fun k hk hl => hP k hl hk)
end Go.Proofs.YtmlclgkhnekmnaaGreatDoor
namespace Go.Proofs.YtmlclgkhnekmnaaGreatDoor
open Go.RowKit
abbrev zNd : Array Value := #[.int .i64 0, .int .i64 0, .int .i64 0, .int .i64 0, .string ⟨#[]⟩, .slice none 0 0]
abbrev cNd (n : Nd) (A : Option Addr) (c : Nat) : Array Value := #[.int .i64 n.kind, .int .i64 n.fro, .int .i64 n.till, .int .i64 n.at', .string n.name, .slice A n.kids.length c]
structure Fm (p : PC) (w W : World) (s : Ps) : Prop where
 st : PSt p W s
 fr : PFr p.R w W
 rlt : p.R < w.heap.size
 glt : p.G < w.heap.size
 res : ∃ c0 c1 c2 c3 c4 c5, W.heap[w.heap.size]? = some (.cells #[c0, c1, c2, c3, c4, c5] 24 (0, 0))
theorem Fm.start {p : PC} {w : World} {s : Ps} (h : PSt p w s) (c0 c1 c2 c3 c4 c5 : Value) : Fm p w (w.alloc (.cells #[c0, c1, c2, c3, c4, c5] 24)) s :=
 ⟨h.alloc _, (PFr.refl _ _).alloc _, h.rlt, h.glt, c0, c1, c2, c3, c4, c5, alloc_top w _ _⟩
theorem Fm.lt {p : PC} {w W : World} {s : Ps} (h : Fm p w W s) : w.heap.size < W.heap.size := by
 obtain ⟨_, _, _, _, _, _, h⟩ := h.res
 exact (Array.getElem?_eq_some_iff.1 h).1
theorem Fm.step {p : PC} {w W W' : World} {s s' : Ps} (h : Fm p w W s) (hf : PFr p.R W W') (hs : PSt p W' s') : Fm p w W' s' := by
 obtain ⟨c0, c1, c2, c3, c4, c5, hr⟩ := h.res
 exact ⟨hs, h.fr.trans hf, h.rlt, h.glt, c0, c1, c2, c3, c4, c5, hf.kept (by have := h.rlt; omega) hr⟩
theorem Fm.below {p : PC} {w W W' : World} {s : Ps} (h : Fm p w W s) (hb : Below W.heap.size W W') : Fm p w W' s := h.step (PFr.of_below hb) (h.st.below hb)
theorem Fm.alloc {p : PC} {w W : World} {s : Ps} (h : Fm p w W s) (o : Obj) : Fm p w (W.alloc o) s := h.below (alloc_below W o)
theorem Fm.set {p : PC} {w W : World} {s : Ps} (h : Fm p w W s) {a : Addr} (ha : w.heap.size < a.block) (v : Value) : Fm p w (W.setCell a v) s := by
 obtain ⟨c0, c1, c2, c3, c4, c5, hr⟩ := h.res
 have := h.rlt; have := h.glt
 exact ⟨h.st.set (by omega) (by omega) v, h.fr.set (.inr (by omega)) v, h.rlt, h.glt, c0, c1, c2, c3, c4, c5, (heap_setCell_other W a w.heap.size v (by omega)).trans hr⟩
theorem Fm.set6 {p : PC} {w W : World} {s : Ps} (h : Fm p w W s) {N : Nat} (ha : w.heap.size < N) (a b c d e f : Value) : Fm p w ((((((W.setCell ⟨N, 0, none⟩ a).setCell ⟨N, 1, none⟩ b).setCell ⟨N, 2, none⟩ c).setCell ⟨N, 3, none⟩ d).setCell ⟨N, 4, none⟩ e).setCell ⟨N, 5, none⟩ f) s :=
 (((((h.set (a := ⟨N, 0, none⟩) ha a).set (a := ⟨N, 1, none⟩) ha b).set (a := ⟨N, 2, none⟩) ha c).set (a := ⟨N, 3, none⟩) ha d).set (a := ⟨N, 4, none⟩) ha e).set (a := ⟨N, 5, none⟩) ha f
theorem Fm.store {p : PC} {w W : World} {s s' : Ps} (h : Fm p w W s) (k : Nat) (v : Value) (hs : PSt p (W.setCell ⟨p.R, k, none⟩ v) s') : Fm p w (W.setCell ⟨p.R, k, none⟩ v) s' :=
 h.step ((PFr.refl _ _).set (p := ⟨p.R, k, none⟩) (.inl rfl) v) hs
theorem blk_below {W W' : World} {N : Nat} {o : Obj} (h : W.heap[N]? = some o) (hb : Below W.heap.size W W') : W'.heap[N]? = some o := by
 rw [hb.block N (Array.getElem?_eq_some_iff.1 h).1]; exact h
theorem blk_alloc {W : World} {N : Nat} {o x : Obj} (h : W.heap[N]? = some o) : (W.alloc x).heap[N]? = some o := blk_below h (alloc_below W x)
theorem blk_set {W : World} {N : Nat} {o : Obj} {a : Addr} {v : Value} (h : W.heap[N]? = some o) (hn : N ≠ a.block) : (W.setCell a v).heap[N]? = some o := (heap_setCell_other W a N v hn).trans h
theorem blk_set6 {W : World} {N R : Nat} {o : Obj} (h : W.heap[N]? = some o) (hn : N ≠ R) (a b c d e f : Value) : ((((((W.setCell ⟨R, 0, none⟩ a).setCell ⟨R, 1, none⟩ b).setCell ⟨R, 2, none⟩ c).setCell ⟨R, 3, none⟩ d).setCell ⟨R, 4, none⟩ e).setCell ⟨R, 5, none⟩ f).heap[N]? = some o :=
 (setS6_other hn a b c d e f).trans h
 where setS6_other {W : World} {R k : Nat} (hne : k ≠ R) (a b c d e f : Value) : ((((((W.setCell ⟨R, 0, none⟩ a).setCell ⟨R, 1, none⟩ b).setCell ⟨R, 2, none⟩ c).setCell ⟨R, 3, none⟩ d).setCell ⟨R, 4, none⟩ e).setCell ⟨R, 5, none⟩ f).heap[k]? = W.heap[k]? :=
  (heap_setCell_other _ ⟨R, 5, none⟩ k f hne).trans ((heap_setCell_other _ ⟨R, 4, none⟩ k e hne).trans ((heap_setCell_other _ ⟨R, 3, none⟩ k d hne).trans ((heap_setCell_other _ ⟨R, 2, none⟩ k c hne).trans ((heap_setCell_other _ ⟨R, 1, none⟩ k b hne).trans (heap_setCell_other _ ⟨R, 0, none⟩ k a hne)))))
theorem tk4 {W : World} {N : Nat} {t : Tok} (h : W.heap[N]? = some (.cells (cTk t) 65 (0, 0))) : W.cell? ⟨N, 0, none⟩ = some (.int .i64 (t.1 : Int)) ∧ W.cell? ⟨N, 1, none⟩ = some (.string (txt t.2.1)) ∧ W.cell? ⟨N, 2, none⟩ = some (.int .i64 (t.2.2.1 : Int)) ∧ W.cell? ⟨N, 3, none⟩ = some (.int .i64 (t.2.2.2 : Int)) :=
 ⟨cellA h rfl, cellA h rfl, cellA h rfl, cellA h rfl⟩
theorem sin0 {W : World} {P : Nat → Prop} : SIn W P [] none := fun h => absurd h (by simp)
theorem nln1 {W : World} {P : Nat → Prop} {g o : Nat} {n : Nd} {l : List Nd} {A : Option Addr} {c : Nat} (h0 : W.cell? ⟨g, o, none⟩ = some (.int .i64 n.kind)) (h1 : W.cell? ⟨g, o + 1, none⟩ = some (.int .i64 n.fro)) (h2 : W.cell? ⟨g, o + 2, none⟩ = some (.int .i64 n.till)) (h3 : W.cell? ⟨g, o + 3, none⟩ = some (.int .i64 n.at')) (h4 : W.cell? ⟨g, o + 4, none⟩ = some (.string n.name)) (h5 : W.cell? ⟨g, o + 5, none⟩ = some (.slice A n.kids.length c))
 (hc : n.kids.length ≤ c) (hk : SIn W P n.kids A) (hl : NLn W P g (o + 6) l) : NLn W P g o (n :: l) := by
 rw [NLn]
 exact ⟨⟨_, _, _, _, _, _, h0, h1, h2, h3, h4, h5, NIn.shut hc hk⟩, hl⟩
theorem nln0 {W : World} {P : Nat → Prop} {g o : Nat} : NLn W P g o [] := by rw [NLn]; trivial
theorem sin1 {W : World} {P : Nat → Prop} {g : Nat} {n : Nd} {A : Option Addr} {c : Nat} {T : TypeId} (h : W.heap[g]? = some (.cells #[.int .i64 n.kind, .int .i64 n.fro, .int .i64 n.till, .int .i64 n.at', .string n.name, .slice A n.kids.length c] T (0, 0))) (hg : P g) (hc : n.kids.length ≤ c) (hk : SIn W P n.kids A) : SIn W P [n] (some ⟨g, 0, none⟩) :=
 fun _ => ⟨g, 0, rfl, hg, nln1 (cellA h rfl) (cellA h rfl) (cellA h rfl) (cellA h rfl) (cellA h rfl) (cellA h rfl) hc hk nln0⟩
theorem sin2 {W : World} {P : Nat → Prop} {g : Nat} {n m : Nd} {A B : Option Addr} {c d : Nat} {T : TypeId} (h : W.heap[g]? = some (.cells #[.int .i64 n.kind, .int .i64 n.fro, .int .i64 n.till, .int .i64 n.at', .string n.name, .slice A n.kids.length c, .int .i64 m.kind, .int .i64 m.fro, .int .i64 m.till, .int .i64 m.at', .string m.name, .slice B m.kids.length d] T (0, 0))) (hg : P g) (hc : n.kids.length ≤ c) (hk : SIn W P n.kids A) (hd : m.kids.length ≤ d) (hj : SIn W P m.kids B) : SIn W P [n, m] (some ⟨g, 0, none⟩) :=
 fun _ => ⟨g, 0, rfl, hg, nln1 (cellA h rfl) (cellA h rfl) (cellA h rfl) (cellA h rfl) (cellA h rfl) (cellA h rfl) hc hk (nln1 (cellA h rfl) (cellA h rfl) (cellA h rfl) (cellA h rfl) (cellA h rfl) (cellA h rfl) hd hj nln0)⟩
theorem sin4 {W : World} {P : Nat → Prop} {g : Nat} {n m k q : Nd} {A B C D : Option Addr} {c d e f : Nat} {T : TypeId} (h : W.heap[g]? = some (.cells #[.int .i64 n.kind, .int .i64 n.fro, .int .i64 n.till, .int .i64 n.at', .string n.name, .slice A n.kids.length c, .int .i64 m.kind, .int .i64 m.fro, .int .i64 m.till, .int .i64 m.at', .string m.name, .slice B m.kids.length d, .int .i64 k.kind, .int .i64 k.fro, .int .i64 k.till, .int .i64 k.at', .string k.name, .slice C k.kids.length e, .int .i64 q.kind, .int .i64 q.fro, .int .i64 q.till, .int .i64 q.at', .string q.name, .slice D q.kids.length f] T (0, 0))) (hg : P g) (hc : n.kids.length ≤ c) (hk : SIn W P n.kids A) (hd : m.kids.length ≤ d) (hj : SIn W P m.kids B) (he : k.kids.length ≤ e) (hi : SIn W P k.kids C) (hf : q.kids.length ≤ f) (hh : SIn W P q.kids D) : SIn W P [n, m, k, q] (some ⟨g, 0, none⟩) :=
 fun _ => ⟨g, 0, rfl, hg, nln1 (cellA h rfl) (cellA h rfl) (cellA h rfl) (cellA h rfl) (cellA h rfl) (cellA h rfl) hc hk (nln1 (cellA h rfl) (cellA h rfl) (cellA h rfl) (cellA h rfl) (cellA h rfl) (cellA h rfl) hd hj (nln1 (cellA h rfl) (cellA h rfl) (cellA h rfl) (cellA h rfl) (cellA h rfl) (cellA h rfl) he hi (nln1 (cellA h rfl) (cellA h rfl) (cellA h rfl) (cellA h rfl) (cellA h rfl) (cellA h rfl) hf hh nln0)))⟩
theorem Fm.done {p : PC} {w W : World} {s s' : Ps} (h : Fm p w W s') {k f t a : Int} {x : ByteArray} {l : List Nd} {A : Option Addr} {c : Nat} (hs : SIn W (fun b => w.heap.size < b) l A) (hc : l.length ≤ c) (hlt : s.i < s'.i) (ho : s'.o = s.o) (v0 v1 v2 v3 v4 v5 : Value) (hv : Value.agg #[v0, v1, v2, v3, v4, v5] = .agg #[.int .i64 k, .int .i64 f, .int .i64 t, .int .i64 a, .string x, .slice A l.length c]) :
 NdEnd p w s (.ok (.mk k f t a x l) s') (.returned (.agg #[v0, v1, v2, v3, v4, v5])) ((((((W.setCell ⟨w.heap.size, 0, none⟩ v0).setCell ⟨w.heap.size, 1, none⟩ v1).setCell ⟨w.heap.size, 2, none⟩ v2).setCell ⟨w.heap.size, 3, none⟩ v3).setCell ⟨w.heap.size, 4, none⟩ v4).setCell ⟨w.heap.size, 5, none⟩ v5) := by
 have hr := h.rlt; have hg := h.glt
 refine ⟨⟨_, rfl, ?_⟩, ?_, ?_, hlt, ho⟩
 · rw [hv]
   exact NIn.shut (n := .mk k f t a x l) hc (hs.keep (fun k hk _ => set6_otherP (by omega) ..) (fun k hk _ => Nat.le_of_lt hk))
 · exact (((((h.st.set (a := ⟨w.heap.size, 0, none⟩) (by simp; omega) (by simp; omega) _).set (a := ⟨w.heap.size, 1, none⟩) (by simp; omega) (by simp; omega) _).set (a := ⟨w.heap.size, 2, none⟩) (by simp; omega) (by simp; omega) _).set (a := ⟨w.heap.size, 3, none⟩) (by simp; omega) (by simp; omega) _).set (a := ⟨w.heap.size, 4, none⟩) (by simp; omega) (by simp; omega) _).set (a := ⟨w.heap.size, 5, none⟩) (by simp; omega) (by simp; omega) _
 · exact (((((h.fr.set (p := ⟨w.heap.size, 0, none⟩) (.inr (Nat.le_refl _)) _).set (p := ⟨w.heap.size, 1, none⟩) (.inr (Nat.le_refl _)) _).set (p := ⟨w.heap.size, 2, none⟩) (.inr (Nat.le_refl _)) _).set (p := ⟨w.heap.size, 3, none⟩) (.inr (Nat.le_refl _)) _).set (p := ⟨w.heap.size, 4, none⟩) (.inr (Nat.le_refl _)) _).set (p := ⟨w.heap.size, 5, none⟩) (.inr (Nat.le_refl _)) _
 where set6_otherP {W : World} {R k : Nat} (hne : k ≠ R) (a b c d e f : Value) : ((((((W.setCell ⟨R, 0, none⟩ a).setCell ⟨R, 1, none⟩ b).setCell ⟨R, 2, none⟩ c).setCell ⟨R, 3, none⟩ d).setCell ⟨R, 4, none⟩ e).setCell ⟨R, 5, none⟩ f).heap[k]? = W.heap[k]? :=
  (heap_setCell_other _ ⟨R, 5, none⟩ k f hne).trans ((heap_setCell_other _ ⟨R, 4, none⟩ k e hne).trans ((heap_setCell_other _ ⟨R, 3, none⟩ k d hne).trans ((heap_setCell_other _ ⟨R, 2, none⟩ k c hne).trans ((heap_setCell_other _ ⟨R, 1, none⟩ k b hne).trans (heap_setCell_other _ ⟨R, 0, none⟩ k a hne)))))
theorem six_otherP {W : World} {R k : Nat} (hne : k ≠ R) (a b c d e f : Value) : ((((((W.setCell ⟨R, 0, none⟩ a).setCell ⟨R, 1, none⟩ b).setCell ⟨R, 2, none⟩ c).setCell ⟨R, 3, none⟩ d).setCell ⟨R, 4, none⟩ e).setCell ⟨R, 5, none⟩ f).heap[k]? = W.heap[k]? := Fm.done.set6_otherP hne a b c d e f
theorem NdEnd.alloc {p : PC} {w W : World} {s s' : Ps} {n : Nd} {e : Ending} (h : NdEnd p w s (.ok n s') e W) (o : Obj) : NdEnd p w s (.ok n s') e (W.alloc o) := by
 obtain ⟨⟨v, h1, h2⟩, h3, h4, h5, h6⟩ := h
 exact ⟨⟨v, h1, h2.below (alloc_below W o)⟩, h3.alloc o, h4.alloc o, h5, h6⟩
theorem Fm.doneN {p : PC} {w W : World} {s s' : Ps} (h : Fm p w W s') {n : Nd} {A : Option Addr} {c : Nat} (hs : SIn W (fun b => w.heap.size < b) n.kids A) (hc : n.kids.length ≤ c) (hlt : s.i < s'.i) (ho : s'.o = s.o) :
 NdEnd p w s (.ok n s') (.returned (.agg #[.int .i64 n.kind, .int .i64 n.fro, .int .i64 n.till, .int .i64 n.at', .string n.name, .slice A n.kids.length c])) ((((((W.setCell ⟨w.heap.size, 0, none⟩ (.int .i64 n.kind)).setCell ⟨w.heap.size, 1, none⟩ (.int .i64 n.fro)).setCell ⟨w.heap.size, 2, none⟩ (.int .i64 n.till)).setCell ⟨w.heap.size, 3, none⟩ (.int .i64 n.at')).setCell ⟨w.heap.size, 4, none⟩ (.string n.name)).setCell ⟨w.heap.size, 5, none⟩ (.slice A n.kids.length c)) := by
 have h2 := h.done (k := n.kind) (f := n.fro) (t := n.till) (a := n.at') (x := n.name) (l := n.kids) hs hc hlt ho _ _ _ _ _ _ rfl
 rw [show n = Nd.mk n.kind n.fro n.till n.at' n.name n.kids from Nd.eta n]
 exact h2
theorem tx_at (ts : List Tok) (s : Ps) (m : List UInt8) : ((txt (tk ts s).2.1).toList == m) = atB ts s m := by rw [txt_list]; rfl
theorem kd_int (ts : List Tok) (s : Ps) (k : Nat) : ((((tk ts s).1 : Nat) : Int) == (k : Int)) = kdB ts s k := by
 unfold kdB
 rw [Bool.eq_iff_iff, beq_iff_eq, beq_iff_eq]
 omega
theorem alloc_topS (w : World) (a : Addr) (v : Value) (cs : Array Value) (t : TypeId) : ((w.setCell a v).alloc (.cells cs t)).heap[w.heap.size]? = some (.cells cs t (0, 0)) := by
 have h := alloc_top (w.setCell a v) cs t
 rwa [World.size_setCell] at h
theorem alloc_topS2 (w : World) (a : Addr) (v : Value) (o : Obj) (cs : Array Value) (t : TypeId) : (((w.setCell a v).alloc o).alloc (.cells cs t)).heap[w.heap.size + 1]? = some (.cells cs t (0, 0)) := by
 have h := alloc_top ((w.setCell a v).alloc o) cs t
 rwa [World.size_alloc, World.size_setCell] at h
theorem alloc_topS3 (w : World) (a : Addr) (v : Value) (o o2 : Obj) (cs : Array Value) (t : TypeId) : ((((w.setCell a v).alloc o).alloc o2).alloc (.cells cs t)).heap[w.heap.size + 1 + 1]? = some (.cells cs t (0, 0)) := by
 have h := alloc_top (((w.setCell a v).alloc o).alloc o2) cs t
 rwa [World.size_alloc, World.size_alloc, World.size_setCell] at h
theorem alloc_top2 (w : World) (o : Obj) (cs : Array Value) (t : TypeId) : ((w.alloc o).alloc (.cells cs t)).heap[w.heap.size + 1]? = some (.cells cs t (0, 0)) := by
 have h := alloc_top (w.alloc o) cs t
 rwa [World.size_alloc] at h
theorem alloc_top3 (w : World) (o o2 : Obj) (cs : Array Value) (t : TypeId) : (((w.alloc o).alloc o2).alloc (.cells cs t)).heap[w.heap.size + 1 + 1]? = some (.cells cs t (0, 0)) := by
 have h := alloc_top2 (w.alloc o) o2 cs t
 rwa [World.size_alloc] at h
theorem bind_ok {α β : Type} {a : α} {s : Ps} {f : α → Ps → Pf β} {r : Pz β} (h : Pf.bind (some (.ok a s)) f = some r) : f a s = some r := h
theorem bind_next {β : Type} {ts : List Tok} {s : Ps} {f : Tok → Ps → Pf β} {r : Pz β} (h : (nextP ts s).bind f = some r) : f (tk ts s) (adv s) = some r := h
theorem bind_pf {α β : Type} {x : Pf α} {f : α → Ps → Pf β} {r : Pz β} (h : x.bind f = some r) : ∃ r0, x = some r0 ∧ (match r0 with | .bad k e => r = .bad k e | .ok a s => f a s = some r) := by
 match x, h with
 | none, h => cases h
 | some (.bad k e), h => exact ⟨_, rfl, (Option.some.inj h).symm⟩
 | some (.ok a s), h => exact ⟨_, rfl, h⟩
end Go.Proofs.YtmlclgkhnekmnaaGreatDoor
