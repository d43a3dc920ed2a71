/- The parser's loopHead, on its way (Fl): three results in cells. No condition but those that each theorem says. -/
import Derived.Test.YthaaolajbmafgaaGreatDoorPFb
namespace Go.Proofs.YthaaolajbmafgaaGreatDoor
open Go.RowKit
structure Fl (p : PC) (w W : World) (s : Ps) : Prop where
 st : PSt p W s
 fr : PFr p.R w W
 rlt : p.R < w.heap.size
 glt : p.G < w.heap.size
 lt : w.heap.size + 2 < W.heap.size
theorem Fl.step {p : PC} {w W W' : World} {s s' : Ps} (h : Fl p w W s) (hf : PFr p.R W W') (hs : PSt p W' s') : Fl p w W' s' := ⟨hs, h.fr.trans hf, h.rlt, h.glt, Nat.lt_of_lt_of_le h.lt hf.size⟩
theorem Fl.below {p : PC} {w W W' : World} {s : Ps} (h : Fl p w W s) (hb : Below W.heap.size W W') : Fl p w W' s := h.step (PFr.of_below hb) (h.st.below hb)
theorem Fl.alloc {p : PC} {w W : World} {s : Ps} (h : Fl p w W s) (o : Obj) : Fl p w (W.alloc o) s := h.below (alloc_below W o)
theorem Fl.drew {p : PC} {w W : World} {s : Ps} (h : Fl p w W s) : Fl p w W.drew s := ⟨h.st.keep rfl rfl, h.fr.drew, h.rlt, h.glt, h.lt⟩
theorem Fl.set {p : PC} {w W : World} {s : Ps} (h : Fl p w W s) {a : Addr} (ha : w.heap.size ≤ a.block) (v : Value) : Fl p w (W.setCell a v) s := by
 have := h.rlt; have := h.glt
 exact ⟨h.st.set (by omega) (by omega) v, h.fr.set (.inr ha) v, h.rlt, h.glt, by rw [World.size_setCell]; exact h.lt⟩
theorem Fl.set6 {p : PC} {w W : World} {s : Ps} (h : Fl p w W s) {N : Nat} (ha : w.heap.size ≤ N) (a b c d e f : Value) : Fl p w ((((((W.setCell ⟨N, 0, none⟩ a).setCell ⟨N, 1, none⟩ b).setCell ⟨N, 2, none⟩ c).setCell ⟨N, 3, none⟩ d).setCell ⟨N, 4, none⟩ e).setCell ⟨N, 5, none⟩ f) s :=
 (((((h.set (a := ⟨N, 0, none⟩) ha a).set (a := ⟨N, 1, none⟩) ha b).set (a := ⟨N, 2, none⟩) ha c).set (a := ⟨N, 3, none⟩) ha d).set (a := ⟨N, 4, none⟩) ha e).set (a := ⟨N, 5, none⟩) ha f
theorem Fl.done {p : PC} {w W : World} {s s' : Ps} (h : Fl p w W s') {a b c : Nd} {A B C : Option Addr} {x y z : Nat} (ha : a.kids.length ≤ x ∧ SIn W (fun b => w.heap.size + 2 < b) a.kids A) (hb : b.kids.length ≤ y ∧ SIn W (fun b => w.heap.size + 2 < b) b.kids B) (hc : c.kids.length ≤ z ∧ SIn W (fun b => w.heap.size + 2 < b) c.kids C) (hlt : s.i < s'.i) (ho : s'.o = s.o) :
 ThEnd p w s (.ok (a, b, c) s') (.returned (.tuple #[.agg (cNd a A x), .agg (cNd b B y), .agg (cNd c C z)])) W :=
 ⟨⟨_, _, _, rfl, NIn.shut ha.1 (ha.2.wide (fun k _ hk => by have : w.heap.size + 2 < k := hk; omega)), NIn.shut hb.1 (hb.2.wide (fun k _ hk => by have : w.heap.size + 2 < k := hk; omega)), NIn.shut hc.1 (hc.2.wide (fun k _ hk => by have : w.heap.size + 2 < k := hk; omega))⟩, h.st, h.fr, hlt, ho⟩
theorem bind_assocP {α β γ : Type} {x : Pf α} {f : α → Ps → Pf β} {g : β → Ps → Pf γ} {r : Pz γ} (h : (x.bind f).bind g = some r) : x.bind (fun a s => (f a s).bind g) = some r := by
 match x, h with
 | none, h => cases h
 | some (.bad k e), h => exact h
 | some (.ok a s), h => exact h
theorem ret_cell3A {fn : Func} {p q t : Tmp} {ty : TypeId} (hr : fn.results = #[.cell p ty, .cell q ty, .cell t ty]) {A B C : Nat} {wq : World} {Q : Ending → World → Prop} (tmps : Array Value) (hp : tmps.getD p undef = .pointer (some ⟨A, 0, none⟩)) (hq : tmps.getD q undef = .pointer (some ⟨B, 0, none⟩)) (ht : tmps.getD t undef = .pointer (some ⟨C, 0, none⟩)) (x y z : Value)
 (hx : (loadVar ty ⟨A, 0, none⟩).run Tryz.prog wq = .ok x wq) (hy : (loadVar ty ⟨B, 0, none⟩).run Tryz.prog wq = .ok y wq) (hz : (loadVar ty ⟨C, 0, none⟩).run Tryz.prog wq = .ok z wq) (h : Q (.returned (.tuple #[x, y, z])) wq) : bodyPost Tryz.prog fn Q Exit.ret ⟨tmps, []⟩ wq := by
 refine bodyPost_ret (v := .tuple #[x, y, z]) ?_ rfl h
 simp only [results, hr]
 simp only [Array.getD_eq_getD_getElem?] at hp hq ht
 simp [Sem.run_bind, Result.andThen, hp, hq, ht, asAddr, hx, hy, hz]
theorem load_ndD {wq : World} {N : Nat} {a b c d e f : Value} {T : TypeId} (hg : wq.heap[N]? = some (.cells #[a, b, c, d, e, f] T (0, 0))) : (loadVar 24 ⟨N, 0, none⟩).run Tryz.prog wq.drew = .ok (.agg #[a, b, c, d, e, f]) wq.drew := load_nd (wq := wq.drew) hg
theorem SIn.drewP {p : PC} {W : World} {P : Nat → Prop} {l : List Nd} {A : Option Addr} (h : SIn W P l A) (hP : ¬ P p.R) : SIn W.drew P l A := SIn.fr h ((PFr.refl p.R W).drew) hP
end Go.Proofs.YthaaolajbmafgaaGreatDoor
