/- The parser's walks, briefly: one structure for all locals (Lx), and one law a kind of call. -/
import Derived.Test.YtmlclgkhnekmnaaGreatDoorPLeaf3
import Derived.Deep.DeepCutAuto
namespace Go.Proofs.YtmlclgkhnekmnaaGreatDoor
open Go.RowKit
abbrev NdL := Nat × Nd × Option Addr × Nat
abbrev Pl (w : World) (D : List NdL) (b : Nat) : Prop := w.heap.size < b ∧ ∀ d ∈ D, b ≠ d.1
structure Lx (p : PC) (w W : World) (s : Ps) (T : List (Nat × Tok)) (D : List NdL) : Prop where
 fm : Fm p w W s
 tok : ∀ a ∈ T, w.heap.size < a.1 ∧ W.heap[a.1]? = some (.cells (cTk a.2) 65 (0, 0))
 nd : ∀ a ∈ D, w.heap.size < a.1 ∧ W.heap[a.1]? = some (.cells (cNd a.2.1 a.2.2.1 a.2.2.2) 24 (0, 0)) ∧ a.2.1.kids.length ≤ a.2.2.2 ∧ SIn W (Pl w D) a.2.1.kids a.2.2.1
 apart : (T.map (·.1) ++ D.map (·.1)).Nodup
section
variable {p : PC} {w W W' : World} {s s' : Ps} {T : List (Nat × Tok)} {D : List NdL}
theorem Lx.start (h : PSt p w s) : Lx p w (w.alloc (.cells zNd 24)) s [] [] := ⟨Fm.start h _ _ _ _ _ _, (fun _ h => by cases h), (fun _ h => by cases h), List.nodup_nil⟩
theorem Lx.step (h : Lx p w W s T D) (hf : PFr p.R W W') (hs : PSt p W' s') : Lx p w W' s' T D := by
 have hr := h.fm.rlt
 refine ⟨h.fm.step hf hs, fun a ha => ?_, fun a ha => ?_, h.apart⟩
 · obtain ⟨h1, h2⟩ := h.tok a ha
   exact ⟨h1, hf.kept (by omega) h2⟩
 · obtain ⟨h1, h2, h3, h4⟩ := h.nd a ha
   exact ⟨h1, hf.kept (by omega) h2, h3, h4.fr hf (fun hh => by have := hh.1; omega)⟩
theorem Lx.below (h : Lx p w W s T D) (hb : Below W.heap.size W W') : Lx p w W' s T D := h.step (PFr.of_below hb) (h.fm.st.below hb)
theorem Lx.lt (h : Lx p w W s T D) : ∀ a ∈ T.map (·.1) ++ D.map (·.1), a < W.heap.size := by
 intro a ha
 rcases List.mem_append.1 ha with ha | ha
 · obtain ⟨t, ht, rfl⟩ := List.mem_map.1 ha
   exact (Array.getElem?_eq_some_iff.1 (h.tok t ht).2).1
 · obtain ⟨t, ht, rfl⟩ := List.mem_map.1 ha
   exact (Array.getElem?_eq_some_iff.1 (h.nd t ht).2.1).1
theorem Lx.tk (h : Lx p w W s T D) (t : Tok) : Lx p w (W.alloc (.cells (cTk t) 65)) s ((W.heap.size, t) :: T) D := by
 have hb := alloc_below W (.cells (cTk t) 65)
 have h2 := h.below hb
 refine ⟨h2.fm, fun a ha => ?_, h2.nd, ?_⟩
 · rcases List.mem_cons.1 ha with rfl | ha
   · exact ⟨h.fm.lt, alloc_top W _ _⟩
   · exact h2.tok a ha
 · show ((W.heap.size :: T.map (·.1)) ++ D.map (·.1)).Nodup
   rw [List.cons_append, List.nodup_cons]
   exact ⟨fun hm => Nat.lt_irrefl _ (h.lt _ hm), h.apart⟩
theorem Lx.tree (h : Lx p w W s T D) {n : Nd} {A : Option Addr} {c : Nat} (hc : n.kids.length ≤ c) (hk : SIn W (Pl w D) n.kids A) : Lx p w (W.alloc (.cells (cNd n A c) 24)) s T ((W.heap.size, n, A, c) :: D) := by
 have hb := alloc_below W (.cells (cNd n A c) 24)
 have h2 := h.below hb
 have wd : ∀ {l : List Nd} {B : Option Addr}, SIn W (Pl w D) l B → SIn (W.alloc (.cells (cNd n A c) 24)) (Pl w ((W.heap.size, n, A, c) :: D)) l B := fun hs =>
  (hs.wide (Q := Pl w ((W.heap.size, n, A, c) :: D)) (fun k h1 h2 => ⟨h2.1, fun d hd => by
   rcases List.mem_cons.1 hd with rfl | hd
   · exact Nat.ne_of_lt h1
   · exact h2.2 d hd⟩)).below hb
 refine ⟨h2.fm, h2.tok, fun a ha => ?_, ?_⟩
 · rcases List.mem_cons.1 ha with rfl | ha
   · exact ⟨h.fm.lt, alloc_top W _ _, hc, wd hk⟩
   · obtain ⟨a1, a2, a3, _⟩ := h2.nd a ha
     exact ⟨a1, a2, a3, wd (h.nd a ha).2.2.2⟩
 · show (T.map (·.1) ++ W.heap.size :: D.map (·.1)).Nodup
   rw [List.perm_middle.nodup_iff, List.nodup_cons]
   exact ⟨fun hm => Nat.lt_irrefl _ (h.lt _ hm), h.apart⟩
theorem Lx.zero (h : Lx p w W s T D) : Lx p w (W.alloc (.cells zNd 24)) s T ((W.heap.size, noN, none, 0) :: D) := h.tree (n := noN) (Nat.le_refl _) sin0
theorem tk_go {g : FuncId} {args : Array Value} {r : Pz Tok} {d : Nat} {Q : Ending → World → Prop} (h : Lx p w W s T D) (hc : Calls Tryz.prog g args W (TkEnd p W s d r))
 (bad : ∀ k x w', r = .bad k x → PFr p.R w w' → Q (.panicked [stopV k x]) w') (ok : ∀ t s' w', r = .ok t s' → Lx p w w' s' T D → s'.i = s.i + 1 → s'.o = s.o + d → Q (.returned (.agg (cTk t))) w') : Calls Tryz.prog g args W Q := by
 refine hc.mono ?_
 intro e w' he
 cases r with
 | bad k x =>
  obtain ⟨rfl, hf⟩ := he
  exact bad k x w' rfl (h.fm.fr.trans hf)
 | ok t s' =>
  obtain ⟨rfl, hs, hf, hi, ho⟩ := he
  exact ok t s' w' rfl (h.step hf hs) hi ho
theorem nd_go {g : FuncId} {args : Array Value} {r : Pz Nd} {Q : Ending → World → Prop} (h : Lx p w W s T D) (hc : Calls Tryz.prog g args W (NdEnd p W s r))
 (bad : ∀ k x w', r = .bad k x → PFr p.R w w' → Q (.panicked [stopV k x]) w') (ok : ∀ n s' A c w', r = .ok n s' → Lx p w w' s' T D → n.kids.length ≤ c → SIn w' (Pl w D) n.kids A → s.i < s'.i → s'.o = s.o → Q (.returned (.agg (cNd n A c))) w') : Calls Tryz.prog g args W Q := by
 refine hc.mono ?_
 intro e w' he
 cases r with
 | bad k x =>
  obtain ⟨rfl, hf⟩ := he
  exact bad k x w' rfl (h.fm.fr.trans hf)
 | ok n s' =>
  obtain ⟨⟨v, rfl, hn⟩, hs, hf, hi, ho⟩ := he
  obtain ⟨A, c, rfl, hc, hk⟩ := hn.open
  refine ok n s' A c w' rfl (h.step hf hs) hc (hk.wide (fun k _ h1 => ⟨Nat.lt_of_lt_of_le h.fm.lt h1, fun d hd => ?_⟩)) hi ho
  have := h.lt d.1 (List.mem_append_right _ (List.mem_map.2 ⟨d, hd, rfl⟩))
  omega
end
def rowV (E : List NdL) : List Value := E.flatMap fun d => (cNd d.2.1 d.2.2.1 d.2.2.2).toList
theorem row_nln {W : World} {P : Nat → Prop} {g : Nat} {t : TypeId} : ∀ (E : List NdL) (o : Nat) (pre : List Value), W.heap[g]? = some (.cells (pre ++ rowV E).toArray t (0, 0)) → pre.length = o → (∀ e ∈ E, e.2.1.kids.length ≤ e.2.2.2 ∧ SIn W P e.2.1.kids e.2.2.1) → NLn W P g o (E.map (·.2.1)) := by
 intro E
 induction E with
 | nil => intro _ _ _ _ _; exact nln0
 | cons d E ih =>
  intro o pre h hl he
  obtain ⟨k1, k2⟩ := he d (List.mem_cons_self ..)
  have e1 : rowV (d :: E) = (cNd d.2.1 d.2.2.1 d.2.2.2).toList ++ rowV E := rfl
  have cl : ∀ i v, (cNd d.2.1 d.2.2.1 d.2.2.2).toList[i]? = some v → W.cell? ⟨g, o + i, none⟩ = some v := fun i v hv => by
   refine cellA h ?_
   subst hl
   have hi := (List.getElem?_eq_some_iff.1 hv).1
   rw [e1, List.getElem?_toArray, List.getElem?_append_right (by omega), Nat.add_sub_cancel_left, List.getElem?_append_left hi, hv]
  refine nln1 (cl 0 _ rfl) (cl 1 _ rfl) (cl 2 _ rfl) (cl 3 _ rfl) (cl 4 _ rfl) (cl 5 _ rfl) k1 k2 (ih (o + 6) (pre ++ (cNd d.2.1 d.2.2.1 d.2.2.2).toList) ?_ ?_ fun e h => he e (List.mem_cons_of_mem _ h))
  · rw [List.append_assoc, ← e1]; exact h
  · rw [List.length_append, hl]; rfl
theorem md_go {p : PC} {w W : World} {s : Ps} {T : List (Nat × Tok)} {D : List NdL} {cs : Array Value} {t : TypeId} {k f a : Int} {x : ByteArray} {n c g : Nat} {Q : Ending → World → Prop} (h : Lx p w W s T D) (h1 : 1 ≤ s.i) (E : List NdL) (he : ∀ e ∈ E, e ∈ D) (hc : cs = (rowV E).toArray) (hg : g = W.heap.size)
 (ok : ∀ w', Lx p w w' s T D → SIn w' (fun b => w.heap.size < b) (E.map (·.2.1)) (some ⟨g, 0, none⟩) → Q (.returned (.agg #[.int .i64 k, .int .i64 f, .int .i64 ((tkP p.ts s).2.2.2 : Int), .int .i64 a, .string x, .slice (some ⟨g, 0, none⟩) n c])) w') :
 Calls Tryz.prog 94 #[.pointer (some ⟨p.R, 0, none⟩), .int .i64 k, .int .i64 f, .int .i64 a, .string x, .slice (some ⟨g, 0, none⟩) n c] (W.alloc (.cells cs t)) Q := by
 subst hg
 have h2 := h.below (alloc_below W (.cells cs t))
 refine (pmade_any p s _ h2.fm.st h1 _ _ _ _ _ _ _).mono ?_
 rintro e w' ⟨rfl, hb⟩
 have h3 := h2.below hb
 refine ok w' h3 fun _ => ⟨_, 0, rfl, h.fm.lt, ?_⟩
 refine row_nln (t := t) E 0 [] ?_ rfl fun e hm => ?_
 · have h4 := blk_below (alloc_top W cs t) hb
   rw [hc] at h4
   exact h4
 · obtain ⟨_, _, k1, k2⟩ := h3.nd e (he e hm)
   exact ⟨k1, k2.wide fun k _ hk => hk.1⟩
theorem Lx.six {p : PC} {w W : World} {s : Ps} {T : List (Nat × Tok)} {D : List NdL} (h : Lx p w W s T D) : ∃ c0 c1 c2 c3 c4 c5, W.heap[w.heap.size]? = some (.cells #[c0, c1, c2, c3, c4, c5] 24 (0, 0)) ∧ (W.cell? ⟨w.heap.size, 0, none⟩ = some c0 ∧ W.cell? ⟨w.heap.size, 1, none⟩ = some c1 ∧ W.cell? ⟨w.heap.size, 2, none⟩ = some c2 ∧ W.cell? ⟨w.heap.size, 3, none⟩ = some c3 ∧ W.cell? ⟨w.heap.size, 4, none⟩ = some c4 ∧ W.cell? ⟨w.heap.size, 5, none⟩ = some c5) ∧ W.frozen? ⟨w.heap.size, 0, none⟩ = false ∧ W.frozen? ⟨w.heap.size, 1, none⟩ = false ∧ W.frozen? ⟨w.heap.size, 2, none⟩ = false ∧ W.frozen? ⟨w.heap.size, 3, none⟩ = false ∧ W.frozen? ⟨w.heap.size, 4, none⟩ = false ∧ W.frozen? ⟨w.heap.size, 5, none⟩ = false := by
 obtain ⟨z0, z1, z2, z3, z4, z5, hr⟩ := h.fm.res
 exact ⟨z0, z1, z2, z3, z4, z5, hr, six_cells hr, frozen_of_row _ _ 0 _ _ hr, frozen_of_row _ _ 1 _ _ hr, frozen_of_row _ _ 2 _ _ hr, frozen_of_row _ _ 3 _ _ hr, frozen_of_row _ _ 4 _ _ hr, frozen_of_row _ _ 5 _ _ hr⟩
theorem Lx.put {p : PC} {w W : World} {s : Ps} {T : List (Nat × Tok)} (D1 : List NdL) {D2 : List NdL} {N : Nat} {m : Nd} {B : Option Addr} {b : Nat} (h : Lx p w W s T (D1 ++ (N, m, B, b) :: D2)) {n : Nd} {A : Option Addr} {c : Nat} (hc : n.kids.length ≤ c) (hk : SIn W (Pl w (D1 ++ (N, m, B, b) :: D2)) n.kids A) :
 Lx p w ((((((W.setCell ⟨N, 0, none⟩ (.int .i64 n.kind)).setCell ⟨N, 1, none⟩ (.int .i64 n.fro)).setCell ⟨N, 2, none⟩ (.int .i64 n.till)).setCell ⟨N, 3, none⟩ (.int .i64 n.at')).setCell ⟨N, 4, none⟩ (.string n.name)).setCell ⟨N, 5, none⟩ (.slice A n.kids.length c)) s T (D1 ++ (N, n, A, c) :: D2) := by
 have hN : (N, m, B, b) ∈ D1 ++ (N, m, B, b) :: D2 := List.mem_append_right _ (List.mem_cons_self ..)
 obtain ⟨n1, n2, _, _⟩ := h.nd _ hN
 have hap := h.apart
 rw [List.map_append, List.map_cons, ← List.append_assoc, List.perm_middle.nodup_iff, List.nodup_cons, List.append_assoc] at hap
 have hother : ∀ k, k ≠ N → _ := fun k hk => six_otherP (W := W) hk (.int .i64 n.kind) (.int .i64 n.fro) (.int .i64 n.till) (.int .i64 n.at') (.string n.name) (.slice A n.kids.length c)
 have hpl : ∀ k, Pl w (D1 ++ (N, m, B, b) :: D2) k → Pl w (D1 ++ (N, n, A, c) :: D2) k := fun k hk => ⟨hk.1, fun d hd => by
  rcases List.mem_append.1 hd with hd | hd
  · exact hk.2 d (List.mem_append_left _ hd)
  · rcases List.mem_cons.1 hd with rfl | hd
    · exact hk.2 (N, m, B, b) hN
    · exact hk.2 d (List.mem_append_right _ (List.mem_cons_of_mem _ hd))⟩
 have wd : ∀ {l : List Nd} {C : Option Addr}, SIn W (Pl w (D1 ++ (N, m, B, b) :: D2)) l C → SIn _ (Pl w (D1 ++ (N, n, A, c) :: D2)) l C := fun hs => hs.keep (fun k hk _ => hother k (hk.2 _ hN)) (fun k hk _ => hpl k hk)
 have old : ∀ a ∈ D1 ++ D2, a ∈ D1 ++ (N, m, B, b) :: D2 ∧ a.1 ≠ N := fun a ha => by
  have h2 : a.1 ∈ D1.map (·.1) ++ D2.map (·.1) := by rw [← List.map_append]; exact List.mem_map.2 ⟨a, ha, rfl⟩
  refine ⟨?_, fun e => hap.1 (List.mem_append_right _ (e ▸ h2))⟩
  rcases List.mem_append.1 ha with ha | ha
  · exact List.mem_append_left _ ha
  · exact List.mem_append_right _ (List.mem_cons_of_mem _ ha)
 have rest : ∀ a ∈ D1 ++ D2, _ := fun a ha => by
  obtain ⟨o1, o2⟩ := old a ha
  obtain ⟨a1, a2, a3, a4⟩ := h.nd a o1
  exact And.intro a1 (And.intro ((hother a.1 o2).trans a2) (And.intro a3 (wd a4)))
 refine ⟨h.fm.set6 n1 _ _ _ _ _ _, fun a ha => ?_, fun a ha => ?_, ?_⟩
 · obtain ⟨a1, a2⟩ := h.tok a ha
   exact ⟨a1, (hother a.1 (fun e => hap.1 (List.mem_append_left _ (List.mem_map.2 ⟨a, ha, e⟩)))).trans a2⟩
 · rcases List.mem_append.1 ha with ha | ha
   · exact rest a (List.mem_append_left _ ha)
   · rcases List.mem_cons.1 ha with rfl | ha
     · exact ⟨n1, six_heap n2, hc, wd hk⟩
     · exact rest a (List.mem_append_right _ ha)
 · rw [List.map_append, List.map_cons, ← List.append_assoc, List.perm_middle.nodup_iff, List.nodup_cons, List.append_assoc]
   exact hap
theorem st_go {p : PC} {w W : World} {s : Ps} {T : List (Nat × Tok)} {D : List NdL} {m : List UInt8} {Q : Ending → World → Prop} (h : Lx p w W s T D) (ok : ∀ w', Lx p w w' s T D → Q (.returned (.bool (atB p.ts s m))) w') : Calls Tryz.prog 65 #[.pointer (some ⟨p.R, 0, none⟩), .string (txt m)] W Q := by
 refine (pstands_any p m s W h.fm.st).mono ?_
 rintro e w' ⟨rfl, hb⟩
 exact ok w' (h.below hb)
theorem ps_go {p : PC} {w W : World} {s : Ps} {T : List (Nat × Tok)} {D : List NdL} {m : List UInt8} {Q : Ending → World → Prop} (h : Lx p w W s T D) (hm : m ≠ []) (ok : ∀ w', Lx p w w' (psd p.ts s m) T D → Q (.returned (.bool (atB p.ts s m))) w') : Calls Tryz.prog 146 #[.pointer (some ⟨p.R, 0, none⟩), .string (txt m)] W Q := by
 refine (ppassed_any p m hm s W h.fm.st).mono ?_
 rintro e w' ⟨rfl, hs, hf⟩
 exact ok w' (h.step hf hs)
theorem six_all {W : World} {N : Nat} {c0 c1 c2 c3 c4 c5 : Value} (hr : W.heap[N]? = some (.cells #[c0, c1, c2, c3, c4, c5] 24 (0, 0))) : (W.cell? ⟨N, 0, none⟩ = some c0 ∧ W.cell? ⟨N, 1, none⟩ = some c1 ∧ W.cell? ⟨N, 2, none⟩ = some c2 ∧ W.cell? ⟨N, 3, none⟩ = some c3 ∧ W.cell? ⟨N, 4, none⟩ = some c4 ∧ W.cell? ⟨N, 5, none⟩ = some c5) ∧ W.frozen? ⟨N, 0, none⟩ = false ∧ W.frozen? ⟨N, 1, none⟩ = false ∧ W.frozen? ⟨N, 2, none⟩ = false ∧ W.frozen? ⟨N, 3, none⟩ = false ∧ W.frozen? ⟨N, 4, none⟩ = false ∧ W.frozen? ⟨N, 5, none⟩ = false :=
 ⟨six_cells hr, frozen_of_row _ _ 0 _ _ hr, frozen_of_row _ _ 1 _ _ hr, frozen_of_row _ _ 2 _ _ hr, frozen_of_row _ _ 3 _ _ hr, frozen_of_row _ _ 4 _ _ hr, frozen_of_row _ _ 5 _ _ hr⟩
theorem bad_eq {α β : Type} {r0 : Pz α} {r : Pz β} {f : α → Ps → Pf β} {k x : Nat} (h : match r0 with | .bad k e => r = .bad k e | .ok a s => f a s = some r) (e : r0 = .bad k x) : r = .bad k x := by subst e; exact h
theorem ok_eq {α β : Type} {r0 : Pz α} {r : Pz β} {f : α → Ps → Pf β} {a : α} {s : Ps} (h : match r0 with | .bad k e => r = .bad k e | .ok a s => f a s = some r) (e : r0 = .ok a s) : f a s = some r := by subst e; exact h
theorem Lx.hd {p : PC} {w W : World} {s : Ps} {T : List (Nat × Tok)} {D : List NdL} (h : Lx p w W s T D) (n : Nat) (hn : n ≤ 128) : Lx p w (W.setCell ⟨p.R, 3, none⟩ (.int .i64 n)) { s with h := n } T D :=
 h.step ((PFr.refl _ _).set (p := ⟨p.R, 3, none⟩) (.inl rfl) _) (PSt.store (s' := { s with h := n }) h.fm.st 3 _ rfl h.fm.st.lt h.fm.st.op hn)
theorem Lx.hdS {p : PC} {w W : World} {s : Ps} {T : List (Nat × Tok)} {D : List NdL} (h : Lx p w W s T D) {l : List Nd} {A : Option Addr} (hk : SIn W (Pl w D) l A) (v : Value) : SIn (W.setCell ⟨p.R, 3, none⟩ v) (Pl w D) l A :=
 hk.fr ((PFr.refl _ _).set (p := ⟨p.R, 3, none⟩) (.inl rfl) v) (fun hh => absurd hh.1 (Nat.not_lt.2 (Nat.le_of_lt h.fm.rlt)))
end Go.Proofs.YtmlclgkhnekmnaaGreatDoor
