/-
  json's meet: a set of keys that a call has made (KSet), asked and told of one key more; nothing else turns. Condition: the key's length.
  WHAT LIES IN MEMORY WHILE JSON IS READ: an object that is read (OSt), what may turn meanwhile (XS), items that were read so far (AIn). No condition.
-/
import Derived.Test.YtmkjoonbjmieoaaDoorQRead
import Derived.Maps.OwnSet
import Derived.StringKeys
namespace Go.Proofs.YtmkjoonbjmieoaaDoor
open Go.RowKit Go.Maps

theorem lawS : Keyed Tryd.prog 9 := string_keyed Tryd.underlying9
theorem zeroU (w : World) : (zeroValue 107).run Tryd.prog w = .ok (.agg #[]) w := by kernel_rfl
abbrev OwnsS (w : World) (b n : Nat) (D : DataW Unit) : Prop := w.ownsMap Tryd.prog 9 unitElem b n D
/-- A set of keys in memory. -/
def KSet (W : World) (b : Nat) (ks : List (List UInt8)) : Prop :=
  ∃ n D, n ≤ ks.length ∧ OwnsS W b n D ∧ ∀ x, Maps.has D (.string x) = ks.contains x
theorem KSet.lt {W : World} {b : Nat} {ks : List (List UInt8)} (h : KSet W b ks) : b < W.heap.size := by
  obtain ⟨n, D, _, ho, _⟩ := h
  exact World.ownsMap.lt ho
theorem KSet.keep {W W' : World} {b : Nat} {ks : List (List UInt8)} (h : KSet W b ks) (hs : W'.heap[b]? = W.heap[b]?) : KSet W' b ks := by
  obtain ⟨n, D, hn, ho, hh⟩ := h
  obtain ⟨es, clock, h1, F, hs2, hD⟩ := ho
  exact ⟨n, D, hn, ⟨es, clock, hs.trans h1, F, hs2, hD⟩, hh⟩
theorem KSet.made (w : World) : KSet (w.alloc (.map #[] 0)) w.heap.size [] :=
  ⟨0, .map [], Nat.le_refl _, World.ownsMap_made (H := Unit) w Tryd.prog 9 unitElem, fun _ => rfl⟩
theorem is_keyS (x : List UInt8) : WideAt.IsKeyLit (.string x) := trivial
theorem txt_size (x : List UInt8) : (txt x).size = x.length := rfl
theorem txt_data (x : List UInt8) : (txt x).data.toList = x := rfl
theorem set_look {w : World} {b : Nat} {ks : List (List UInt8)} (h : KSet w b ks) (x : List UInt8) (hx : x.length ≤ maxLen) :
    (Instr.lookup 89 (.map (some b)) (.string (txt x)) true).run Tryd.prog w = .ok (.tuple #[.agg #[], .bool (ks.contains x)]) w := by
  obtain ⟨n, D, hn, ho, hh⟩ := h
  obtain ⟨v, ps, h1, h2⟩ := World.ownsMap.look_ok ho lawS Tryd.underlying89 (zeroU w) unitElem_mk (Go.WideMaps.keyOf_string_mk Tryd.underlying9 (s := txt x) (by rw [txt_size]; exact hx))
  obtain ⟨rfl, _⟩ := unitElem_inv h2
  rw [txt_data, hh] at h1
  exact h1
theorem set_step {w : World} {b : Nat} {ks : List (List UInt8)} (h : KSet w b ks) (x : List UInt8) (hx : x.length ≤ maxLen) (hk : ks.length < maxLen) :
    ∃ w', (Instr.mapUpdate 89 (.map (some b)) (.string (txt x)) (.agg #[])).run Tryd.prog w = .ok () w' ∧ KSet w' b (ks ++ [x]) ∧ w.grownBy w' (some b) := by
  obtain ⟨n, D, hn, ho, hh⟩ := h
  have hI := World.ownsMap.isMap ho
  obtain ⟨w', h1, h2, h3⟩ := World.ownsMap.update ho lawS Tryd.underlying89 (by omega) (Go.WideMaps.keyOf_string_mk Tryd.underlying9 (s := txt x) (by rw [txt_size]; exact hx)) unitElem_mk
  refine ⟨w', h1, ⟨n + 1, _, by rw [List.length_append]; simp; omega, h2, fun y => ?_⟩, h3⟩
  rw [txt_data, List.contains_append]
  by_cases hy : y = x
  · subst hy
    rw [has_put_same hI (is_keyS _)]
    simp
  · have hne : (Lit.string y) ≠ (.string x) := by intro h; injection h with h; exact hy h
    rw [has_put_other hne, hh]
    have : [x].contains y = false := by simpa using hy
    rw [this, Bool.or_false]
theorem Fr.of_grown {w w' : World} {b : Nat} (h : w.grownBy w' (some b)) : Fr (· = b) w w' :=
  ⟨h.os, h.tape, h.output, h.size, fun k hk hx => h.block k hk (fun e => hx (Option.some.inj e))⟩
set_option maxRecDepth 100000 in
theorem meet_any (b : Nat) (ks : List (List UInt8)) (x : List UInt8) (hx : x.length ≤ maxLen) (hk : ks.length < maxLen) (w : World) (h : KSet w b ks) : Calls Tryd.prog 56 #[.map (some b), .string (txt x)] w fun e w' => e = .returned (.bool (ks.contains x)) ∧ KSet w' b (ks ++ [x]) ∧ Fr (· = b) w w' := by
  have h1 := set_look h x hx
  obtain ⟨w1, h2, h3, h4⟩ := set_step h x hx hk
  have HK := Lib.hid h3
  have HF := Lib.hid (Fr.of_grown h4)
  clear h h3 h4
  generalize ks.contains x = c at *
  go_enter Tryd.func56, Tryd.ntmps56
  go_wp2_with fail
  go_ret
  exact ⟨rfl, HK.out, HF.out⟩
end Go.Proofs.YtmkjoonbjmieoaaDoor
namespace Go.Proofs.YtmkjoonbjmieoaaDoor
open Go.RowKit

def kcells (ks : List (List UInt8)) : List Value := ks.map fun x => .string (txt x)
/-- The block of an object's keys. -/
def KB (W : World) (O k : Nat) : Prop := ∃ v, W.cell? ⟨O, 1, none⟩ = some v ∧ v.ownBlock = some k
/-- An object that is read: its reader, its keys so far, as they were met. -/
def OSt (W : World) (N R O Mb : Nat) (ks : List (List UInt8)) : Prop :=
  ∃ v, W.heap[O]? = some (.cells #[.pointer (some ⟨R, 0, none⟩), v, .map (some Mb)] 91 (0, 0)) ∧ W.ownsRow N 9 1 v ks.length (kcells ks) ∧ KSet W Mb ks ∧ N ≤ O ∧ N ≤ Mb ∧ O ≠ Mb ∧ v.ownBlock ≠ some O ∧ v.ownBlock ≠ some Mb ∧ R < N
/-- What may turn while items are read: the reader; of an object it, its keys, its set. -/
def XS (o : Bool) (R O Mb : Nat) (W : World) (k : Nat) : Prop := k = R ∨ (o = true ∧ (k = O ∨ k = Mb ∨ KB W O k))
def St (o : Bool) (N R O Mb : Nat) (W : World) (ts : List Tok) (tw : Bool) (ks : List (List UInt8)) : Prop := RSt W R ts tw ∧ (o = true → OSt W N R O Mb ks) ∧ (o = false → ks = []) ∧ ks.length + ts.length ≤ 1000000
theorem KB.of {W : World} {O k : Nat} {a v m : Value} {T : TypeId} (h : W.heap[O]? = some (.cells #[a, v, m] T (0, 0))) : KB W O k ↔ v.ownBlock = some k := by
  have hc : W.cell? ⟨O, 1, none⟩ = some v := by rw [cell_at h]; rfl
  constructor
  · rintro ⟨u, hu, hk⟩
    rw [hc] at hu
    obtain rfl := Option.some.inj hu
    exact hk
  · intro hk
    exact ⟨v, hc, hk⟩
theorem XS.lt {o : Bool} {N R O Mb : Nat} {W : World} {ts : List Tok} {tw : Bool} {ks : List (List UInt8)} (h : St o N R O Mb W ts tw ks) {k : Nat} (hx : XS o R O Mb W k) : k < W.heap.size := by
  rcases hx with rfl | ⟨ho, hx⟩
  · exact h.1.lt
  · obtain ⟨v, hO, hv, hM, _⟩ := h.2.1 ho
    rcases hx with rfl | rfl | hx
    · exact (Array.getElem?_eq_some_iff.1 hO).1
    · exact hM.lt
    · exact (World.ownsRow.lt hv k ((KB.of hO).1 hx)).2
/-- What is kept where nothing of it has turned. -/
theorem St.keep {o : Bool} {N R O Mb : Nat} {W W' : World} {ts : List Tok} {tw : Bool} {ks : List (List UInt8)} (h : St o N R O Mb W ts tw ks) (hs : ∀ k, (k ≤ R ∨ XS o R O Mb W k) → W'.heap[k]? = W.heap[k]?) :
    St o N R O Mb W' ts tw ks ∧ ∀ k, XS o R O Mb W' k ↔ XS o R O Mb W k := by
  refine ⟨⟨h.1.keep (fun k hk => hs k (.inl hk)), fun ho => ?_, h.2.2⟩, fun k => ?_⟩
  · obtain ⟨v, hO, hv, hM, hrest⟩ := h.2.1 ho
    refine ⟨v, (hs O (.inr (.inr ⟨ho, .inl rfl⟩))).trans hO, ?_, hM.keep (hs Mb (.inr (.inr ⟨ho, .inr (.inl rfl)⟩))), hrest⟩
    refine ⟨hv.1, ?_⟩
    rcases hv.2 with h0 | ⟨g, cap, cur, h1, h2, h3, h4⟩
    · exact .inl h0
    · exact .inr ⟨g, cap, cur, h1, h2, (hs g (.inr (.inr ⟨ho, .inr (.inr ((KB.of hO).2 (by rw [h1]; rfl)))⟩))).trans h3, h4⟩
  · unfold XS
    by_cases ho : o = true
    · obtain ⟨v, hO, _⟩ := h.2.1 ho
      have hO' := (hs O (.inr (.inr ⟨ho, .inl rfl⟩))).trans hO
      rw [KB.of hO', KB.of hO]
    · simp [ho]
theorem St.below {o : Bool} {N R O Mb : Nat} {W W' : World} {ts : List Tok} {tw : Bool} {ks : List (List UInt8)} (h : St o N R O Mb W ts tw ks) (hb : Below W.heap.size W W') :
    St o N R O Mb W' ts tw ks ∧ ∀ k, XS o R O Mb W' k ↔ XS o R O Mb W k :=
  h.keep (fun k hk => hb.block k (by rcases hk with hk | hk; · have := h.1.lt; omega
                                     · exact XS.lt h hk))
/-- Items that were read so far, their cells one behind the other. -/
def AIn (W : World) (P : Nat → Prop) : List J → List Value → Prop
  | [], cs => cs = []
  | j :: l, cs => ∃ v0 v1 v2 v3 cs', cs = v0 :: v1 :: v2 :: v3 :: cs' ∧ JIn W P j (.agg #[v0, v1, v2, v3]) ∧ AIn W P l cs'
theorem AIn.keep {W W' : World} {P Q : Nat → Prop} (hs : ∀ k, P k → k < W.heap.size → W'.heap[k]? = W.heap[k]?) (hq : ∀ k, P k → k < W.heap.size → Q k) : ∀ {l : List J} {cs : List Value}, AIn W P l cs → AIn W' Q l cs
  | [], _, h => h
  | _ :: _, _, ⟨v0, v1, v2, v3, cs', h1, h2, h3⟩ => ⟨v0, v1, v2, v3, cs', h1, JIn.keep hs hq _ _ h2, AIn.keep hs hq h3⟩
theorem AIn.snoc {W : World} {P : Nat → Prop} {j : J} {v0 v1 v2 v3 : Value} (h : JIn W P j (.agg #[v0, v1, v2, v3])) : ∀ {l : List J} {cs : List Value}, AIn W P l cs → AIn W P (l ++ [j]) (cs ++ [v0, v1, v2, v3])
  | [], cs, h2 => by
    obtain rfl : cs = [] := h2
    exact ⟨v0, v1, v2, v3, [], rfl, h, rfl⟩
  | _ :: _, _, ⟨u0, u1, u2, u3, cs', h1, h2, h3⟩ => ⟨u0, u1, u2, u3, _, by rw [h1]; rfl, h2, AIn.snoc h h3⟩
theorem AIn.len {W : World} {P : Nat → Prop} : ∀ {l : List J} {cs : List Value}, AIn W P l cs → cs.length = l.length * 4
  | [], cs, h => by obtain rfl : cs = [] := h; rfl
  | _ :: l, _, ⟨_, _, _, _, cs', h1, _, h3⟩ => by
    have := AIn.len h3
    rw [h1, List.length_cons, List.length_cons, List.length_cons, List.length_cons, List.length_cons, this]; omega
theorem AIn.lin {W : World} {P : Nat → Prop} {b : Nat} : ∀ {l : List J} {cs : List Value} {o : Nat}, AIn W P l cs → (∀ i v, cs[i]? = some v → W.cell? ⟨b, o + i, none⟩ = some v) → LIn W P b o l
  | [], _, _, _, _ => by rw [LIn]; trivial
  | j :: l, _, o, ⟨v0, v1, v2, v3, cs', h1, h2, h3⟩, hc => by
    subst h1
    rw [LIn]
    refine ⟨⟨v0, v1, v2, v3, hc 0 v0 rfl, hc 1 v1 rfl, hc 2 v2 rfl, hc 3 v3 rfl, h2⟩, AIn.lin h3 (fun i v hv => ?_)⟩
    have := hc (i + 4) v (by simpa using hv)
    rw [show o + (i + 4) = o + 4 + i by omega] at this
    exact this
/-- The object still has keys. -/
def OK1 (o : Bool) (O : Nat) (W : World) : Prop := o = true → ∃ A n c, W.cell? ⟨O, 1, none⟩ = some (.slice A n c)
theorem OK1.of_heap {o : Bool} {N R O Mb : Nat} {W W' : World} {ks : List (List UInt8)} (h : o = true → OSt W N R O Mb ks) (hs : o = true → W'.heap[O]? = W.heap[O]?) : OK1 o O W' := fun ho => by
  obtain ⟨v, hO, hv, _⟩ := h ho
  obtain ⟨A, c, rfl⟩ := slice_form hv
  exact ⟨A, _, c, by rw [cell_at ((hs ho).trans hO)]; rfl⟩
theorem OK1.below {o : Bool} {O : Nat} {W W' : World} (h : OK1 o O W) (hb : Below W.heap.size W W') : OK1 o O W' := fun ho => by
  obtain ⟨A, n, c, hc⟩ := h ho
  exact ⟨A, n, c, cell_keep2 hb hc⟩
/-- What reading one item hands back. -/
def OneEnd (o : Bool) (N R O Mb : Nat) (w : World) (res : Option (J × List (List UInt8) × List Tok × Bool)) (e : Ending) (w' : World) : Prop :=
  match res with
  | none => ∃ k s A n c B m d, e = .returned (.tuple #[.agg #[.int .i64 k, .string s, .slice A n c, .slice B m d], .bool false]) ∧ Fr (XS o R O Mb w) w w' ∧ OK1 o O w'
  | some (j, ks', ts', tw') => ∃ v, e = .returned (.tuple #[v, .bool true]) ∧ JIn w' (fun k => w.heap.size ≤ k ∧ ¬ XS o R O Mb w' k) j v ∧ St o N R O Mb w' ts' tw' ks' ∧ Fr (XS o R O Mb w) w w' ∧ ∀ k, k < w.heap.size → XS o R O Mb w' k → XS o R O Mb w k
/-- What reading all items hands back. -/
def ItemsEnd (o : Bool) (N R O Mb : Nat) (w : World) (res : Option (List J × List (List UInt8) × List Tok × Bool)) (e : Ending) (w' : World) : Prop :=
  match res with
  | none => e = .returned (.tuple #[.slice none 0 0, .bool false]) ∧ Fr (XS o R O Mb w) w w' ∧ OK1 o O w'
  | some (l, ks', ts', tw') => ∃ ia ic, e = .returned (.tuple #[.slice ia l.length ic, .bool true]) ∧ (0 < l.length → ∃ b, ia = some ⟨b, 0, none⟩ ∧ (w.heap.size ≤ b ∧ ¬ XS o R O Mb w' b) ∧ LIn w' (fun k => w.heap.size ≤ k ∧ ¬ XS o R O Mb w' k) b 0 l) ∧
      St o N R O Mb w' ts' tw' ks' ∧ Fr (XS o R O Mb w) w w' ∧ ∀ k, k < w.heap.size → XS o R O Mb w' k → XS o R O Mb w k
end Go.Proofs.YtmkjoonbjmieoaaDoor
