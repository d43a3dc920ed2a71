/-
  A REGION THAT DRAWS ITS ORDER, whatever its operations make in memory: each operation keeps what was there, and gives a value of which a property holds that stays: then, in whatever order they come, all properties hold at the end (region_inv). No program but the one that the seat loads.
-/
import Derived.Test.YtcbfohokigamfaaGreatDoorNFn
import Derived.OrdersHeld
import Derived.Deep.RegionHeld3
namespace Go.Proofs.YtcbfohokigamfaaGreatDoor
open Go.RowKit

section
variable {P : Program} {ops : Array Oper} {Q : Exit → Act → World → Prop}
/-- What holds when some of a region's operations are done. -/
structure RInv (n : Nat) (todo : List Nat) (D : Nat → Nat) (φ : Nat → World → Value → Prop) (w0 : World) (a0 : Act) (listed : Array Bool) (a : Act) (w : World) : Prop where
  below : Below w0.heap.size w0 w
  defers : a.defers = a0.defers
  size : a.tmps.size = a0.tmps.size
  old : ∀ i, i < n → i ∉ todo → listed.getD i true = true
  rest : ∀ t, (∀ i, i ∈ todo → D i ≠ t) → a.tmps.getD t undef = a0.tmps.getD t undef
  vals : ∀ i, i ∈ todo → listed.getD i true = true → φ i w (a.tmps.getD (D i) undef)
/-- What an operation owes. -/
def ROp (P : Program) (ops : Array Oper) (Q : Exit → Act → World → Prop) (n : Nat) (todo : List Nat) (D : Nat → Nat) (φ : Nat → World → Value → Prop) (w0 : World) (a0 : Act) (i : Nat) : Prop :=
  ∀ (listed : Array Bool) (a : Act) (w : World), RInv n todo D φ w0 a0 listed a w → i ∈ Region.ready .any ops listed →
    wpOp P ops Q i (fun a' w' => ∃ v, a' = a.put (some (D i)) v ∧ φ i w' v ∧ Below w.heap.size w w') a w
theorem getD_set (T : Array Value) (d t : Nat) (v : Value) (hd : d < T.size) : (T.setIfInBounds d v).getD t undef = if d = t then v else T.getD t undef := by
  simp only [Array.getD_eq_getD_getElem?, Array.getElem?_setIfInBounds]
  by_cases h : d = t
  · subst h
    rw [if_pos rfl, if_pos rfl, if_pos hd]; rfl
  · rw [if_neg h, if_neg h]
theorem listed_set (L : Array Bool) (i j : Nat) : (L.setIfInBounds i true).getD j true = if i = j then true else L.getD j true := by
  simp only [Array.getD_eq_getD_getElem?, Array.getElem?_setIfInBounds]
  by_cases h : i = j
  · subst h
    rw [if_pos rfl, if_pos rfl]
    split <;> rfl
  · rw [if_neg h, if_neg h]
theorem RInv.step {n : Nat} {todo : List Nat} {D : Nat → Nat} {φ : Nat → World → Value → Prop} {w0 : World} {a0 : Act} {listed : Array Bool} {a : Act} {w w' : World} {i : Nat} {v : Value}
    (hD : ∀ i j, i ∈ todo → j ∈ todo → D i = D j → i = j) (hsz : ∀ i, i ∈ todo → D i < a0.tmps.size) (mono : ∀ i w w' v, φ i w v → Below w.heap.size w w' → φ i w' v)
    (h : RInv n todo D φ w0 a0 listed a w) (hi : i ∈ todo) (hv : φ i w' v) (hb : Below w.heap.size w w') : RInv n todo D φ w0 a0 (listed.setIfInBounds i true) (a.put (some (D i)) v) w' := by
  have hs : D i < a.tmps.size := by rw [h.size]; exact hsz i hi
  refine ⟨h.below.trans (hb.mono h.below.size), h.defers, ?_, fun j hj hn => ?_, fun t ht => ?_, fun j hj hl => ?_⟩
  · show (a.tmps.setIfInBounds (D i) v).size = _
    rw [Array.size_setIfInBounds, h.size]
  · rw [listed_set]
    split
    · rfl
    · exact h.old j hj hn
  · show (a.tmps.setIfInBounds (D i) v).getD t undef = _
    rw [getD_set _ _ _ _ hs, if_neg (ht i hi), h.rest t ht]
  · show φ j w' ((a.tmps.setIfInBounds (D i) v).getD (D j) undef)
    rw [getD_set _ _ _ _ hs]
    by_cases hij : i = j
    · subst hij
      rw [if_pos rfl]; exact hv
    · rw [if_neg (fun hd => hij (hD i j hi hj hd))]
      rw [listed_set, if_neg hij] at hl
      exact mono j w w' _ (h.vals j hj hl) hb
/-- How many are still to come. -/
def toCome (listed : Array Bool) (n : Nat) : Nat := ((List.range n).filter fun i => !listed.getD i true).length
theorem toCome_set {listed : Array Bool} {n i : Nat} (hi : i < n) (hl : listed.getD i true = false) : toCome (listed.setIfInBounds i true) n + 1 ≤ toCome listed n := by
  unfold toCome
  have key : ∀ l : List Nat, l.Nodup → i ∈ l → ((l.filter fun j => !(listed.setIfInBounds i true).getD j true).length + 1 ≤ (l.filter fun j => !listed.getD j true).length) := by
    intro l
    induction l with
    | nil => intro _ h; cases h
    | cons k l ih =>
      intro hn hm
      rw [List.nodup_cons] at hn
      rw [List.filter_cons, List.filter_cons]
      by_cases hk : i = k
      · subst hk
        have e1 : (!(listed.setIfInBounds i true).getD i true) = false := by rw [listed_set, if_pos rfl]; rfl
        have e2 : (!listed.getD i true) = true := by rw [hl]; rfl
        rw [e1, e2]
        simp only [Bool.false_eq_true, if_false, if_true, List.length_cons]
        have : (l.filter fun j => !(listed.setIfInBounds i true).getD j true) = l.filter fun j => !listed.getD j true := by
          apply List.filter_congr
          intro j hj
          rw [listed_set, if_neg (by rintro rfl; exact hn.1 hj)]
        rw [this]; exact Nat.le_refl _
      · have hm' : i ∈ l := by
          rcases List.mem_cons.1 hm with e | e
          · exact absurd e hk
          · exact e
        have := ih hn.2 hm'
        rw [listed_set, if_neg hk]
        split
        · simp only [List.length_cons]; omega
        · exact this
  exact key _ List.nodup_range (List.mem_range.2 hi)
theorem wpAnyH_inv {n : Nat} {todo : List Nat} {S : World → Prop} {D : Nat → Nat} {φ : Nat → World → Value → Prop} {w0 : World} {a0 : Act} (hn : ops.size = n)
    (hD : ∀ i j, i ∈ todo → j ∈ todo → D i = D j → i = j) (hsz : ∀ i, i ∈ todo → D i < a0.tmps.size) (mono : ∀ i w w' v, φ i w v → Below w.heap.size w w' → φ i w' v)
    (hE : ∀ (i : Nat) (o : Oper), ops[i]? = some o → ∀ e ∈ o.after, e.on < i) (hops : ∀ i, i ∈ todo → ROp P ops Q n todo D φ w0 a0 i) (htn : ∀ i, i ∈ todo → i < n) (hS : ∀ w', Below w0.heap.size w0 w' → S w')
    (hQ : ∀ a w, RInv n todo D φ w0 a0 (Array.replicate n true) a w → Q .normal a w) :
    ∀ fuel listed a w, listed.size = n → toCome listed n ≤ fuel → RInv n todo D φ w0 a0 listed a w → wpAnyH P .any ops Q S fuel listed a w := by
  have none_left : ∀ listed : Array Bool, listed.size = n → Region.ready .any ops listed = [] → ∀ i, i < n → listed.getD i true = true := by
    intro listed hl hr i
    induction i using Nat.strongRecOn with
    | _ i ih =>
      intro hi
      cases hx : listed.getD i true with
      | true => rfl
      | false =>
        exfalso
        have hio : ops[i]? = some ops[i] := Array.getElem?_eq_getElem (by omega)
        have : i ∈ Region.ready .any ops listed := by
          unfold Region.ready
          rw [List.mem_filter, List.mem_range]
          refine ⟨by omega, ?_⟩
          rw [hx, hio]
          simp only [Bool.not_false, Bool.true_and, Option.map_some, Option.getD_some]
          rw [Array.all_eq_true_iff_forall_mem]
          intro e he
          have h1 := hE i _ hio e he
          have h2 := ih e.on h1 (by omega)
          have h3 : listed.getD e.on false = true := by
            rw [Array.getD_eq_getD_getElem?] at h2 ⊢
            rw [Array.getElem?_eq_getElem (by omega)] at h2 ⊢
            exact h2
          rw [h3, Bool.or_true]
        rw [hr] at this
        cases this
  have all_true : ∀ listed : Array Bool, listed.size = n → Region.ready .any ops listed = [] → ∀ a w, RInv n todo D φ w0 a0 listed a w → Q .normal a w := by
    intro listed hl hr a w h
    exact hQ a w ⟨h.below, h.defers, h.size, fun i hi hn => by rw [Array.getD_eq_getD_getElem?, Array.getElem?_replicate, if_pos hi]; rfl, h.rest, fun i hi _ => h.vals i hi (none_left listed hl hr i (htn i hi))⟩
  intro fuel
  induction fuel with
  | zero =>
    intro listed a w hl hc h
    have hr : Region.ready .any ops listed = [] := by
      rw [List.eq_nil_iff_forall_not_mem]
      intro i hi
      unfold Region.ready at hi
      rw [List.mem_filter, List.mem_range] at hi
      have hx : listed.getD i true = false := by
        have := hi.2
        simp only [Bool.and_eq_true, Bool.not_eq_true'] at this
        exact this.1
      have := toCome_set (n := n) (by omega) hx
      omega
    exact ⟨hr, all_true listed hl hr a w h⟩
  | succ fuel ih =>
    intro listed a w hl hc h
    refine ⟨fun hr => all_true listed hl hr a w h, fun i hi => ?_⟩
    have hi' := hi
    unfold Region.ready at hi'
    rw [List.mem_filter, List.mem_range] at hi'
    have hin : i < n := by omega
    have hx : listed.getD i true = false := by
      have := hi'.2
      simp only [Bool.and_eq_true, Bool.not_eq_true'] at this
      exact this.1
    have hit : i ∈ todo := by
      by_cases hm : i ∈ todo
      · exact hm
      · have := h.old i hin hm
        rw [hx] at this; cases this
    refine wpOp_mono ?_ (hops i hit listed a w h hi)
    rintro a' w' ⟨v, rfl, hv, hb⟩
    refine ⟨hS _ (h.below.trans (hb.mono h.below.size)), ih _ _ _ (by rw [Array.size_setIfInBounds, hl]) ?_ (h.step hD hsz mono hit hv hb)⟩
    have := toCome_set hin hx
    omega
/-- Each operation waits for earlier ones alone. -/
def edgesOk (ops : Array Oper) : Bool := (List.range ops.size).all fun i => match ops[i]? with
  | some o => o.after.all fun e => decide (e.on < i)
  | none => true
theorem edges_of {ops : Array Oper} (h : edgesOk ops = true) : ∀ (i : Nat) (o : Oper), ops[i]? = some o → ∀ e ∈ o.after, e.on < i := by
  intro i o ho e he
  unfold edgesOk at h
  rw [List.all_eq_true] at h
  have hi : i < ops.size := (Array.getElem?_eq_some_iff.1 ho).1
  have := h i (List.mem_range.2 hi)
  rw [ho] at this
  simp only at this
  rw [Array.all_eq_true_iff_forall_mem] at this
  have := this e he
  simpa using this
/-- The state of temporaries at the end. -/
def setAll (T : Array Value) (D : Nat → Nat) (vs : Nat → Value) : List Nat → Array Value
  | [] => T
  | n :: l => (setAll T D vs l).setIfInBounds (D n) (vs n)
theorem setAll_size (T : Array Value) (D : Nat → Nat) (vs : Nat → Value) : ∀ l, (setAll T D vs l).size = T.size
  | [] => rfl
  | n :: l => by rw [setAll, Array.size_setIfInBounds, setAll_size T D vs l]
theorem setAll_get (T : Array Value) (D : Nat → Nat) (vs : Nat → Value) : ∀ l : List Nat, (∀ i j, i ∈ l → j ∈ l → D i = D j → i = j) → (∀ i, i ∈ l → D i < T.size) →
    (∀ t, (∀ i, i ∈ l → D i ≠ t) → (setAll T D vs l).getD t undef = T.getD t undef) ∧ ∀ i, i ∈ l → (setAll T D vs l).getD (D i) undef = vs i
  | [], _, _ => ⟨fun _ _ => rfl, fun i hi => by cases hi⟩
  | n :: l, hD, hs => by
    obtain ⟨h1, h2⟩ := setAll_get T D vs l (fun i j hi hj => hD i j (List.mem_cons_of_mem _ hi) (List.mem_cons_of_mem _ hj)) (fun i hi => hs i (List.mem_cons_of_mem _ hi))
    have hsn : D n < (setAll T D vs l).size := by rw [setAll_size]; exact hs n (List.mem_cons_self ..)
    refine ⟨fun t ht => ?_, fun i hi => ?_⟩
    · rw [setAll, getD_set _ _ _ _ hsn, if_neg (ht n (List.mem_cons_self ..))]
      exact h1 t (fun i hi => ht i (List.mem_cons_of_mem _ hi))
    · rw [setAll, getD_set _ _ _ _ hsn]
      by_cases h : n = i
      · subst h; rw [if_pos rfl]
      · have hm : i ∈ l := by
          rcases List.mem_cons.1 hi with e | e
          · exact absurd e.symm h
          · exact e
        rw [if_neg (fun e => h (hD n i (List.mem_cons_self ..) hi e)), h2 i hm]
theorem arr_ext {A B : Array Value} (hs : A.size = B.size) (h : ∀ t, A.getD t undef = B.getD t undef) : A = B := by
  apply Array.ext hs
  intro i h1 h2
  have := h i
  rw [Array.getD_eq_getD_getElem?, Array.getD_eq_getD_getElem?, Array.getElem?_eq_getElem h1, Array.getElem?_eq_getElem h2] at this
  exact this
/-- Which slot an operation fills. -/
def dstOf (ops : Array Oper) (i : Nat) : Nat := ((ops[i]?).bind (·.dst)).getD 0
/-- Does an operation wait for another one? -/
def depOf (ops : Array Oper) (i j : Nat) : Bool := match ops[i]? with
  | some o => o.after.any fun e => e.on == j && Region.binds .any e
  | none => false
/-- The pending ones fill slots of their own, that there are. -/
def slotsOk (ops : Array Oper) (m : Nat) (todo : List Nat) : Bool := (todo.map (dstOf ops)).Nodup && todo.all fun i => decide (dstOf ops i < m)
theorem slots_inj {D : Nat → Nat} : ∀ {todo : List Nat}, (todo.map D).Nodup → ∀ i j, i ∈ todo → j ∈ todo → D i = D j → i = j
  | [], _, _, _, h, _, _ => by cases h
  | n :: l, hn, i, j, hi, hj, e => by
    rw [List.map_cons, List.nodup_cons] at hn
    rcases List.mem_cons.1 hi with rfl | hi'
    · rcases List.mem_cons.1 hj with rfl | hj'
      · rfl
      · exact absurd (e ▸ List.mem_map_of_mem hj') hn.1
    · rcases List.mem_cons.1 hj with rfl | hj'
      · exact absurd (e ▸ List.mem_map_of_mem hi') hn.1
      · exact slots_inj hn.2 i j hi' hj' e
/-- WHAT IS LEFT OF A REGION, whatever order its operations come in: each keeps what was there, and gives a value of which its property holds. -/
theorem region_rest {todo : List Nat} {S : World → Prop} {φ : Nat → World → Value → Prop} {w : World} {a0 : Act} {listed : Array Bool} {fuel : Nat}
    (hE : edgesOk ops = true) (hs : slotsOk ops a0.tmps.size todo = true) (hls : listed.size = ops.size) (hold : ∀ i, i < ops.size → i ∉ todo → listed.getD i true = true) (hnew : ∀ i, i ∈ todo → listed.getD i true = false) (htn : ∀ i, i ∈ todo → i < ops.size) (hfuel : toCome listed ops.size ≤ fuel)
    (mono : ∀ i w w' v, φ i w v → Below w.heap.size w w' → φ i w' v) (hS : ∀ w', Below w.heap.size w w' → S w')
    (hops : ∀ i, i ∈ todo → ∀ (a : Act) (w' : World), Below w.heap.size w w' → (∀ t, (∀ j, j ∈ todo → dstOf ops j ≠ t) → a.tmps.getD t undef = a0.tmps.getD t undef) → (∀ j, j ∈ todo → depOf ops i j = true → φ j w' (a.tmps.getD (dstOf ops j) undef)) →
      wpOp P ops Q i (fun a' w'' => ∃ v, a' = a.put (some (dstOf ops i)) v ∧ φ i w'' v ∧ Below w'.heap.size w' w'') a w')
    (hQ : ∀ vs w', Below w.heap.size w w' → (∀ i, i ∈ todo → φ i w' (vs i)) → Q .normal ⟨setAll a0.tmps (dstOf ops) vs todo, a0.defers⟩ w') : wpAnyH P .any ops Q S fuel listed a0 w := by
  unfold slotsOk at hs
  rw [Bool.and_eq_true, List.all_eq_true] at hs
  have hD := slots_inj (of_decide_eq_true hs.1)
  have hsz : ∀ i, i ∈ todo → dstOf ops i < a0.tmps.size := fun i hi => of_decide_eq_true (hs.2 i hi)
  refine wpAnyH_inv (n := ops.size) (todo := todo) (D := dstOf ops) (φ := φ) (w0 := w) (a0 := a0) rfl hD hsz mono (edges_of hE) ?_ htn hS ?_ fuel listed a0 w hls hfuel ⟨Below.refl _ _, rfl, rfl, hold, fun _ _ => rfl, fun i hi hl => ?_⟩
  · intro i hi listed' a w' h hr
    refine hops i hi a w' h.below h.rest (fun j hj hd => h.vals j hj ?_)
    unfold Region.ready at hr
    rw [List.mem_filter, List.mem_range] at hr
    have h2 := hr.2
    rw [Bool.and_eq_true] at h2
    have h3 := h2.2
    unfold depOf at hd
    cases ho : ops[i]? with
    | none => rw [ho] at hd; cases hd
    | some o =>
      rw [ho] at hd h3
      simp only [Option.map_some, Option.getD_some] at h3
      rw [Array.all_eq_true_iff_forall_mem] at h3
      simp only at hd
      obtain ⟨k, hk, hb⟩ := Array.any_eq_true.1 hd
      rw [Bool.and_eq_true] at hb
      have h4 := h3 _ (Array.getElem_mem hk)
      rw [hb.2, Bool.not_true, Bool.false_or] at h4
      have h5 : o.after[k].on = j := by simpa using hb.1
      rw [h5] at h4
      rw [Array.getD_eq_getD_getElem?] at h4 ⊢
      cases hx : listed'[j]? with
      | none => rfl
      | some b => rw [hx] at h4; exact h4
  · intro a w' h
    have hv : ∀ i, i ∈ todo → φ i w' (a.tmps.getD (dstOf ops i) undef) := fun i hi => h.vals i hi (by
      rw [Array.getD_eq_getD_getElem?, Array.getElem?_replicate]
      split <;> rfl)
    have key : a.tmps = setAll a0.tmps (dstOf ops) (fun i => a.tmps.getD (dstOf ops i) undef) todo := by
      obtain ⟨h1, h2⟩ := setAll_get a0.tmps (dstOf ops) (fun i => a.tmps.getD (dstOf ops i) undef) todo hD hsz
      apply arr_ext
      · rw [setAll_size, h.size]
      · intro t
        by_cases ht : ∃ i, i ∈ todo ∧ dstOf ops i = t
        · obtain ⟨i, hi, rfl⟩ := ht
          rw [h2 i hi]
        · have ht' : ∀ i, i ∈ todo → dstOf ops i ≠ t := fun i hi e => ht ⟨i, hi, e⟩
          rw [h1 t ht', h.rest t ht']
    have := hQ (fun i => a.tmps.getD (dstOf ops i) undef) w' h.below hv
    rw [← key, ← h.defers] at this
    exact this
  · rw [hnew i hi] at hl
    cases hl
/-- All of a list, one by one. -/
def EachOf (F : Nat → Prop) : List Nat → Prop
  | [] => True
  | i :: l => F i ∧ EachOf F l
theorem EachOf.mem {F : Nat → Prop} : ∀ {l : List Nat}, EachOf F l → ∀ i ∈ l, F i
  | [], _, _, h => by cases h
  | j :: l, h, i, hi => by
    rcases List.mem_cons.1 hi with rfl | hi
    · exact h.1
    · exact EachOf.mem h.2 i hi
/-- What the kernel looks at. -/
def restOk (ops : Array Oper) (m : Nat) (listed : Array Bool) (todo : List Nat) (fuel : Nat) : Bool :=
  edgesOk ops && slotsOk ops m todo && listed.size == ops.size && ((List.range ops.size).all fun i => todo.contains i || listed.getD i true) && (todo.all fun i => !listed.getD i true) && (todo.all fun i => decide (i < ops.size)) && decide (toCome listed ops.size ≤ fuel)
def freeOf (ops : Array Oper) (todo : List Nat) (t : Nat) : Bool := todo.all fun j => !(dstOf ops j == t)
def depsOf (ops : Array Oper) (todo : List Nat) (i j : Nat) : Bool := todo.contains j && depOf ops i j
theorem region_left {todo : List Nat} {S : World → Prop} {φ : Nat → World → Value → Prop} {w : World} {a0 : Act} {listed : Array Bool} {fuel : Nat}
    (hB : restOk ops a0.tmps.size listed todo fuel = true)
    (mono : ∀ i w w' v, φ i w v → Below w.heap.size w w' → φ i w' v) (hS : ∀ w', Below w.heap.size w w' → S w')
    (hops : EachOf (fun i => ∀ (a : Act) (w' : World), Below w.heap.size w w' → (∀ t, freeOf ops todo t = true → a.tmps.getD t undef = a0.tmps.getD t undef) → (∀ j, depsOf ops todo i j = true → φ j w' (a.tmps.getD (dstOf ops j) undef)) →
      wpOp P ops Q i (fun a' w'' => ∃ v, a' = a.put (some (dstOf ops i)) v ∧ φ i w'' v ∧ Below w'.heap.size w' w'') a w') todo)
    (hQ : ∀ vs w', Below w.heap.size w w' → EachOf (fun i => φ i w' (vs i)) todo → Q .normal ⟨setAll a0.tmps (dstOf ops) vs todo, a0.defers⟩ w') : wpAnyH P .any ops Q S fuel listed a0 w := by
  unfold restOk at hB
  simp only [Bool.and_eq_true, List.all_eq_true, beq_iff_eq, decide_eq_true_eq, Bool.or_eq_true, Bool.not_eq_true', List.mem_range] at hB
  obtain ⟨⟨⟨⟨⟨⟨b1, b2⟩, b3⟩, b4⟩, b5⟩, b6⟩, b7⟩ := hB
  have toEach : ∀ {F : Nat → Prop} (l : List Nat), (∀ i ∈ l, F i) → EachOf F l := by
    intro F l
    induction l with
    | nil => intro _; trivial
    | cons i l ih => intro h; exact ⟨h i (List.mem_cons_self ..), ih fun j hj => h j (List.mem_cons_of_mem _ hj)⟩
  refine region_rest (todo := todo) (φ := φ) b1 b2 b3 (fun i hi hn => ?_) (fun i hi => b5 i hi) (fun i hi => b6 i hi) b7 mono hS (fun i hi a w' hb hr hd => ?_) (fun vs w' hb h => hQ vs w' hb (toEach todo h))
  · rcases b4 i hi with h | h
    · exact absurd (List.contains_iff_mem.1 h) hn
    · exact h
  · refine hops.mem i hi a w' hb (fun t ht => hr t ?_) (fun j hj => ?_)
    · unfold freeOf at ht
      intro j hj e
      rw [List.all_eq_true] at ht
      have := ht j hj
      rw [e] at this
      simp at this
    · unfold depsOf at hj
      rw [Bool.and_eq_true] at hj
      exact hd j (List.contains_iff_mem.1 hj.1) hj.2
end
end Go.Proofs.YtcbfohokigamfaaGreatDoor
