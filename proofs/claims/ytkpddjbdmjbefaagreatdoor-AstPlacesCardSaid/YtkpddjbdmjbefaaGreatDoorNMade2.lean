/-
  A REGION THAT DRAWS ITS ORDER, whatever its operations make in memory: each operation keeps what was there, and gives a value of which a property holds that stays: then, in whatever order they come, all properties hold at the end (region_inv). No program but the one that the seat loads.
  ast's has, one, many, made and what they are made of: what they tell of trees that lie in memory, their shapes and parts given as function values. No memory that was there turns. Conditions: those of FnV, PtV, NmV.
  ast's made; one, many, isWord as makers of function values; isEmpty, isOperator, levelOf. Conditions: those of FnV, PtV, NmV.
-/
import Derived.Test.YtkpddjbdmjbefaaGreatDoorNFn
import Derived.OrdersHeld
import Derived.Deep.RegionHeld3
import Derived.Deep.QuietTactic
import Derived.BigQuiet
namespace Go.Proofs.YtkpddjbdmjbefaaGreatDoor
open Go.RowKit

section
variable {P : Program} {ops : Array Oper} {Q : Exit → Act → World → Prop}
/-- What holds when some of a region's operations are done. -/
structure RInv (n : Nat) (todo : List Nat) (D : Nat → Nat) (φ : Nat → World → Value → Prop) (w0 : World) (a0 : Act) (listed : Array Bool) (a : Act) (w : World) : Prop where
  below : Below w0.heap.size w0 w
  defers : a.defers = a0.defers
  size : a.tmps.size = a0.tmps.size
  old : ∀ i, i < n → i ∉ todo → listed.getD i true = true
  rest : ∀ t, (∀ i, i ∈ todo → D i ≠ t) → a.tmps.getD t undef = a0.tmps.getD t undef
  vals : ∀ i, i ∈ todo → listed.getD i true = true → φ i w (a.tmps.getD (D i) undef)
/-- What an operation owes. -/
def ROp (P : Program) (ops : Array Oper) (Q : Exit → Act → World → Prop) (n : Nat) (todo : List Nat) (D : Nat → Nat) (φ : Nat → World → Value → Prop) (w0 : World) (a0 : Act) (i : Nat) : Prop :=
  ∀ (listed : Array Bool) (a : Act) (w : World), RInv n todo D φ w0 a0 listed a w → i ∈ Region.ready .any ops listed →
    wpOp P ops Q i (fun a' w' => ∃ v, a' = a.put (some (D i)) v ∧ φ i w' v ∧ Below w.heap.size w w') a w
theorem getD_set (T : Array Value) (d t : Nat) (v : Value) (hd : d < T.size) : (T.setIfInBounds d v).getD t undef = if d = t then v else T.getD t undef := by
  simp only [Array.getD_eq_getD_getElem?, Array.getElem?_setIfInBounds]
  by_cases h : d = t
  · subst h
    rw [if_pos rfl, if_pos rfl, if_pos hd]; rfl
  · rw [if_neg h, if_neg h]
theorem listed_set (L : Array Bool) (i j : Nat) : (L.setIfInBounds i true).getD j true = if i = j then true else L.getD j true := by
  simp only [Array.getD_eq_getD_getElem?, Array.getElem?_setIfInBounds]
  by_cases h : i = j
  · subst h
    rw [if_pos rfl, if_pos rfl]
    split <;> rfl
  · rw [if_neg h, if_neg h]
theorem RInv.step {n : Nat} {todo : List Nat} {D : Nat → Nat} {φ : Nat → World → Value → Prop} {w0 : World} {a0 : Act} {listed : Array Bool} {a : Act} {w w' : World} {i : Nat} {v : Value}
    (hD : ∀ i j, i ∈ todo → j ∈ todo → D i = D j → i = j) (hsz : ∀ i, i ∈ todo → D i < a0.tmps.size) (mono : ∀ i w w' v, φ i w v → Below w.heap.size w w' → φ i w' v)
    (h : RInv n todo D φ w0 a0 listed a w) (hi : i ∈ todo) (hv : φ i w' v) (hb : Below w.heap.size w w') : RInv n todo D φ w0 a0 (listed.setIfInBounds i true) (a.put (some (D i)) v) w' := by
  have hs : D i < a.tmps.size := by rw [h.size]; exact hsz i hi
  refine ⟨h.below.trans (hb.mono h.below.size), h.defers, ?_, fun j hj hn => ?_, fun t ht => ?_, fun j hj hl => ?_⟩
  · show (a.tmps.setIfInBounds (D i) v).size = _
    rw [Array.size_setIfInBounds, h.size]
  · rw [listed_set]
    split
    · rfl
    · exact h.old j hj hn
  · show (a.tmps.setIfInBounds (D i) v).getD t undef = _
    rw [getD_set _ _ _ _ hs, if_neg (ht i hi), h.rest t ht]
  · show φ j w' ((a.tmps.setIfInBounds (D i) v).getD (D j) undef)
    rw [getD_set _ _ _ _ hs]
    by_cases hij : i = j
    · subst hij
      rw [if_pos rfl]; exact hv
    · rw [if_neg (fun hd => hij (hD i j hi hj hd))]
      rw [listed_set, if_neg hij] at hl
      exact mono j w w' _ (h.vals j hj hl) hb
/-- How many are still to come. -/
def toCome (listed : Array Bool) (n : Nat) : Nat := ((List.range n).filter fun i => !listed.getD i true).length
theorem toCome_set {listed : Array Bool} {n i : Nat} (hi : i < n) (hl : listed.getD i true = false) : toCome (listed.setIfInBounds i true) n + 1 ≤ toCome listed n := by
  unfold toCome
  have key : ∀ l : List Nat, l.Nodup → i ∈ l → ((l.filter fun j => !(listed.setIfInBounds i true).getD j true).length + 1 ≤ (l.filter fun j => !listed.getD j true).length) := by
    intro l
    induction l with
    | nil => intro _ h; cases h
    | cons k l ih =>
      intro hn hm
      rw [List.nodup_cons] at hn
      rw [List.filter_cons, List.filter_cons]
      by_cases hk : i = k
      · subst hk
        have e1 : (!(listed.setIfInBounds i true).getD i true) = false := by rw [listed_set, if_pos rfl]; rfl
        have e2 : (!listed.getD i true) = true := by rw [hl]; rfl
        rw [e1, e2]
        simp only [Bool.false_eq_true, if_false, if_true, List.length_cons]
        have : (l.filter fun j => !(listed.setIfInBounds i true).getD j true) = l.filter fun j => !listed.getD j true := by
          apply List.filter_congr
          intro j hj
          rw [listed_set, if_neg (by rintro rfl; exact hn.1 hj)]
        rw [this]; exact Nat.le_refl _
      · have hm' : i ∈ l := by
          rcases List.mem_cons.1 hm with e | e
          · exact absurd e hk
          · exact e
        have := ih hn.2 hm'
        rw [listed_set, if_neg hk]
        split
        · simp only [List.length_cons]; omega
        · exact this
  exact key _ List.nodup_range (List.mem_range.2 hi)
theorem wpAnyH_inv {n : Nat} {todo : List Nat} {S : World → Prop} {D : Nat → Nat} {φ : Nat → World → Value → Prop} {w0 : World} {a0 : Act} (hn : ops.size = n)
    (hD : ∀ i j, i ∈ todo → j ∈ todo → D i = D j → i = j) (hsz : ∀ i, i ∈ todo → D i < a0.tmps.size) (mono : ∀ i w w' v, φ i w v → Below w.heap.size w w' → φ i w' v)
    (hE : ∀ (i : Nat) (o : Oper), ops[i]? = some o → ∀ e ∈ o.after, e.on < i) (hops : ∀ i, i ∈ todo → ROp P ops Q n todo D φ w0 a0 i) (htn : ∀ i, i ∈ todo → i < n) (hS : ∀ w', Below w0.heap.size w0 w' → S w')
    (hQ : ∀ a w, RInv n todo D φ w0 a0 (Array.replicate n true) a w → Q .normal a w) :
    ∀ fuel listed a w, listed.size = n → toCome listed n ≤ fuel → RInv n todo D φ w0 a0 listed a w → wpAnyH P .any ops Q S fuel listed a w := by
  have none_left : ∀ listed : Array Bool, listed.size = n → Region.ready .any ops listed = [] → ∀ i, i < n → listed.getD i true = true := by
    intro listed hl hr i
    induction i using Nat.strongRecOn with
    | _ i ih =>
      intro hi
      cases hx : listed.getD i true with
      | true => rfl
      | false =>
        exfalso
        have hio : ops[i]? = some ops[i] := Array.getElem?_eq_getElem (by omega)
        have : i ∈ Region.ready .any ops listed := by
          unfold Region.ready
          rw [List.mem_filter, List.mem_range]
          refine ⟨by omega, ?_⟩
          rw [hx, hio]
          simp only [Bool.not_false, Bool.true_and, Option.map_some, Option.getD_some]
          rw [Array.all_eq_true_iff_forall_mem]
          intro e he
          have h1 := hE i _ hio e he
          have h2 := ih e.on h1 (by omega)
          have h3 : listed.getD e.on false = true := by
            rw [Array.getD_eq_getD_getElem?] at h2 ⊢
            rw [Array.getElem?_eq_getElem (by omega)] at h2 ⊢
            exact h2
          rw [h3, Bool.or_true]
        rw [hr] at this
        cases this
  have all_true : ∀ listed : Array Bool, listed.size = n → Region.ready .any ops listed = [] → ∀ a w, RInv n todo D φ w0 a0 listed a w → Q .normal a w := by
    intro listed hl hr a w h
    exact hQ a w ⟨h.below, h.defers, h.size, fun i hi hn => by rw [Array.getD_eq_getD_getElem?, Array.getElem?_replicate, if_pos hi]; rfl, h.rest, fun i hi _ => h.vals i hi (none_left listed hl hr i (htn i hi))⟩
  intro fuel
  induction fuel with
  | zero =>
    intro listed a w hl hc h
    have hr : Region.ready .any ops listed = [] := by
      rw [List.eq_nil_iff_forall_not_mem]
      intro i hi
      unfold Region.ready at hi
      rw [List.mem_filter, List.mem_range] at hi
      have hx : listed.getD i true = false := by
        have := hi.2
        simp only [Bool.and_eq_true, Bool.not_eq_true'] at this
        exact this.1
      have := toCome_set (n := n) (by omega) hx
      omega
    exact ⟨hr, all_true listed hl hr a w h⟩
  | succ fuel ih =>
    intro listed a w hl hc h
    refine ⟨fun hr => all_true listed hl hr a w h, fun i hi => ?_⟩
    have hi' := hi
    unfold Region.ready at hi'
    rw [List.mem_filter, List.mem_range] at hi'
    have hin : i < n := by omega
    have hx : listed.getD i true = false := by
      have := hi'.2
      simp only [Bool.and_eq_true, Bool.not_eq_true'] at this
      exact this.1
    have hit : i ∈ todo := by
      by_cases hm : i ∈ todo
      · exact hm
      · have := h.old i hin hm
        rw [hx] at this; cases this
    refine wpOp_mono ?_ (hops i hit listed a w h hi)
    rintro a' w' ⟨v, rfl, hv, hb⟩
    refine ⟨hS _ (h.below.trans (hb.mono h.below.size)), ih _ _ _ (by rw [Array.size_setIfInBounds, hl]) ?_ (h.step hD hsz mono hit hv hb)⟩
    have := toCome_set hin hx
    omega
/-- Each operation waits for earlier ones alone. -/
def edgesOk (ops : Array Oper) : Bool := (List.range ops.size).all fun i => match ops[i]? with
  | some o => o.after.all fun e => decide (e.on < i)
  | none => true
theorem edges_of {ops : Array Oper} (h : edgesOk ops = true) : ∀ (i : Nat) (o : Oper), ops[i]? = some o → ∀ e ∈ o.after, e.on < i := by
  intro i o ho e he
  unfold edgesOk at h
  rw [List.all_eq_true] at h
  have hi : i < ops.size := (Array.getElem?_eq_some_iff.1 ho).1
  have := h i (List.mem_range.2 hi)
  rw [ho] at this
  simp only at this
  rw [Array.all_eq_true_iff_forall_mem] at this
  have := this e he
  simpa using this
/-- The state of temporaries at the end. -/
def setAll (T : Array Value) (D : Nat → Nat) (vs : Nat → Value) : List Nat → Array Value
  | [] => T
  | n :: l => (setAll T D vs l).setIfInBounds (D n) (vs n)
theorem setAll_size (T : Array Value) (D : Nat → Nat) (vs : Nat → Value) : ∀ l, (setAll T D vs l).size = T.size
  | [] => rfl
  | n :: l => by rw [setAll, Array.size_setIfInBounds, setAll_size T D vs l]
theorem setAll_get (T : Array Value) (D : Nat → Nat) (vs : Nat → Value) : ∀ l : List Nat, (∀ i j, i ∈ l → j ∈ l → D i = D j → i = j) → (∀ i, i ∈ l → D i < T.size) →
    (∀ t, (∀ i, i ∈ l → D i ≠ t) → (setAll T D vs l).getD t undef = T.getD t undef) ∧ ∀ i, i ∈ l → (setAll T D vs l).getD (D i) undef = vs i
  | [], _, _ => ⟨fun _ _ => rfl, fun i hi => by cases hi⟩
  | n :: l, hD, hs => by
    obtain ⟨h1, h2⟩ := setAll_get T D vs l (fun i j hi hj => hD i j (List.mem_cons_of_mem _ hi) (List.mem_cons_of_mem _ hj)) (fun i hi => hs i (List.mem_cons_of_mem _ hi))
    have hsn : D n < (setAll T D vs l).size := by rw [setAll_size]; exact hs n (List.mem_cons_self ..)
    refine ⟨fun t ht => ?_, fun i hi => ?_⟩
    · rw [setAll, getD_set _ _ _ _ hsn, if_neg (ht n (List.mem_cons_self ..))]
      exact h1 t (fun i hi => ht i (List.mem_cons_of_mem _ hi))
    · rw [setAll, getD_set _ _ _ _ hsn]
      by_cases h : n = i
      · subst h; rw [if_pos rfl]
      · have hm : i ∈ l := by
          rcases List.mem_cons.1 hi with e | e
          · exact absurd e.symm h
          · exact e
        rw [if_neg (fun e => h (hD n i (List.mem_cons_self ..) hi e)), h2 i hm]
theorem arr_ext {A B : Array Value} (hs : A.size = B.size) (h : ∀ t, A.getD t undef = B.getD t undef) : A = B := by
  apply Array.ext hs
  intro i h1 h2
  have := h i
  rw [Array.getD_eq_getD_getElem?, Array.getD_eq_getD_getElem?, Array.getElem?_eq_getElem h1, Array.getElem?_eq_getElem h2] at this
  exact this
/-- Which slot an operation fills. -/
def dstOf (ops : Array Oper) (i : Nat) : Nat := ((ops[i]?).bind (·.dst)).getD 0
/-- Does an operation wait for another one? -/
def depOf (ops : Array Oper) (i j : Nat) : Bool := match ops[i]? with
  | some o => o.after.any fun e => e.on == j && Region.binds .any e
  | none => false
/-- The pending ones fill slots of their own, that there are. -/
def slotsOk (ops : Array Oper) (m : Nat) (todo : List Nat) : Bool := (todo.map (dstOf ops)).Nodup && todo.all fun i => decide (dstOf ops i < m)
theorem slots_inj {D : Nat → Nat} : ∀ {todo : List Nat}, (todo.map D).Nodup → ∀ i j, i ∈ todo → j ∈ todo → D i = D j → i = j
  | [], _, _, _, h, _, _ => by cases h
  | n :: l, hn, i, j, hi, hj, e => by
    rw [List.map_cons, List.nodup_cons] at hn
    rcases List.mem_cons.1 hi with rfl | hi'
    · rcases List.mem_cons.1 hj with rfl | hj'
      · rfl
      · exact absurd (e ▸ List.mem_map_of_mem hj') hn.1
    · rcases List.mem_cons.1 hj with rfl | hj'
      · exact absurd (e ▸ List.mem_map_of_mem hi') hn.1
      · exact slots_inj hn.2 i j hi' hj' e
/-- WHAT IS LEFT OF A REGION, whatever order its operations come in: each keeps what was there, and gives a value of which its property holds. -/
theorem region_rest {todo : List Nat} {S : World → Prop} {φ : Nat → World → Value → Prop} {w : World} {a0 : Act} {listed : Array Bool} {fuel : Nat}
    (hE : edgesOk ops = true) (hs : slotsOk ops a0.tmps.size todo = true) (hls : listed.size = ops.size) (hold : ∀ i, i < ops.size → i ∉ todo → listed.getD i true = true) (hnew : ∀ i, i ∈ todo → listed.getD i true = false) (htn : ∀ i, i ∈ todo → i < ops.size) (hfuel : toCome listed ops.size ≤ fuel)
    (mono : ∀ i w w' v, φ i w v → Below w.heap.size w w' → φ i w' v) (hS : ∀ w', Below w.heap.size w w' → S w')
    (hops : ∀ i, i ∈ todo → ∀ (a : Act) (w' : World), Below w.heap.size w w' → (∀ t, (∀ j, j ∈ todo → dstOf ops j ≠ t) → a.tmps.getD t undef = a0.tmps.getD t undef) → (∀ j, j ∈ todo → depOf ops i j = true → φ j w' (a.tmps.getD (dstOf ops j) undef)) →
      wpOp P ops Q i (fun a' w'' => ∃ v, a' = a.put (some (dstOf ops i)) v ∧ φ i w'' v ∧ Below w'.heap.size w' w'') a w')
    (hQ : ∀ vs w', Below w.heap.size w w' → (∀ i, i ∈ todo → φ i w' (vs i)) → Q .normal ⟨setAll a0.tmps (dstOf ops) vs todo, a0.defers⟩ w') : wpAnyH P .any ops Q S fuel listed a0 w := by
  unfold slotsOk at hs
  rw [Bool.and_eq_true, List.all_eq_true] at hs
  have hD := slots_inj (of_decide_eq_true hs.1)
  have hsz : ∀ i, i ∈ todo → dstOf ops i < a0.tmps.size := fun i hi => of_decide_eq_true (hs.2 i hi)
  refine wpAnyH_inv (n := ops.size) (todo := todo) (D := dstOf ops) (φ := φ) (w0 := w) (a0 := a0) rfl hD hsz mono (edges_of hE) ?_ htn hS ?_ fuel listed a0 w hls hfuel ⟨Below.refl _ _, rfl, rfl, hold, fun _ _ => rfl, fun i hi hl => ?_⟩
  · intro i hi listed' a w' h hr
    refine hops i hi a w' h.below h.rest (fun j hj hd => h.vals j hj ?_)
    unfold Region.ready at hr
    rw [List.mem_filter, List.mem_range] at hr
    have h2 := hr.2
    rw [Bool.and_eq_true] at h2
    have h3 := h2.2
    unfold depOf at hd
    cases ho : ops[i]? with
    | none => rw [ho] at hd; cases hd
    | some o =>
      rw [ho] at hd h3
      simp only [Option.map_some, Option.getD_some] at h3
      rw [Array.all_eq_true_iff_forall_mem] at h3
      simp only at hd
      obtain ⟨k, hk, hb⟩ := Array.any_eq_true.1 hd
      rw [Bool.and_eq_true] at hb
      have h4 := h3 _ (Array.getElem_mem hk)
      rw [hb.2, Bool.not_true, Bool.false_or] at h4
      have h5 : o.after[k].on = j := by simpa using hb.1
      rw [h5] at h4
      rw [Array.getD_eq_getD_getElem?] at h4 ⊢
      cases hx : listed'[j]? with
      | none => rfl
      | some b => rw [hx] at h4; exact h4
  · intro a w' h
    have hv : ∀ i, i ∈ todo → φ i w' (a.tmps.getD (dstOf ops i) undef) := fun i hi => h.vals i hi (by
      rw [Array.getD_eq_getD_getElem?, Array.getElem?_replicate]
      split <;> rfl)
    have key : a.tmps = setAll a0.tmps (dstOf ops) (fun i => a.tmps.getD (dstOf ops i) undef) todo := by
      obtain ⟨h1, h2⟩ := setAll_get a0.tmps (dstOf ops) (fun i => a.tmps.getD (dstOf ops i) undef) todo hD hsz
      apply arr_ext
      · rw [setAll_size, h.size]
      · intro t
        by_cases ht : ∃ i, i ∈ todo ∧ dstOf ops i = t
        · obtain ⟨i, hi, rfl⟩ := ht
          rw [h2 i hi]
        · have ht' : ∀ i, i ∈ todo → dstOf ops i ≠ t := fun i hi e => ht ⟨i, hi, e⟩
          rw [h1 t ht', h.rest t ht']
    have := hQ (fun i => a.tmps.getD (dstOf ops i) undef) w' h.below hv
    rw [← key, ← h.defers] at this
    exact this
  · rw [hnew i hi] at hl
    cases hl
/-- All of a list, one by one. -/
def EachOf (F : Nat → Prop) : List Nat → Prop
  | [] => True
  | i :: l => F i ∧ EachOf F l
theorem EachOf.mem {F : Nat → Prop} : ∀ {l : List Nat}, EachOf F l → ∀ i ∈ l, F i
  | [], _, _, h => by cases h
  | j :: l, h, i, hi => by
    rcases List.mem_cons.1 hi with rfl | hi
    · exact h.1
    · exact EachOf.mem h.2 i hi
/-- What the kernel looks at. -/
def restOk (ops : Array Oper) (m : Nat) (listed : Array Bool) (todo : List Nat) (fuel : Nat) : Bool :=
  edgesOk ops && slotsOk ops m todo && listed.size == ops.size && ((List.range ops.size).all fun i => todo.contains i || listed.getD i true) && (todo.all fun i => !listed.getD i true) && (todo.all fun i => decide (i < ops.size)) && decide (toCome listed ops.size ≤ fuel)
def freeOf (ops : Array Oper) (todo : List Nat) (t : Nat) : Bool := todo.all fun j => !(dstOf ops j == t)
def depsOf (ops : Array Oper) (todo : List Nat) (i j : Nat) : Bool := todo.contains j && depOf ops i j
theorem region_left {todo : List Nat} {S : World → Prop} {φ : Nat → World → Value → Prop} {w : World} {a0 : Act} {listed : Array Bool} {fuel : Nat}
    (hB : restOk ops a0.tmps.size listed todo fuel = true)
    (mono : ∀ i w w' v, φ i w v → Below w.heap.size w w' → φ i w' v) (hS : ∀ w', Below w.heap.size w w' → S w')
    (hops : EachOf (fun i => ∀ (a : Act) (w' : World), Below w.heap.size w w' → (∀ t, freeOf ops todo t = true → a.tmps.getD t undef = a0.tmps.getD t undef) → (∀ j, depsOf ops todo i j = true → φ j w' (a.tmps.getD (dstOf ops j) undef)) →
      wpOp P ops Q i (fun a' w'' => ∃ v, a' = a.put (some (dstOf ops i)) v ∧ φ i w'' v ∧ Below w'.heap.size w' w'') a w') todo)
    (hQ : ∀ vs w', Below w.heap.size w w' → EachOf (fun i => φ i w' (vs i)) todo → Q .normal ⟨setAll a0.tmps (dstOf ops) vs todo, a0.defers⟩ w') : wpAnyH P .any ops Q S fuel listed a0 w := by
  unfold restOk at hB
  simp only [Bool.and_eq_true, List.all_eq_true, beq_iff_eq, decide_eq_true_eq, Bool.or_eq_true, Bool.not_eq_true', List.mem_range] at hB
  obtain ⟨⟨⟨⟨⟨⟨b1, b2⟩, b3⟩, b4⟩, b5⟩, b6⟩, b7⟩ := hB
  have toEach : ∀ {F : Nat → Prop} (l : List Nat), (∀ i ∈ l, F i) → EachOf F l := by
    intro F l
    induction l with
    | nil => intro _; trivial
    | cons i l ih => intro h; exact ⟨h i (List.mem_cons_self ..), ih fun j hj => h j (List.mem_cons_of_mem _ hj)⟩
  refine region_rest (todo := todo) (φ := φ) b1 b2 b3 (fun i hi hn => ?_) (fun i hi => b5 i hi) (fun i hi => b6 i hi) b7 mono hS (fun i hi a w' hb hr hd => ?_) (fun vs w' hb h => hQ vs w' hb (toEach todo h))
  · rcases b4 i hi with h | h
    · exact absurd (List.contains_iff_mem.1 h) hn
    · exact h
  · refine hops.mem i hi a w' hb (fun t ht => hr t ?_) (fun j hj => ?_)
    · unfold freeOf at ht
      intro j hj e
      rw [List.all_eq_true] at ht
      have := ht j hj
      rw [e] at this
      simp at this
    · unfold depsOf at hj
      rw [Bool.and_eq_true] at hj
      exact hd j (List.contains_iff_mem.1 hj.1) hj.2
end
end Go.Proofs.YtkpddjbdmjbefaaGreatDoor
namespace Go.Proofs.YtkpddjbdmjbefaaGreatDoor
open Go.RowKit

set_option maxRecDepth 100000 in
set_option maxHeartbeats 1000000 in
theorem contF_any (b o n c : Nat) (hn : n ≤ 1000000) (vs : Nat → Value) (p : Nat → Bool) (g : FuncId) (cap : Array Value) (eg : Enters Tryz.prog g) (w : World) (hc : ∀ i, i < n → w.cell? ⟨b, o + i, none⟩ = some (vs i))
    (hp : ∀ i, i < n → ∀ W, Below w.heap.size w W → Calls Tryz.prog g (#[vs i] ++ cap) W fun e w' => e = .returned (.bool (p i)) ∧ Below W.heap.size W w') :
    Calls Tryz.prog 55 #[.slice (some ⟨b, o, none⟩) n c, .func (.func g) #[] cap] w fun e w' => e = .returned (.bool ((List.range n).any p)) ∧ Below w.heap.size w w' := by
  have HC := Lib.hid (idxF_any b o n c hn vs p g cap eg w hc hp)
  clear hc hp
  go_enter Tryz.func55, Tryz.ntmps55
  go_wp2_with fail
  refine HC.out.mono ?_
  rintro e w' ⟨r, rfl, hr, hb⟩
  have HB := Lib.hid hb
  clear hb
  rcases hr with ⟨rfl, h⟩ | ⟨k, hk, rfl, h1, h2⟩
  · have e1 : (List.range n).any p = false := by
      rw [List.any_eq_false]
      intro i hi
      rw [h i (List.mem_range.1 hi)]; simp
    have E1 := Lib.hid e1
    clear e1 h
    go_wp2_with fail
    go_ret
    exact ⟨by rw [E1.out]; rfl, HB.out⟩
  · have e1 : (List.range n).any p = true := by
      rw [List.any_eq_true]
      exact ⟨k, List.mem_range.2 hk, h1⟩
    have E1 := Lib.hid e1
    have h0 : (0 : Int) ≤ (k : Int) := by omega
    clear h1 h2 e1
    go_wp2_with fail
    go_ret
    exact ⟨by rw [E1.out]; rfl, HB.out⟩
set_option maxRecDepth 100000 in
set_option maxHeartbeats 1000000 in
theorem has1_any {D : Nd → Prop} {s : Nd → Bool} {T : Nd} {v : Value} {N : Nat} (c0 c1 c2 c3 c4 c5 : Value) (w : World) (hv : FnV D w v s) (hT : D T) (hn : NIn w TT T (.agg #[c0, c1, c2, c3, c4, c5]))
    (hN : w.heap[N]? = some (.cells #[c0, c1, c2, c3, c4, c5] 24 (0, 0))) :
    Calls Tryz.prog 56 #[v, .pointer (some ⟨N, 0, none⟩)] w fun e w' => e = .returned (.bool (s T)) ∧ Below w.heap.size w w' := by
  obtain ⟨g, cap, rfl, eg, h⟩ := hv
  have eg' : ∀ (args : Array Value) (w : World), (callFunc g args).run Tryz.prog w = .ok (.enter g args) w := eg
  have HC := Lib.hid (h w (Below.refl _ _) T _ hT hn)
  have k0 : w.cell? ⟨N, 0, none⟩ = some c0 := by unfold World.cell?; simp only [hN]; rfl
  have k1 : w.cell? ⟨N, 1, none⟩ = some c1 := by unfold World.cell?; simp only [hN]; rfl
  have k2 : w.cell? ⟨N, 2, none⟩ = some c2 := by unfold World.cell?; simp only [hN]; rfl
  have k3 : w.cell? ⟨N, 3, none⟩ = some c3 := by unfold World.cell?; simp only [hN]; rfl
  have k4 : w.cell? ⟨N, 4, none⟩ = some c4 := by unfold World.cell?; simp only [hN]; rfl
  have k5 : w.cell? ⟨N, 5, none⟩ = some c5 := by unfold World.cell?; simp only [hN]; rfl
  clear h hn hN
  go_enter Tryz.func56, Tryz.ntmps56
  go_wp2_with (go_at_fn g; refine HC.out.mono ?_; rintro e w' ⟨rfl, hb'⟩)
  go_ret
  exact ⟨rfl, hb'⟩
set_option maxRecDepth 100000 in
set_option maxHeartbeats 1000000 in
theorem has_any {D : Nd → Prop} {ss : List (Nd → Bool)} {T : Nd} {nv : Value} {A : Option Addr} {c : Nat} (w : World) (hs : FRow D w ss A) (h0 : 0 < ss.length) (h1 : ss.length ≤ 1000) (hT : D T) (hn : NIn w TT T nv) :
    Calls Tryz.prog 50 #[nv, .slice A ss.length c] w fun e w' => e = .returned (.bool (ss.any fun s => s T)) ∧ Below w.heap.size w w' := by
  obtain ⟨b, o, rfl, hc⟩ := hs h0
  obtain ⟨ia, ic, rfl, hcc, hk⟩ := hn.open
  have hch : ∀ i, ∃ v, i < ss.length → w.cell? ⟨b, o + i, none⟩ = some v ∧ FnV D w v (ss.getD i fun _ => false) := by
    intro i
    by_cases hi : i < ss.length
    · obtain ⟨v, h1, h2⟩ := hc i ss[i] (List.getElem?_eq_getElem hi)
      refine ⟨v, fun _ => ⟨h1, ?_⟩⟩
      have : ss.getD i (fun _ => false) = ss[i] := by simp [List.getD_eq_getElem?_getD, List.getElem?_eq_getElem hi]
      rw [this]; exact h2
    · exact ⟨undef, fun h => absurd h hi⟩
  obtain ⟨vs, hvs⟩ := Classical.axiomOfChoice hch
  have e1 : (ss.any fun s => s T) = (List.range ss.length).any fun i => (ss.getD i fun _ => false) T := by
    rw [Bool.eq_iff_iff, List.any_eq_true, List.any_eq_true]
    constructor
    · rintro ⟨s, hs, h⟩
      obtain ⟨i, hi, rfl⟩ := List.getElem_of_mem hs
      refine ⟨i, List.mem_range.2 hi, ?_⟩
      simpa [List.getD_eq_getElem?_getD, List.getElem?_eq_getElem hi] using h
    · rintro ⟨i, hi, h⟩
      have hi := List.mem_range.1 hi
      refine ⟨ss[i], List.getElem_mem hi, ?_⟩
      simpa [List.getD_eq_getElem?_getD, List.getElem?_eq_getElem hi] using h
  have HC := Lib.hid (fun (w1 : World) (hb : Below w.heap.size w w1) (hN : w1.heap[w.heap.size]? = some (.cells #[.int .i64 T.kind, .int .i64 T.fro, .int .i64 T.till, .int .i64 T.at', .string T.name, .slice ia T.kids.length ic] 24 (0, 0))) =>
    contF_any b o ss.length c (by omega) vs (fun i => (ss.getD i fun _ => false) T) 56 #[.pointer (some ⟨w.heap.size, 0, none⟩)] (enters_of Tryz.func56 (by kernel_rfl) rfl) w1
      (fun i hi => ncell_blk (fun hx => hb.block b hx) (hvs i hi).1)
      (fun i hi W hW => has1_any _ _ _ _ _ _ W ((hvs i hi).2.below (hb.trans (hW.mono hb.size))) hT ((NIn.shut hcc hk).below (hb.trans (hW.mono hb.size))) (by rw [hW.block _ (ncell_lt (i := 0) (v := .int .i64 T.kind) (by unfold World.cell?; simp only [hN]; rfl))]; exact hN)))
  rw [e1]
  clear e1 hvs hch hc hk hcc hn h0
  generalize ss.length = n at *
  have hb0 := Lib.hid (alloc_below w (.cells #[.int .i64 T.kind, .int .i64 T.fro, .int .i64 T.till, .int .i64 T.at', .string T.name, .slice ia T.kids.length ic] 24))
  have HT := Lib.hid (alloc_top w #[.int .i64 T.kind, .int .i64 T.fro, .int .i64 T.till, .int .i64 T.at', .string T.name, .slice ia T.kids.length ic] 24)
  have HX := Lib.hid (HC.out _ hb0.out HT.out)
  clear HC
  go_enter Tryz.func50, Tryz.ntmps50
  go_wp2_with fail
  refine HX.out.mono ?_
  rintro e w' ⟨rfl, hb⟩
  have HB := Lib.hid (hb0.out.trans (hb.mono hb0.out.size))
  clear hb
  go_wp2_with fail
  go_ret
  exact ⟨rfl, HB.out⟩
theorem drewN_belowA {w w' : World} {B : Nat} (h : Below B w w') (n : Nat) : Below B w (w'.drewN n) := h.trans ⟨rfl, rfl, rfl, Nat.le_refl _, fun _ _ => rfl⟩
/-- A cell and a tree's six. -/
def Seven (W : World) (p : Addr) (v : Value) (b o : Nat) (c0 c1 c2 c3 c4 c5 : Value) : Prop :=
  W.cell? p = some v ∧ W.cell? ⟨b, o, none⟩ = some c0 ∧ W.cell? ⟨b, o + 1, none⟩ = some c1 ∧ W.cell? ⟨b, o + 2, none⟩ = some c2 ∧ W.cell? ⟨b, o + 3, none⟩ = some c3 ∧ W.cell? ⟨b, o + 4, none⟩ = some c4 ∧ W.cell? ⟨b, o + 5, none⟩ = some c5
theorem cell_kept {W W' : World} {p : Addr} {v : Value} (h : W.cell? p = some v) (hp : p.spot = none) (k : Below W.heap.size W W') : W'.cell? p = some v := by
  obtain ⟨b, i, _⟩ := p
  obtain rfl : _ = none := hp
  exact ncell_blk (fun hx => k.block b hx) h
theorem Seven.keep {W W' : World} {B b o : Nat} {v c0 c1 c2 c3 c4 c5 : Value} (h : Seven W ⟨B, 0, none⟩ v b o c0 c1 c2 c3 c4 c5) (k : Below W.heap.size W W') : Seven W' ⟨B, 0, none⟩ v b o c0 c1 c2 c3 c4 c5 :=
  ⟨cell_kept h.1 rfl k, cell_kept h.2.1 rfl k, cell_kept h.2.2.1 rfl k, cell_kept h.2.2.2.1 rfl k, cell_kept h.2.2.2.2.1 rfl k, cell_kept h.2.2.2.2.2.1 rfl k, cell_kept h.2.2.2.2.2.2 rfl k⟩
/-- A block's cells. -/
theorem six_cells {W : World} {N : Nat} {c0 c1 c2 c3 c4 c5 : Value} (hN : W.heap[N]? = some (.cells #[c0, c1, c2, c3, c4, c5] 24 (0, 0))) :
    W.cell? ⟨N, 0, none⟩ = some c0 ∧ W.cell? ⟨N, 1, none⟩ = some c1 ∧ W.cell? ⟨N, 2, none⟩ = some c2 ∧ W.cell? ⟨N, 3, none⟩ = some c3 ∧ W.cell? ⟨N, 4, none⟩ = some c4 ∧ W.cell? ⟨N, 5, none⟩ = some c5 := by
  refine ⟨?_, ?_, ?_, ?_, ?_, ?_⟩ <;> (unfold World.cell?; simp only [hN]; rfl)
theorem SIn.tail {W : World} {P : Nat → Prop} {n : Nd} {l : List Nd} {b o : Nat} (h : NLn W P b o (n :: l)) (hP : P b) : SIn W P l (some ⟨b, o + 6, none⟩) := by
  intro _
  rw [NLn] at h
  exact ⟨b, o + 6, rfl, hP, h.2⟩
set_option maxRecDepth 100000 in
set_option maxHeartbeats 1000000 in
theorem one1_any {D : Nd → Prop} {ss : List (Nd → Bool)} {A As : Option Addr} {B c cs : Nat} (l : List Nd) (w : World) (hB : w.heap[B]? = some (.cells #[.slice As ss.length cs] 56 (0, 0))) (hs : FRow D w ss As) (h0 : 0 < ss.length) (h1 : ss.length ≤ 1000)
    (hD : ∀ t ∈ l, D t) (hl : l.length ≤ 1000000) (hc : l.length ≤ c) (hn : SIn w TT l A) :
    Calls Tryz.prog 49 #[.slice A l.length c, .pointer (some ⟨B, 0, none⟩)] w fun e w' => PtEnd (oneP ss l) e w' ∧ Below w.heap.size w w' := by
  have kB : w.cell? ⟨B, 0, none⟩ = some (.slice As ss.length cs) := by unfold World.cell?; simp only [hB]; rfl
  cases l with
  | nil =>
    have HP : Hid (∀ w', PtEnd (oneP ss []) (.returned (.tuple #[.slice none 0 0, .bool false])) w') := Lib.hid (fun w' => ⟨none, 0, 0, rfl⟩)
    clear hB hs hD hl hc hn
    rw [List.length_nil]
    go_enter Tryz.func49, Tryz.ntmps49
    go_wp2_with fail
    go_quiet (fail)
    go_wp2_with fail
    go_ret2
    exact ⟨HP.out _, drewN_belowA (Below.refl _ _) _⟩
  | cons t l =>
    obtain ⟨b, o, rfl, -, hrow⟩ := hn (by simp)
    obtain ⟨ia, ic, d0, d1, d2, d3, d4, d5, hcc, hk⟩ := hrow.row (i := 0) (n := t) rfl
    simp only [Nat.zero_mul, Nat.add_zero] at d0 d1 d2 d3 d4 d5
    have HC := Lib.hid (fun (W : World) (hb : Below w.heap.size w W) => has_any (A := As) (c := cs) (T := t) (nv := .agg #[.int .i64 t.kind, .int .i64 t.fro, .int .i64 t.till, .int .i64 t.at', .string t.name, .slice ia t.kids.length ic]) W (hs.below hb) h0 h1 (hD t (by simp)) ((NIn.shut hcc hk).below hb))
    have HT := Lib.hid (fun (W : World) (hb : Below w.heap.size w W) => (SIn.tail hrow trivial).below (W' := W) hb)
    have hll : ((l.length + 1 : Nat) : Int) ≠ 0 := by omega
    have hc' : l.length + 1 ≤ c := hc
    have hlen : (t :: l).length = l.length + 1 := rfl
    have HP : Hid (oneP ss (t :: l) = if ss.any (fun s => s t) then some l else none) := Lib.hid rfl
    rw [hlen]
    clear hs hn hrow hk hcc hlen hD hB hc
    have HNE : Hid (l.length = 0 → l = []) := Lib.hid (fun h2 => List.length_eq_zero_iff.1 h2)
    generalize hnl : l.length = n at *
    have HNL := Lib.hid hnl
    generalize ss.length = m at *
    have HS0 : Hid (Seven w ⟨B, 0, none⟩ (.slice As m cs) b o (.int .i64 t.kind) (.int .i64 t.fro) (.int .i64 t.till) (.int .i64 t.at') (.string t.name) (.slice ia t.kids.length ic)) := Lib.hid ⟨kB, d0, d1, d2, d3, d4, d5⟩
    clear kB d0 d1 d2 d3 d4 d5 hnl
    cases hq : ss.any fun s => s t with
    | false =>
      rw [hq] at HP HC
      clear hq
      go_enter Tryz.func49, Tryz.ntmps49
      go_wp2_with fail
      go_region_held3 (fun w' => w'.cell? ⟨B, 0, none⟩ = some (.slice As m cs) ∧ w'.cell? ⟨b, o, none⟩ = some (.int .i64 t.kind) ∧ w'.cell? ⟨b, o + 1, none⟩ = some (.int .i64 t.fro) ∧ w'.cell? ⟨b, o + 2, none⟩ = some (.int .i64 t.till) ∧ w'.cell? ⟨b, o + 3, none⟩ = some (.int .i64 t.at') ∧ w'.cell? ⟨b, o + 4, none⟩ = some (.string t.name) ∧ w'.cell? ⟨b, o + 5, none⟩ = some (.slice ia t.kids.length ic)) (first | exact HS0.out | exact Seven.keep HS0.out (below_drew kq)) (first | (go_at_call 50; refine (HC.out _ ((Below.refl _ _).drew)).mono ?_; rintro e w' ⟨rfl, kq⟩))
      have HB := Lib.hid (below_drew kq)
      clear kq HS0
      go_wp2_with fail
      go_ret2
      refine ⟨?_, HB.out⟩
      rw [HP.out]
      exact ⟨none, 0, 0, rfl⟩
    | true =>
      rw [hq] at HP HC
      clear hq
      go_enter Tryz.func49, Tryz.ntmps49
      go_wp2_with fail
      go_region_held3 (fun w' => w'.cell? ⟨B, 0, none⟩ = some (.slice As m cs) ∧ w'.cell? ⟨b, o, none⟩ = some (.int .i64 t.kind) ∧ w'.cell? ⟨b, o + 1, none⟩ = some (.int .i64 t.fro) ∧ w'.cell? ⟨b, o + 2, none⟩ = some (.int .i64 t.till) ∧ w'.cell? ⟨b, o + 3, none⟩ = some (.int .i64 t.at') ∧ w'.cell? ⟨b, o + 4, none⟩ = some (.string t.name) ∧ w'.cell? ⟨b, o + 5, none⟩ = some (.slice ia t.kids.length ic)) (first | exact HS0.out | exact Seven.keep HS0.out (below_drew kq)) (first | (go_at_call 50; refine (HC.out _ ((Below.refl _ _).drew)).mono ?_; rintro e w' ⟨rfl, kq⟩))
      have HB := Lib.hid (below_drew kq)
      clear kq HS0
      go_wp2_with fail
      · go_ret2
        refine ⟨?_, HB.out⟩
        rw [HP.out]
        have h0 : n = 0 := by omega
        have e := HNE.out h0
        refine ⟨some ⟨b, o, none⟩, 0, ?_, ?_, fun hp => ?_⟩
        · rw [HNL.out]; rfl
        · rw [HNL.out, h0]
          exact Nat.zero_le _
        · rw [e] at hp; cases hp
      · go_ret2
        refine ⟨?_, HB.out⟩
        rw [HP.out]
        refine ⟨some ⟨b, o + 6, none⟩, c - 1, ?_, ?_, HT.out _ HB.out⟩
        · rw [HNL.out]; rfl
        · rw [HNL.out]; omega
/-- many's walk, at a row that has some. -/
theorem wpMany (s : Nd → Bool) (l : List Nd) : manyP s l = some (l.dropWhile s) := rfl
set_option maxRecDepth 100000 in
set_option maxHeartbeats 1000000 in
theorem many1_any {D : Nd → Prop} {s : Nd → Bool} {A : Option Addr} {B c : Nat} {v : Value} (l : List Nd) (w : World) (hB : w.heap[B]? = some (.cells #[v] 53 (0, 0))) (hs : FnV D w v s)
    (hD : ∀ t ∈ l, D t) (hl : l.length ≤ 1000000) (hc : l.length ≤ c) (hn : SIn w TT l A) :
    Calls Tryz.prog 37 #[.slice A l.length c, .pointer (some ⟨B, 0, none⟩)] w fun e w' => PtEnd (manyP s l) e w' ∧ Below w.heap.size w w' := by
  obtain ⟨g, cap, rfl, eg, h⟩ := hs
  have eg' : ∀ (args : Array Value) (w : World), (callFunc g args).run Tryz.prog w = .ok (.enter g args) w := eg
  have kB : Hid (w.cell? ⟨B, 0, none⟩ = some (.func (.func g) #[] cap)) := Lib.hid (by unfold World.cell?; simp only [hB]; rfl)
  have HC := Lib.hid h
  have HD := Lib.hid hD
  have HN := Lib.hid hn
  clear h hD hn hB
  go_enter Tryz.func37, Tryz.ntmps37
  go_wp2_with fail
  go_loopg [0] l.length (fun gg s0 wr => ∃ k A' c', k ≤ l.length ∧ l.length - k ≤ gg ∧ s0 = .slice A' (l.length - k) c' ∧ l.length - k ≤ c' ∧ Aside (Below w.heap.size w wr) ∧ Aside (SIn wr TT (l.drop k) A') ∧ Aside (l.dropWhile s = (l.drop k).dropWhile s))
  case atStart => exact ⟨0, A, c, Nat.zero_le _, by omega, rfl, by omega, Below.refl _ w, HN.out, rfl⟩
  case round =>
    obtain ⟨k, A', c', hk, hg, rfl, hcc, BW, SI, HE⟩ := hrel
    cases hd : l.drop k with
    | nil =>
      have e0 : l.length - k = 0 := by
        have := congrArg List.length hd
        rw [List.length_drop] at this
        exact this
      rw [e0]
      have HE2 : Hid (manyP s l = some []) := Lib.hid (by unfold manyP; rw [HE.out, hd]; rfl)
      clear hd e0 HE SI
      go_wp2_with fail
      go_quiet (fail)
      go_wp2_with fail
      go_ret2
      refine ⟨?_, drewN_belowA BW.out _⟩
      rw [HE2.out]
      exact ⟨A', c', rfl, Nat.zero_le _, fun h => absurd h (by simp)⟩
    | cons t r =>
      have hlen : l.length - k = r.length + 1 := by
        have := congrArg List.length hd
        rw [List.length_drop, List.length_cons] at this
        exact this
      have hmem : t ∈ l := List.mem_of_mem_drop (hd ▸ List.mem_cons_self ..)
      rw [hd] at SI HE
      obtain ⟨b, o, rfl, -, hrow⟩ := SI.out (by simp)
      obtain ⟨ia, ic, d0, d1, d2, d3, d4, d5, hic, hkk⟩ := hrow.row (i := 0) (n := t) rfl
      simp only [Nat.zero_mul, Nat.add_zero] at d0 d1 d2 d3 d4 d5
      have HX := Lib.hid (fun (W : World) (hb : Below wr.heap.size wr W) => HC.out W (BW.out.trans (hb.mono BW.out.size)) t _ (HD.out t hmem) ((NIn.shut hic hkk).below hb))
      have HT := Lib.hid (fun (W : World) (hb : Below wr.heap.size wr W) => (SIn.tail hrow trivial).below (W' := W) hb)
      have HRW := Lib.hid (fun (W : World) (hb : Below wr.heap.size wr W) => NLn.keep (W' := W) (Q := TT) (fun k _ hk => hb.block k hk) (fun _ hP _ => hP) b trivial _ _ hrow)
      have HR : Hid (r = l.drop (k + 1)) := Lib.hid (by rw [← List.drop_drop, hd]; rfl)
      have hcc2 : r.length + 1 ≤ c' := by omega
      rw [hlen]
      have HNE : Hid (r.length = 0 → r = []) := Lib.hid (fun h2 => List.length_eq_zero_iff.1 h2)
      have HKN := Lib.hid (And.intro hlen (And.intro hk hg))
      clear hd hrow hkk hic SI hmem hlen hcc
      generalize hnl : r.length = n at *
      have HNL := Lib.hid hnl
      have kB' := ncell_blk (fun hx => BW.out.block B hx) kB.out
      have HS0 : Hid (Seven wr ⟨B, 0, none⟩ (.func (.func g) #[] cap) b o (.int .i64 t.kind) (.int .i64 t.fro) (.int .i64 t.till) (.int .i64 t.at') (.string t.name) (.slice ia t.kids.length ic)) := Lib.hid ⟨kB', d0, d1, d2, d3, d4, d5⟩
      clear kB' d0 d1 d2 d3 d4 d5 hnl hk hg
      have hl2 : n ≤ 1000000 := by have := HKN.out; omega
      cases hq : s t with
      | false =>
        rw [hq] at HX
        have HE2 : Hid (manyP s l = some (t :: r)) := Lib.hid (by unfold manyP; rw [HE.out, List.dropWhile_cons, if_neg (by rw [hq]; simp)])
        clear hq HE
        go_wp2_with fail
        go_region_held3 (fun w' => w'.cell? ⟨B, 0, none⟩ = some (.func (.func g) #[] cap) ∧ w'.cell? ⟨b, o, none⟩ = some (.int .i64 t.kind) ∧ w'.cell? ⟨b, o + 1, none⟩ = some (.int .i64 t.fro) ∧ w'.cell? ⟨b, o + 2, none⟩ = some (.int .i64 t.till) ∧ w'.cell? ⟨b, o + 3, none⟩ = some (.int .i64 t.at') ∧ w'.cell? ⟨b, o + 4, none⟩ = some (.string t.name) ∧ w'.cell? ⟨b, o + 5, none⟩ = some (.slice ia t.kids.length ic)) (first | exact HS0.out | exact Seven.keep HS0.out (below_drew kq)) (first | (go_at_fn g; refine (HX.out _ ((Below.refl _ _).drew)).mono ?_; rintro e w' ⟨rfl, kq⟩))
        have HB := Lib.hid (BW.out.trans ((below_drew kq).mono BW.out.size))
        have HBr := Lib.hid (below_drew kq)
        clear kq HS0
        go_wp2_with fail
        go_ret2
        refine ⟨?_, HB.out⟩
        rw [HE2.out]
        exact ⟨some ⟨b, o, none⟩, c', by rw [List.length_cons, HNL.out]; rfl, by rw [List.length_cons, HNL.out]; exact hcc2, fun _ => ⟨b, o, rfl, trivial, (HRW.out _ HBr.out)⟩⟩
      | true =>
        rw [hq] at HX
        have HE2 : Hid (l.dropWhile s = r.dropWhile s) := Lib.hid (by rw [HE.out, List.dropWhile_cons, if_pos hq])
        clear hq HE
        go_wp2_with fail
        go_region_held3 (fun w' => w'.cell? ⟨B, 0, none⟩ = some (.func (.func g) #[] cap) ∧ w'.cell? ⟨b, o, none⟩ = some (.int .i64 t.kind) ∧ w'.cell? ⟨b, o + 1, none⟩ = some (.int .i64 t.fro) ∧ w'.cell? ⟨b, o + 2, none⟩ = some (.int .i64 t.till) ∧ w'.cell? ⟨b, o + 3, none⟩ = some (.int .i64 t.at') ∧ w'.cell? ⟨b, o + 4, none⟩ = some (.string t.name) ∧ w'.cell? ⟨b, o + 5, none⟩ = some (.slice ia t.kids.length ic)) (first | exact HS0.out | exact Seven.keep HS0.out (below_drew kq)) (first | (go_at_fn g; refine (HX.out _ ((Below.refl _ _).drew)).mono ?_; rintro e w' ⟨rfl, kq⟩))
        have HB := Lib.hid (BW.out.trans ((below_drew kq).mono BW.out.size))
        have HBr := Lib.hid (below_drew kq)
        clear kq HS0
        go_wp2_with fail
        · have h1 := HKN.out.1
          have h2 := HKN.out.2.1
          have h3 := HKN.out.2.2
          have e1 : l.length - (k + 1) = n := by omega
          have h0 : n = 0 := by omega
          go_roundg (l.length - (k + 1))
          case measure => omega
          case rel =>
            refine ⟨k + 1, some ⟨b, o, none⟩, 0, by omega, Nat.le_refl _, by rw [e1], by omega, HB.out, (show Aside _ from ?_), (show Aside _ from by show l.dropWhile s = _; rw [HE2.out, HR.out])⟩
            show SIn _ TT (l.drop (k + 1)) _
            rw [← HR.out, HNE.out h0]
            intro h; cases h
        · have h1 := HKN.out.1
          have h2 := HKN.out.2.1
          have h3 := HKN.out.2.2
          have e1 : l.length - (k + 1) = n := by omega
          go_roundg (l.length - (k + 1))
          case measure => omega
          case rel =>
            refine ⟨k + 1, some ⟨b, o + 6, none⟩, c' - 1, by omega, Nat.le_refl _, by rw [e1], by omega, HB.out, (show Aside _ from ?_), (show Aside _ from by show l.dropWhile s = _; rw [HE2.out, HR.out])⟩
            show SIn _ TT (l.drop (k + 1)) _
            rw [← HR.out]
            exact HT.out _ HBr.out
end Go.Proofs.YtkpddjbdmjbefaaGreatDoor
namespace Go.Proofs.YtkpddjbdmjbefaaGreatDoor
open Go.RowKit

theorem goP_append : ∀ (a b : List (List Nd → Option (List Nd))) (l : List Nd), goP (a ++ b) l = (goP a l).bind (goP b)
  | [], b, l => rfl
  | p :: a, b, l => by
    rw [List.cons_append, goP, goP]
    cases p l with
    | none => rfl
    | some r => exact goP_append a b r
theorem goP_take {ps : List (List Nd → Option (List Nd))} {l r : List Nd} {k : Nat} {p : List Nd → Option (List Nd)} (hp : ps[k]? = some p) (h : goP (ps.take k) l = some r) : goP (ps.take (k + 1)) l = p r := by
  rw [List.take_add_one, hp, goP_append, h]
  show goP [p] r = p r
  rw [goP]
  cases p r <;> rfl
theorem goP_none {ps : List (List Nd → Option (List Nd))} {l : List Nd} {k : Nat} (h : goP (ps.take k) l = none) : goP ps l = none := by
  conv => lhs; rw [← List.take_append_drop k ps]
  rw [goP_append, h]; rfl
set_option maxRecDepth 100000 in
set_option maxHeartbeats 1000000 in
theorem made_any {D : Nd → Prop} {O : ByteArray → Prop} {μ : ByteArray → Bool} {ps : List (List Nd → Option (List Nd))} {n : Nd} {nv mv : Value} {Ap : Option Addr} {cp : Nat} (w : World) (hm : NmV O w mv μ) (hp : PRow D w ps Ap)
    (hO : O n.name) (hs : n.name.size ≤ 1000000) (hD : ∀ t ∈ n.kids, D t) (hl : n.kids.length ≤ 1000000) (hpl : ps.length ≤ 1000) (hn : NIn w TT n nv) :
    Calls Tryz.prog 27 #[nv, mv, .slice Ap ps.length cp] w fun e w' => e = .returned (.bool (madeP n μ ps)) ∧ Below w.heap.size w w' := by
  obtain ⟨ia, ic, rfl, hcc, hk⟩ := hn.open
  obtain ⟨g, cap, rfl, eg, hm⟩ := hm
  have eg' : ∀ (args : Array Value) (w : World), (callFunc g args).run Tryz.prog w = .ok (.enter g args) w := eg
  have hb0 := Lib.hid (alloc_below w (.cells #[.int .i64 n.kind, .int .i64 n.fro, .int .i64 n.till, .int .i64 n.at', .string n.name, .slice ia n.kids.length ic] 24))
  have HT := Lib.hid (alloc_top w #[.int .i64 n.kind, .int .i64 n.fro, .int .i64 n.till, .int .i64 n.at', .string n.name, .slice ia n.kids.length ic] 24)
  have HC := Lib.hid (hm _ hb0.out n.name hs hO)
  have HPR := Lib.hid hp
  have HK := Lib.hid hk
  have HDD := Lib.hid hD
  have hml : Hid (madeP n μ ps = (μ n.name && doneP (goP ps n.kids))) := Lib.hid rfl
  clear hm hp hD hk hn
  cases hq : μ n.name with
  | false =>
    rw [hq] at HC hml
    rw [hml.out]
    clear HT hq
    go_enter Tryz.func27, Tryz.ntmps27
    go_wp2_with (go_at_fn g; refine HC.out.mono ?_; rintro e w' ⟨rfl, hb'⟩)
    go_ret
    exact ⟨rfl, hb0.out.trans (hb'.mono hb0.out.size)⟩
  | true =>
    rw [hq] at HC hml
    rw [hml.out]
    clear hq hml
    have HN0 := Lib.hid HC.out
    clear HC
    go_enter Tryz.func27, Tryz.ntmps27
    go_wp2_with (go_at_fn g; refine HN0.out.mono ?_; rintro e w1 ⟨rfl, hb1⟩; have k1 := six_cells ((hb1.block w.heap.size (ncell_lt (six_cells HT.out).1)).trans HT.out); obtain ⟨k0, k1, k2, k3, k4, k5⟩ := k1)
    go_loopg [7, 8, 10, 20] ps.length (fun gg s7 s8 s10 s20 wr => ∃ k A' c' r, k ≤ ps.length ∧ ps.length - k ≤ gg ∧ s20 = .int .i64 (k : Int) ∧ s7 = .slice A' (List.length r) c' ∧ List.length r ≤ c' ∧ Aside (Below w.heap.size w wr) ∧ Aside (SIn wr TT r A') ∧ Aside (goP (ps.take k) n.kids = some r) ∧ Aside (r <:+ n.kids))
    case atStart =>
      have HB := hb0.out.trans (hb1.mono hb0.out.size)
      exact ⟨0, ia, ic, n.kids, Nat.zero_le _, by omega, rfl, rfl, hcc, HB, HK.out.below HB, rfl, List.suffix_rfl⟩
    case round =>
      obtain ⟨k, A', c', r, hk, hg, rfl, rfl, hrc, BW, SI, HG, HSX⟩ := hrel
      by_cases hlt : k < ps.length
      · obtain ⟨b, o, rfl, hrow⟩ := HPR.out (by omega)
        obtain ⟨v, hcell, hsuf, g2, cap2, rfl, eg2, hcall⟩ := hrow k ps[k] (List.getElem?_eq_getElem hlt)
        have eg2' : ∀ (args : Array Value) (w : World), (callFunc g2 args).run Tryz.prog w = .ok (.enter g2 args) w := eg2
        have l2 := ncell_blk (fun hx => BW.out.block b hx) hcell
        have hrl : r.length ≤ 1000000 := by have := HSX.out.length_le; omega
        have HX := Lib.hid (hcall wr BW.out r A' c' (fun t ht => HDD.out t (HSX.out.subset ht)) hrl hrc SI.out)
        have HGT := Lib.hid (goP_take (List.getElem?_eq_getElem hlt) HG.out)
        have HSS := Lib.hid (hsuf r)
        have HKL := Lib.hid (And.intro hlt hg)
        have hlz : (k : Int) < (ps.length : Int) := by omega
        generalize ps[k] = p at *
        generalize hrn : r.length = rn at *
        clear hcall hsuf hcell hrow HG SI hg hrn hlt
        cases hq : p r with
        | none =>
          rw [hq] at HX HGT
          have HF : Hid (doneP (goP ps n.kids) = false) := Lib.hid (by rw [goP_none HGT.out]; rfl)
          clear hq
          go_wp2_with (go_at_fn g2; refine HX.out.mono ?_; rintro e w' ⟨⟨A2, n2, c2, rfl⟩, hb'⟩)
          go_ret
          refine ⟨?_, BW.out.trans (hb'.mono BW.out.size)⟩
          rw [HF.out]; rfl
        | some r2 =>
          rw [hq] at HX HGT
          have HS2 := Lib.hid ((HSS.out r2 hq).trans HSX.out)
          clear hq HSS
          go_wp2_with (go_at_fn g2; refine HX.out.mono ?_; rintro e w' ⟨⟨A2, c2, rfl, hc2, hs2⟩, hb'⟩)
          go_roundg (ps.length - (k + 1))
          case measure => have := HKL.out; omega
          case rel =>
            have h1 := HKL.out
            exact ⟨k + 1, A2, c2, r2, by omega, Nat.le_refl _, by go_num, rfl, hc2, BW.out.trans (hb'.mono BW.out.size), hs2, HGT.out, HS2.out⟩
      · have hke : k = ps.length := by omega
        have HF : Hid (doneP (goP ps n.kids) = decide (r.length = 0)) := Lib.hid (by
          have := HG.out
          rw [hke, List.take_length] at this
          rw [this]
          cases r <;> rfl)
        have hlz : ¬ (k : Int) < (ps.length : Int) := by omega
        clear hk hke hlt HG SI HSX hg
        generalize r.length = rn at *
        by_cases h0 : rn = 0
        · subst h0
          go_wp2_with fail
          go_ret
          refine ⟨?_, BW.out⟩
          rw [HF.out]; rfl
        · have h0' : ((rn : Int) == 0) = false := by simp only [beq_eq_false_iff_ne, ne_eq]; omega
          go_wp2_with fail
          go_ret
          refine ⟨?_, BW.out⟩
          rw [HF.out, decide_eq_false h0]; rfl
theorem funcV {f : FuncId} (h : Enters Tryz.prog f) : Enters Tryz.prog f := h
set_option maxRecDepth 100000 in
theorem one_any {D : Nd → Prop} {ss : List (Nd → Bool)} {A : Option Addr} {c : Nat} (w : World) (hs : FRow D w ss A) (h0 : 0 < ss.length) (h1 : ss.length ≤ 1000) :
    Calls Tryz.prog 41 #[.slice A ss.length c] w fun e w' => ∃ v, e = .returned v ∧ PtV D w' v (oneP ss) ∧ Below w.heap.size w w' := by
  have HB := Lib.hid (alloc_below w (.cells #[.slice A ss.length c] 56))
  have HT := Lib.hid (alloc_top w #[.slice A ss.length c] 56)
  have hmf : ∀ (fn : Fn) (first cap : Array Value) (w : World), (Instr.makeFunc fn first cap).run Tryz.prog w = .ok (.func fn first cap) w := fun _ _ _ _ => rfl
  go_enter Tryz.func41, Tryz.ntmps41
  go_wp2_with fail
  go_ret
  refine ⟨_, rfl, ⟨oneP_suffix ss, 49, #[.pointer (some ⟨w.heap.size, 0, none⟩)], rfl, enters_of Tryz.func49 (by kernel_rfl) rfl, ?_⟩, HB.out⟩
  intro W hW l A' c' hD hl hc hn
  exact one1_any l W (by rw [hW.block _ (Array.getElem?_eq_some_iff.1 HT.out).1]; exact HT.out) (hs.below (HB.out.trans (hW.mono HB.out.size))) h0 h1 hD hl hc hn
set_option maxRecDepth 100000 in
theorem many_any {D : Nd → Prop} {s : Nd → Bool} {v : Value} (w : World) (hs : FnV D w v s) :
    Calls Tryz.prog 29 #[v] w fun e w' => ∃ v, e = .returned v ∧ PtV D w' v (manyP s) ∧ Below w.heap.size w w' := by
  obtain ⟨g, cap, rfl, hrest⟩ := hs
  have hs : FnV D w (.func (.func g) #[] cap) s := ⟨g, cap, rfl, hrest⟩
  clear hrest
  have HB := Lib.hid (alloc_below w (.cells #[.func (.func g) #[] cap] 53))
  have HT := Lib.hid (alloc_top w #[.func (.func g) #[] cap] 53)
  have hmf : ∀ (fn : Fn) (first cap : Array Value) (w : World), (Instr.makeFunc fn first cap).run Tryz.prog w = .ok (.func fn first cap) w := fun _ _ _ _ => rfl
  have HS := Lib.hid hs
  clear hs
  go_enter Tryz.func29, Tryz.ntmps29
  go_wp2_with fail
  go_ret
  refine ⟨_, rfl, ⟨manyP_suffix s, 37, #[.pointer (some ⟨w.heap.size, 0, none⟩)], rfl, enters_of Tryz.func37 (by kernel_rfl) rfl, ?_⟩, HB.out⟩
  intro W hW l A' c' hD hl hc hn
  exact many1_any l W (by rw [hW.block _ (Array.getElem?_eq_some_iff.1 HT.out).1]; exact HT.out) (HS.out.below (HB.out.trans (hW.mono HB.out.size))) hD hl hc hn
/-- isEmpty. -/
theorem isEmpty_any (s : ByteArray) (w : World) : Calls Tryz.prog 51 #[.string s] w fun e w' => e = .returned (.bool (emB s)) ∧ Below w.heap.size w w' := by
  by_cases h : s.data.toList = []
  · have e1 : s.toList.isEmpty = true := by rw [toL, h]; rfl
    have HE : Hid (emB s = true) := Lib.hid (by unfold emB; simp [h])
    clear h
    go_enter Tryz.func51, Tryz.ntmps51
    go_wp2_with fail
    go_ret
    exact ⟨by rw [HE.out]; rfl, Below.refl _ _⟩
  · have e1 : s.toList.isEmpty = false := by rw [toL]; simpa using h
    have HE : Hid (emB s = false) := Lib.hid (by unfold emB; simpa using h)
    clear h
    go_enter Tryz.func51, Tryz.ntmps51
    go_wp2_with fail
    go_ret
    exact ⟨by rw [HE.out]; rfl, Below.refl _ _⟩
theorem list_inj {a b : ByteArray} (h : a.toList = b.toList) : a = b := by
  rw [toL, toL] at h
  apply ByteArray.ext
  exact Array.toList_inj.1 h
/-- Texts in memory, one cell each. -/
def WRow (W : World) (ws : List ByteArray) (A : Option Addr) : Prop := 0 < ws.length → ∃ b o, A = some ⟨b, o, none⟩ ∧ ∀ i s, ws[i]? = some s → W.cell? ⟨b, o + i, none⟩ = some (.string s)
theorem WRow.below {W W' : World} {ws : List ByteArray} {A : Option Addr} (h : WRow W ws A) (hb : Below W.heap.size W W') : WRow W' ws A := by
  intro hl
  obtain ⟨b, o, hA, h⟩ := h hl
  exact ⟨b, o, hA, fun i s hi => ncell_blk (fun hx => hb.block b hx) (h i s hi)⟩
set_option maxRecDepth 100000 in
set_option maxHeartbeats 1000000 in
theorem idxS_any (ws : List ByteArray) (A : Option Addr) (c : Nat) (hn : ws.length ≤ 1000000) (s : ByteArray) (w : World) (hw : WRow w ws A) :
    Calls Tryz.prog 71 #[.slice A ws.length c, .string s] w fun e w' => ∃ r, e = .returned (.int .i64 r) ∧ IdxOf (fun i => decide (ws[i]? = some s)) ws.length r ∧ Below w.heap.size w w' := by
  have HW := Lib.hid hw
  clear hw
  go_enter Tryz.func71, Tryz.ntmps71
  go_wp2_with fail
  go_loopg [5, 8] ws.length (fun gg _ s8 wr => ∃ kk : Nat, kk ≤ ws.length ∧ ws.length - kk ≤ gg ∧ s8 = .int .i64 kk ∧ Aside (w = wr) ∧ Aside (∀ j, j < kk → decide (ws[j]? = some s) = false))
  case atStart => exact ⟨0, Nat.zero_le _, by omega, rfl, rfl, fun j hj => absurd hj (Nat.not_lt_zero _)⟩
  case round =>
    obtain ⟨kk, hkk, hg, rfl, BW, A'⟩ := hrel
    have BW' := BW.out
    subst BW'
    by_cases hlt : kk < ws.length
    · have hltz : (kk : Int) < (ws.length : Int) := by omega
      obtain ⟨b, o, rfl, hrow⟩ := HW.out (by omega)
      have l2 := hrow kk ws[kk] (List.getElem?_eq_getElem hlt)
      have HE : Hid (ws[kk]? = some ws[kk]) := Lib.hid (List.getElem?_eq_getElem hlt)
      have HKL := Lib.hid (And.intro hlt hg)
      generalize ws[kk] = x at *
      clear hrow
      by_cases hq : s.toList = x.toList
      · have hq1 : (s.toList == x.toList) = true := by simpa using hq
        have HX : Hid (decide (ws[kk]? = some s) = true) := Lib.hid (by rw [HE.out, decide_eq_true_eq, Option.some.injEq]; exact (list_inj hq).symm)
        clear hq
        go_wp2_with fail
        go_ret
        exact ⟨_, rfl, .inr ⟨kk, HKL.out.1, rfl, HX.out, A'.out⟩, Below.refl _ _⟩
      · have hq1 : (s.toList == x.toList) = false := by simpa using hq
        have HX : Hid (decide (ws[kk]? = some s) = false) := Lib.hid (by rw [HE.out, decide_eq_false_iff_not, Option.some.injEq]; intro h; exact hq (by rw [h]))
        clear hq
        go_wp2_with fail
        go_roundg (ws.length - (kk + 1))
        case measure => have := HKL.out; omega
        case rel =>
          have h1 := HKL.out
          refine ⟨kk + 1, by omega, Nat.le_refl _, by go_num, (show Aside _ from rfl), (show Aside _ from fun j hj => ?_)⟩
          by_cases e : j = kk
          · subst e
            exact HX.out
          · exact A'.out j (by omega)
    · have hltz : ¬ (kk : Int) < (ws.length : Int) := by omega
      have : kk = ws.length := by omega
      subst this
      go_wp2
      go_ret
      exact ⟨_, rfl, .inl ⟨rfl, A'.out⟩, Below.refl _ _⟩
theorem any_idx (ws : List ByteArray) (s : ByteArray) : (ws.any fun x => decide (x = s)) = (List.range ws.length).any fun i => decide (ws[i]? = some s) := by
  rw [Bool.eq_iff_iff, List.any_eq_true, List.any_eq_true]
  constructor
  · rintro ⟨x, hx, h⟩
    obtain ⟨i, hi, rfl⟩ := List.getElem_of_mem hx
    exact ⟨i, List.mem_range.2 hi, by rw [List.getElem?_eq_getElem hi]; simpa using h⟩
  · rintro ⟨i, hi, h⟩
    have hi := List.mem_range.1 hi
    rw [List.getElem?_eq_getElem hi] at h
    exact ⟨ws[i], List.getElem_mem hi, by simpa using h⟩
set_option maxRecDepth 100000 in
theorem contS_any (ws : List ByteArray) (A : Option Addr) (c : Nat) (hn : ws.length ≤ 1000000) (s : ByteArray) (w : World) (hw : WRow w ws A) :
    Calls Tryz.prog 65 #[.slice A ws.length c, .string s] w fun e w' => e = .returned (.bool (ws.any fun x => decide (x = s))) ∧ Below w.heap.size w w' := by
  have HC := Lib.hid (idxS_any ws A c hn s w hw)
  have HA := Lib.hid (any_idx ws s)
  clear hw
  go_enter Tryz.func65, Tryz.ntmps65
  go_wp2_with fail
  refine HC.out.mono ?_
  rintro e w' ⟨r, rfl, hr, hb⟩
  have HB := Lib.hid hb
  clear hb
  rcases hr with ⟨rfl, h⟩ | ⟨k, hk, rfl, h1, h2⟩
  · have E1 : Hid ((ws.any fun x => decide (x = s)) = false) := Lib.hid (by
      rw [HA.out, List.any_eq_false]
      intro i hi
      have := h i (List.mem_range.1 hi)
      simpa using this)
    clear h
    go_wp2_with fail
    go_ret
    exact ⟨by rw [E1.out]; rfl, HB.out⟩
  · have E1 : Hid ((ws.any fun x => decide (x = s)) = true) := Lib.hid (by
      rw [HA.out, List.any_eq_true]
      exact ⟨k, List.mem_range.2 hk, h1⟩)
    have h0 : (0 : Int) ≤ (k : Int) := by omega
    clear h1 h2
    go_wp2_with fail
    go_ret
    exact ⟨by rw [E1.out]; rfl, HB.out⟩
set_option maxRecDepth 100000 in
theorem isWord_any {O : ByteArray → Prop} (ws : List ByteArray) (A : Option Addr) (c : Nat) (hn : ws.length ≤ 1000000) (w : World) (hw : WRow w ws A) :
    Calls Tryz.prog 53 #[.slice A ws.length c] w fun e w' => ∃ v, e = .returned v ∧ NmV O w' v (fun s => ws.any fun x => decide (x = s)) ∧ Below w.heap.size w w' := by
  have HB := Lib.hid (alloc_below w (.cells #[.slice A ws.length c] 61))
  have HT := Lib.hid (alloc_top w #[.slice A ws.length c] 61)
  have hmf : ∀ (fn : Fn) (first cap : Array Value) (w : World), (Instr.makeFunc fn first cap).run Tryz.prog w = .ok (.func fn first cap) w := fun _ _ _ _ => rfl
  go_enter Tryz.func53, Tryz.ntmps53
  go_wp2_with fail
  go_ret
  refine ⟨_, rfl, ⟨64, #[.pointer (some ⟨w.heap.size, 0, none⟩)], rfl, enters_of Tryz.func64 (by kernel_rfl) rfl, ?_⟩, HB.out⟩
  intro W hW s hs hO
  have HC := Lib.hid (contS_any ws A c hn s W (hw.below (HB.out.trans (hW.mono HB.out.size))))
  have kB : W.cell? ⟨w.heap.size, 0, none⟩ = some (.slice A ws.length c) := cell_kept (by unfold World.cell?; simp only [HT.out]; rfl) rfl hW
  clear HT HB hW hw hmf
  show Calls _ _ #[.string s, .pointer (some ⟨w.heap.size, 0, none⟩)] W _
  generalize w.heap.size = N at *
  go_enter Tryz.func64, Tryz.ntmps64
  go_wp2_with fail
  refine HC.out.mono ?_
  rintro e w' ⟨rfl, hb⟩
  have HB2 := Lib.hid hb
  clear hb HC
  go_wp2_with fail
  go_ret
  exact ⟨rfl, HB2.out⟩
theorem nm_empty (O : ByteArray → Prop) (w : World) : NmV O w (.func (.func 51) #[] #[]) emB :=
  ⟨_, _, rfl, enters_of Tryz.func51 (by kernel_rfl) rfl, fun W _ s _ _ => isEmpty_any s W⟩
theorem nm_name (O : ByteArray → Prop) (w : World) : NmV O w (.func (.func 28) #[] #[]) nmB :=
  ⟨_, _, rfl, enters_of Tryz.func28 (by kernel_rfl) rfl, fun W _ s hs _ => (name_any s hs W).mono (by rintro e w' ⟨rfl, rfl⟩; exact ⟨rfl, Below.refl _ _⟩)⟩
end Go.Proofs.YtkpddjbdmjbefaaGreatDoor
