import Derived.Test.YtkpddjbdmjbefaaGreatDoorNOpen
namespace Go.Proofs.YtkpddjbdmjbefaaGreatDoor
open Go.RowKit
mutual
def mvT : Nd → Int → Nd
  | .mk k _ t a s l, y => .mk k t a y s (mvL l y 0)
def mvL : List Nd → Int → Nat → List Nd
  | [], _, _ => []
  | n :: l, y, i => mvT n (IntKind.i64.wrap (y + (i : Int))) :: mvL l y (i + 1)
end
theorem mvT_eq (n : Nd) (y : Int) : mvT n y = .mk n.kind n.till n.at' y n.name (mvL n.kids y 0) := by cases n; rw [mvT]; rfl
theorem mvL_len : ∀ (l : List Nd) (y : Int) (i : Nat), (mvL l y i).length = l.length
  | [], _, _ => by rw [mvL]
  | n :: l, y, i => by rw [mvL, List.length_cons, List.length_cons, mvL_len l y (i + 1)]
theorem mvL_take : ∀ (l : List Nd) (y : Int) (i j : Nat), (mvL l y i).take j = mvL (l.take j) y i
  | [], _, _, _ => by rw [mvL]; simp [mvL]
  | n :: l, y, i, 0 => by simp [mvL]
  | n :: l, y, i, j + 1 => by rw [mvL, List.take_succ_cons, List.take_succ_cons, mvL, mvL_take l y (i + 1) j]
theorem mvL_next : ∀ (l : List Nd) (y : Int) (i : Nat) (n : Nd), mvL (l ++ [n]) y i = mvL l y i ++ [mvT n (IntKind.i64.wrap (y + ((i + l.length : Nat) : Int)))]
  | [], y, i, n => by rw [List.nil_append, mvL, mvL]; simp [mvL]
  | m :: l, y, i, n => by
    rw [List.cons_append, mvL, mvL, mvL_next l y (i + 1) n, List.cons_append]
    rw [show i + 1 + l.length = i + (m :: l).length by rw [List.length_cons]; omega]
mutual
theorem same_mv : ∀ (n : Nd) (y : Int), sameN n (mvT n y) = true
  | .mk k f t a s l, y => by
    rw [sameN, mvT]
    simp only [Nd.kind, Nd.name, Nd.kids, beq_self_eq_true, decide_true, Bool.true_and]
    exact sameL_mv l y 0
theorem sameL_mv : ∀ (l : List Nd) (y : Int) (i : Nat), sameL l (mvL l y i) = true
  | [], _, _ => by rw [mvL, sameL]
  | n :: l, y, i => by rw [mvL, sameL, same_mv n, sameL_mv l y (i + 1)]; rfl
end
theorem same_parts {a b : Nd} (h : sameN a b = true) : a.kind = b.kind ∧ a.name = b.name ∧ sameL a.kids b.kids = true := by
  rw [sameN_eq] at h
  simp only [Bool.and_eq_true, beq_iff_eq, decide_eq_true_eq] at h
  exact ⟨h.1.1, h.1.2, h.2⟩
theorem sameL_cons {a b : Nd} {l m : List Nd} (h : sameL (a :: l) (b :: m) = true) : sameN a b = true ∧ sameL l m = true := by
  rw [sameL, Bool.and_eq_true] at h
  exact h
theorem sameL_nil {m : List Nd} (h : sameL [] m = true) : m = [] := by
  cases m with
  | nil => rfl
  | cons b m => rw [sameL_len (by simp)] at h; cases h
theorem sameL_con {a : Nd} {l m : List Nd} (h : sameL (a :: l) m = true) : ∃ b m', m = b :: m' := by
  cases m with
  | nil => rw [sameL_len (by simp)] at h; cases h
  | cons b m => exact ⟨b, m, rfl⟩
mutual
theorem same_size : ∀ (a b : Nd), sameN a b = true → sz a = sz b ∧ depth a = depth b
  | .mk k f t p s l, .mk k2 f2 t2 p2 s2 l2, h => by
    obtain ⟨h1, h2, h3⟩ := same_parts h
    obtain ⟨x1, x2⟩ := sameL_size l l2 h3
    have h1 : k = k2 := h1
    have h2 : s = s2 := h2
    subst h1 h2
    rw [sz, sz, depth, depth, x1, x2]
    exact ⟨rfl, rfl⟩
theorem sameL_size : ∀ (l m : List Nd), sameL l m = true → szL l = szL m ∧ depthL l = depthL m
  | [], m, h => by rw [sameL_nil h]; exact ⟨rfl, rfl⟩
  | a :: l, [], h => by obtain ⟨b, m, e⟩ := sameL_con h; cases e
  | a :: l, b :: m, h => by
    obtain ⟨h1, h2⟩ := sameL_cons h
    obtain ⟨x1, x2⟩ := same_size a b h1
    obtain ⟨y1, y2⟩ := sameL_size l m h2
    rw [szL, szL, depthL, depthL, x1, x2, y1, y2]
    exact ⟨rfl, rfl⟩
end
def PGood (s : Nd → Bool) : Prop := ∀ a b, sameN a b = true → s a = s b
def PGoodP (p : List Nd → Option (List Nd)) : Prop := ∀ l m, sameL l m = true → (p l = none ∧ p m = none) ∨ ∃ l' m', p l = some l' ∧ p m = some m' ∧ sameL l' m' = true
def PAllS : List (Nd → Bool) → Prop
  | [] => True
  | s :: ss => PGood s ∧ PAllS ss
def PAllG : List (List Nd → Option (List Nd)) → Prop
  | [] => True
  | p :: ps => PGoodP p ∧ PAllG ps
theorem any_good : ∀ {ss : List (Nd → Bool)}, PAllS ss → ∀ {a b : Nd}, sameN a b = true → (ss.any fun s => s a) = ss.any fun s => s b
  | [], _, _, _, _ => rfl
  | s :: ss, h, a, b, hab => by rw [List.any_cons, List.any_cons, h.1 a b hab, any_good h.2 hab]
theorem one_good {ss : List (Nd → Bool)} (h : PAllS ss) : PGoodP (oneP ss) := by
  intro l m hlm
  cases l with
  | nil => rw [sameL_nil hlm]; exact .inl ⟨rfl, rfl⟩
  | cons a l =>
    obtain ⟨b, m, rfl⟩ := sameL_con hlm
    obtain ⟨h1, h2⟩ := sameL_cons hlm
    unfold oneP
    dsimp only
    rw [any_good h h1]
    by_cases hc : (ss.any fun s => s b) = true
    · rw [if_pos hc, if_pos hc]; exact .inr ⟨l, m, rfl, rfl, h2⟩
    · rw [if_neg hc, if_neg hc]; exact .inl ⟨rfl, rfl⟩
theorem drop_good {s : Nd → Bool} (h : PGood s) : ∀ (l m : List Nd), sameL l m = true → sameL (l.dropWhile s) (m.dropWhile s) = true
  | [], m, hlm => by rw [sameL_nil hlm, List.dropWhile_nil, sameL]
  | a :: l, [], hlm => by obtain ⟨b, m, e⟩ := sameL_con hlm; cases e
  | a :: l, b :: m, hlm => by
    obtain ⟨h1, h2⟩ := sameL_cons hlm
    rw [List.dropWhile_cons, List.dropWhile_cons, h a b h1]
    by_cases hc : s b = true
    · rw [if_pos hc, if_pos hc]; exact drop_good h l m h2
    · rw [if_neg hc, if_neg hc]; exact hlm
theorem many_good {s : Nd → Bool} (h : PGood s) : PGoodP (manyP s) := fun l m hlm => .inr ⟨_, _, rfl, rfl, drop_good h l m hlm⟩
theorem go_good : ∀ {ps : List (List Nd → Option (List Nd))}, PAllG ps → PGoodP (goP ps)
  | [], _ => fun l m hlm => .inr ⟨l, m, rfl, rfl, hlm⟩
  | p :: ps, h => fun l m hlm => by
    rw [goP, goP]
    rcases h.1 l m hlm with ⟨h1, h2⟩ | ⟨l', m', h1, h2, h3⟩
    · rw [h1, h2]; exact .inl ⟨rfl, rfl⟩
    · rw [h1, h2]; exact go_good h.2 l' m' h3
theorem made_good {a b : Nd} (hab : sameN a b = true) (m : ByteArray → Bool) (ps : List (List Nd → Option (List Nd))) (h : PAllG ps) : madeP a m ps = madeP b m ps := by
  obtain ⟨h1, h2, h3⟩ := same_parts hab
  unfold madeP
  rw [h2]
  congr 1
  rcases go_good h _ _ h3 with ⟨x1, x2⟩ | ⟨l', m', x1, x2, x3⟩
  · rw [x1, x2]
  · rw [x1, x2]
    cases l' with
    | nil => rw [sameL_nil x3]
    | cons c l' => obtain ⟨d, m', rfl⟩ := sameL_con x3; rfl
theorem all_good {s : Nd → Bool} (h : PGood s) : ∀ (l m : List Nd), sameL l m = true → l.all s = m.all s
  | [], m, hlm => by rw [sameL_nil hlm]
  | a :: l, [], hlm => by obtain ⟨b, m, e⟩ := sameL_con hlm; cases e
  | a :: l, b :: m, hlm => by
    obtain ⟨h1, h2⟩ := sameL_cons hlm
    rw [List.all_cons, List.all_cons, h a b h1, all_good h l m h2]
theorem take_good : ∀ (n : Nat) (l m : List Nd), sameL l m = true → sameL (l.take n) (m.take n) = true
  | 0, l, m, _ => by rw [List.take_zero, List.take_zero, sameL]
  | n + 1, [], m, h => by rw [sameL_nil h, List.take_nil, sameL]
  | n + 1, a :: l, [], h => by obtain ⟨b, m, e⟩ := sameL_con h; cases e
  | n + 1, a :: l, b :: m, h => by
    obtain ⟨h1, h2⟩ := sameL_cons h
    rw [List.take_succ_cons, List.take_succ_cons, sameL, h1, take_good n l m h2]
    rfl
theorem outs_good {a b : Nd} (h : sameN a b = true) : sameL (outs a) (outs b) = true := by
  obtain ⟨h1, h2, h3⟩ := same_parts h
  unfold outs
  rw [h1]
  split
  · rw [sameL]
  · split
    · exact take_good 1 _ _ h3
    · exact h3
theorem bare_good : ∀ f, PGood (bare f)
  | 0 => fun _ _ _ => rfl
  | f + 1 => fun a b h => by
    rw [bare, bare, (same_parts h).1, all_good (bare_good f) _ _ (outs_good h)]
theorem and_good {s t : Nd → Bool} (h1 : PGood s) (h2 : PGood t) : PGood (fun n => s n && t n) := fun a b h => by show (s a && t a) = (s b && t b); rw [h1 a b h, h2 a b h]
section
variable (tk : Int → ByteArray → Bool)
theorem shp_good : ∀ (f : Nat) (c : Sc), PGood (shp tk f c)
  | 0, c => fun a b _ => by rw [shp, shp]
  | f + 1, c => fun a b h => by
    have ih := shp_good f
    have hi : ∀ c, shp tk f c a = shp tk f c b := fun c => ih c a b h
    obtain ⟨hk, hn, -⟩ := same_parts h
    have M := fun m ps hp => made_good h m ps hp
    cases c <;> simp only [shp, hk, hn, hi] <;>
      (repeat (first
        | rfl
        | rw [M _ _ (by
            repeat' (first
              | exact trivial
              | exact ih _
              | exact and_good (ih _) (bare_good _)
              | refine And.intro ?_ ?_
              | refine one_good ?_
              | refine many_good ?_))]))
theorem file_good (f : Nat) {a b : Nd} (h : sameN a b = true) : fileB tk f a = fileB tk f b := by
  unfold fileB
  rw [(same_parts h).1, made_good h nmB [manyP (shp tk f .imp), manyP (shp tk f .decl)] (show PGoodP _ ∧ PGoodP _ ∧ True from ⟨many_good (shp_good tk f _), many_good (shp_good tk f _), trivial⟩)]
theorem chk_good (f : Nat) {a b : Nd} (h : sameN a b = true) : chk tk f a = chk tk f b := by
  unfold chk
  rw [(same_size a b h).2, file_good tk f h]
end
mutual
theorem allN_any {O : ByteArray → Prop} (hO : ∀ s, O s) : ∀ n : Nd, allN O n
  | .mk k f t a s l => by rw [allN]; exact ⟨hO s, allL_any hO l⟩
theorem allL_any {O : ByteArray → Prop} (hO : ∀ s, O s) : ∀ l : List Nd, allL O l
  | [] => by rw [allL]; trivial
  | n :: l => by rw [allL]; exact ⟨allN_any hO n, allL_any hO l⟩
end
end Go.Proofs.YtkpddjbdmjbefaaGreatDoor
namespace Go.Proofs.YtkpddjbdmjbefaaGreatDoor
open Go.RowKit
theorem Tryz.infoNd : (Tryz.prog.info? 24).map (fun i => (i.zero, i.size, i.bytes)) = some (some (.agg #[.int .i64 0, .int .i64 0, .int .i64 0, .int .i64 0, .string ⟨#[]⟩, .slice none 0 0]), 6, 72) := by kernel_rfl
theorem nd_more {w0 w : World} {B : Nat} (hb : Below B w0 w) (hB : B ≤ w.heap.size) (cs : Array Value) (t : TypeId) : Below B w0 (w.alloc (.cells cs t)) ∧ (w.alloc (.cells cs t)).heap[w.heap.size]? = some (.cells cs t (0, 0)) ∧ (w.alloc (.cells cs t)).heap.size = w.heap.size + 1 ∧ Below w.heap.size w (w.alloc (.cells cs t)) :=
  ⟨hb.trans ((alloc_below w _).mono hB), alloc_top w cs t, World.size_alloc .., alloc_below w _⟩
theorem wr_eq (z : Int) : wrap64 z = IntKind.i64.wrap z := (Go.IntWalk.i64_left z).symm
abbrev NdA := Nd × Option Addr × Nat
def ndc (d : NdA) : List Value := [.int .i64 d.1.kind, .int .i64 d.1.fro, .int .i64 d.1.till, .int .i64 d.1.at', .string d.1.name, .slice d.2.1 d.1.kids.length d.2.2]
def ndcs (D : List NdA) : List Value := D.flatMap ndc
theorem ndcs_snoc (L : List NdA) (x : NdA) : ndcs (L ++ [x]) = ndcs L ++ ndc x := by simp [ndcs]
theorem nd_own_keep {W W' : World} {B size n : Nat} {e : TypeId} {v : Value} {xs : List Value} (h : W.ownsRow B e size v n xs) (hk : ∀ k, v.ownBlock = some k → W'.heap[k]? = W.heap[k]?) : W'.ownsRow B e size v n xs := by
  refine ⟨h.1, ?_⟩
  rcases h.2 with h0 | ⟨g, cap, cur, rfl, hB, hg, r⟩
  · exact .inl h0
  · exact .inr ⟨g, cap, cur, rfl, hB, (hk g rfl).trans hg, r⟩
theorem nln_row_of {W : World} {P : Nat → Prop} {g : Nat} : ∀ (D : List NdA) (o : Nat), (∀ i v, (ndcs D)[i]? = some v → W.cell? ⟨g, o + i, none⟩ = some v) → (∀ d ∈ D, d.1.kids.length ≤ d.2.2 ∧ SIn W P d.1.kids d.2.1) → NLn W P g o (D.map (·.1))
  | [], _, _, _ => by rw [List.map_nil, NLn]; trivial
  | d :: D, o, h, hd => by
    rw [List.map_cons, NLn]
    have hc : ∀ i v, (ndc d)[i]? = some v → W.cell? ⟨g, o + i, none⟩ = some v := by
      intro i v hv
      refine h i v ?_
      show (ndc d ++ ndcs D)[i]? = _
      rw [List.getElem?_append_left (List.getElem?_eq_some_iff.1 hv).1]
      exact hv
    refine ⟨⟨_, _, _, _, _, _, hc 0 _ rfl, hc 1 _ rfl, hc 2 _ rfl, hc 3 _ rfl, hc 4 _ rfl, hc 5 _ rfl, ?_⟩, ?_⟩
    · obtain ⟨h1, h2⟩ := hd d (List.mem_cons_self ..)
      exact NIn.shut h1 h2
    · refine nln_row_of D (o + 6) (fun i v hv => ?_) (fun e he => hd e (List.mem_cons_of_mem _ he))
      have := h (6 + i) v (by
        show (ndc d ++ ndcs D)[6 + i]? = _
        rw [List.getElem?_append_right (by simp [ndc])]
        rw [show 6 + i - (ndc d).length = i by simp [ndc]]
        exact hv)
      rw [Nat.add_assoc]
      exact this
theorem sin_of {W : World} {B : Nat} {v : Value} {D : List NdA} {Q : Nat → Prop} (h : W.ownsRow B 24 6 v D.length (ndcs D)) (hd : ∀ d ∈ D, d.1.kids.length ≤ d.2.2 ∧ SIn W Q d.1.kids d.2.1) (hq : ∀ k, v.ownBlock = some k → Q k) : ∃ A cap, v = .slice A D.length cap ∧ D.length ≤ cap ∧ SIn W Q (D.map (·.1)) A := by
  rcases h.2 with ⟨rfl, h0⟩ | ⟨g, cap, cur, rfl, hB, hg, hcap, -, hsz, ht⟩
  · exact ⟨none, 0, by rw [h0], by omega, fun hp => by rw [List.length_map] at hp; omega⟩
  · refine ⟨_, cap, rfl, hcap, fun _ => ⟨g, 0, rfl, hq g rfl, nln_row_of D 0 (fun i v hv => ?_) hd⟩⟩
    have hi : i < D.length * 6 := by
      have h1 := (List.getElem?_eq_some_iff.1 hv).1
      have h2 := h.1
      omega
    rw [cell_at hg, ← Array.getElem?_toList, Nat.zero_add]
    rw [← ht, List.getElem?_take, if_pos hi] at hv
    exact hv
structure MvI (w wr : World) (n : Nd) (ia : Option Addr) (ic : Nat) (y : Int) (cv : Value) (D : List NdA) : Prop where
  below : Below w.heap.size w wr
  b0 : wr.heap[w.heap.size]? = some (.cells #[.int .i64 n.kind, .int .i64 n.fro, .int .i64 n.till, .int .i64 n.at', .string n.name, .slice ia n.kids.length ic] 24 (0, 0))
  b1 : wr.heap[w.heap.size + 1]? = some (.cells #[.int .i64 0, .int .i64 0, .int .i64 0, .int .i64 0, .string ⟨#[]⟩, .slice none 0 0] 24 (0, 0))
  b2 : wr.heap[w.heap.size + 2]? = some (.cells #[.int .i64 n.kind, .int .i64 n.till, .int .i64 n.at', .int .i64 y, .string n.name, cv] 24 (0, 0))
  own : wr.ownsRow (w.heap.size + 3) 24 6 cv D.length (ndcs D)
  each : ∀ d ∈ D, d.1.kids.length ≤ d.2.2 ∧ SIn wr (fun b => w.heap.size + 3 ≤ b ∧ cv.ownBlock ≠ some b) d.1.kids d.2.1
theorem MvI.keep {w wr W : World} {n : Nd} {ia : Option Addr} {ic : Nat} {y : Int} {cv : Value} {D : List NdA} (h : MvI w wr n ia ic y cv D) (hb : Below wr.heap.size wr W) : MvI w W n ia ic y cv D where
  below := h.below.trans (hb.mono h.below.size)
  b0 := (hb.block _ (Array.getElem?_eq_some_iff.1 h.b0).1).trans h.b0
  b1 := (hb.block _ (Array.getElem?_eq_some_iff.1 h.b1).1).trans h.b1
  b2 := (hb.block _ (Array.getElem?_eq_some_iff.1 h.b2).1).trans h.b2
  own := ownsRow_below h.own hb
  each := fun d hd => ⟨(h.each d hd).1, (h.each d hd).2.below hb⟩
theorem MvI.app {w wr W : World} {n : Nd} {ia : Option Addr} {ic : Nat} {y : Int} {cv cv' : Value} {D : List NdA} (h : MvI w wr n ia ic y cv D) {d : NdA} (hc : d.1.kids.length ≤ d.2.2) (hk : SIn wr (fun b => w.heap.size + 3 ≤ b ∧ cv.ownBlock ≠ some b) d.1.kids d.2.1)
    (hown : W.ownsRow (w.heap.size + 3) 24 6 cv' (D.length + 1) (ndcs D ++ ndc d)) (hg : wr.grownBy W cv.ownBlock) (hn : ∀ k, cv'.ownBlock = some k → cv.ownBlock = some k ∨ wr.heap.size ≤ k) :
    MvI w (W.setCell ⟨w.heap.size + 2, 5, none⟩ cv') n ia ic y cv' (D ++ [d]) := by
  have hl := World.ownsRow.lt h.own
  have h0 := (Array.getElem?_eq_some_iff.1 h.b2).1
  have far : ∀ k, k < w.heap.size + 3 → cv.ownBlock ≠ some k := fun k hk e => by have := (hl k e).1; omega
  have keep : ∀ k, k < wr.heap.size → cv.ownBlock ≠ some k → k ≠ w.heap.size + 2 → (W.setCell ⟨w.heap.size + 2, 5, none⟩ cv').heap[k]? = wr.heap[k]? := fun k h1 h2 h3 =>
    (heap_setCell_other W ⟨w.heap.size + 2, 5, none⟩ k cv' h3).trans (hg.block k h1 (fun e => h2 e.symm))
  have hgr : Below w.heap.size w W := h.below.trans ⟨hg.os, hg.tape, hg.output, hg.size, fun k hk => hg.block k (Nat.lt_of_lt_of_le hk h.below.size) (fun e => far k (by omega) e.symm)⟩
  have hsep : ∀ k, (w.heap.size + 3 ≤ k ∧ cv.ownBlock ≠ some k) → k < wr.heap.size → (w.heap.size + 3 ≤ k ∧ cv'.ownBlock ≠ some k) := fun k h1 h2 => ⟨h1.1, fun e => (hn k e).elim h1.2 (fun h3 => by omega)⟩
  have hkp : ∀ k, (w.heap.size + 3 ≤ k ∧ cv.ownBlock ≠ some k) → k < wr.heap.size → (W.setCell ⟨w.heap.size + 2, 5, none⟩ cv').heap[k]? = wr.heap[k]? := fun k h1 h2 => keep k h2 h1.2 (by omega)
  refine ⟨hgr.setCell (p := ⟨w.heap.size + 2, 5, none⟩) (by show w.heap.size ≤ w.heap.size + 2; omega) cv', ?_, ?_, ?_, ?_, ?_⟩
  · exact (keep _ (by omega) (far _ (by omega)) (by omega)).trans h.b0
  · exact (keep _ (by omega) (far _ (by omega)) (by omega)).trans h.b1
  · exact heap_setCell_same W (w.heap.size + 2) 5 _ _ cv' ((hg.block _ h0 (fun e => far _ (by omega) e.symm)).trans h.b2)
  · rw [List.length_append, ndcs_snoc]
    refine nd_own_keep hown (fun k hk => heap_setCell_other W ⟨w.heap.size + 2, 5, none⟩ k cv' ?_)
    show k ≠ w.heap.size + 2
    rcases hn k hk with h1 | h1
    · have := (hl k h1).1; omega
    · omega
  · intro e he
    rcases List.mem_append.1 he with he | he
    · obtain ⟨h1, h2⟩ := h.each e he
      exact ⟨h1, h2.keep hkp hsep⟩
    · obtain rfl := List.mem_singleton.1 he
      exact ⟨hc, hk.keep hkp hsep⟩
def MvEnd (T : Nd) (w : World) (e : Ending) (w' : World) : Prop := ∃ r, e = .returned r ∧ NIn w' (fun b => w.heap.size ≤ b) T r ∧ Below w.heap.size w w'
theorem set6_other {W : World} {R k : Nat} (hne : k ≠ R) (a b c d e f : Value) : ((((((W.setCell ⟨R, 0, none⟩ a).setCell ⟨R, 1, none⟩ b).setCell ⟨R, 2, none⟩ c).setCell ⟨R, 3, none⟩ d).setCell ⟨R, 4, none⟩ e).setCell ⟨R, 5, none⟩ f).heap[k]? = W.heap[k]? :=
  (heap_setCell_other _ ⟨R, 5, none⟩ k f hne).trans ((heap_setCell_other _ ⟨R, 4, none⟩ k e hne).trans ((heap_setCell_other _ ⟨R, 3, none⟩ k d hne).trans ((heap_setCell_other _ ⟨R, 2, none⟩ k c hne).trans ((heap_setCell_other _ ⟨R, 1, none⟩ k b hne).trans (heap_setCell_other _ ⟨R, 0, none⟩ k a hne)))))
theorem MvI.start {w : World} {n : Nd} {ia : Option Addr} {ic : Nat} {y : Int} : MvI w (((w.alloc (.cells #[.int .i64 n.kind, .int .i64 n.fro, .int .i64 n.till, .int .i64 n.at', .string n.name, .slice ia n.kids.length ic] 24)).alloc (.cells #[.int .i64 0, .int .i64 0, .int .i64 0, .int .i64 0, .string ⟨#[]⟩, .slice none 0 0] 24)).alloc (.cells #[.int .i64 n.kind, .int .i64 n.till, .int .i64 n.at', .int .i64 y, .string n.name, .slice none 0 0] 24)) n ia ic y (.slice none 0 0) [] := by
  obtain ⟨B1, T1, Z1, K1⟩ := nd_more (Below.refl w.heap.size w) (Nat.le_refl _) #[.int .i64 n.kind, .int .i64 n.fro, .int .i64 n.till, .int .i64 n.at', .string n.name, .slice ia n.kids.length ic] 24
  obtain ⟨B2, T2, Z2, K2⟩ := nd_more B1 B1.size #[.int .i64 0, .int .i64 0, .int .i64 0, .int .i64 0, .string ⟨#[]⟩, .slice none 0 0] 24
  rw [Z1] at T2 Z2
  replace T1 := (K2.block _ (Array.getElem?_eq_some_iff.1 T1).1).trans T1
  obtain ⟨B3, T3, Z3, K3⟩ := nd_more B2 B2.size #[.int .i64 n.kind, .int .i64 n.till, .int .i64 n.at', .int .i64 y, .string n.name, .slice none 0 0] 24
  rw [Z2] at T3 Z3
  replace T1 := (K3.block _ (Array.getElem?_eq_some_iff.1 T1).1).trans T1
  replace T2 := (K3.block _ (Array.getElem?_eq_some_iff.1 T2).1).trans T2
  exact ⟨B3, T1, T2, T3, ⟨rfl, .inl ⟨rfl, rfl⟩⟩, fun d hd => by cases hd⟩
theorem MvI.fin {w wr : World} {n : Nd} {ia : Option Addr} {ic : Nat} {y : Int} {cv : Value} {D : List NdA} (h : MvI w wr n ia ic y cv D) (hD : D.map (·.1) = mvL n.kids y 0) (a b c d e f : Value) :
    NIn ((((((wr.setCell ⟨w.heap.size + 1, 0, none⟩ a).setCell ⟨w.heap.size + 1, 1, none⟩ b).setCell ⟨w.heap.size + 1, 2, none⟩ c).setCell ⟨w.heap.size + 1, 3, none⟩ d).setCell ⟨w.heap.size + 1, 4, none⟩ e).setCell ⟨w.heap.size + 1, 5, none⟩ f) (fun b => w.heap.size ≤ b) (mvT n y) (.agg #[.int .i64 n.kind, .int .i64 n.till, .int .i64 n.at', .int .i64 y, .string n.name, cv]) := by
  obtain ⟨A, cap, rfl, hcap, hs⟩ := sin_of (Q := fun b => w.heap.size + 3 ≤ b) h.own (fun d hd => ⟨(h.each d hd).1, (h.each d hd).2.keep (fun _ _ _ => rfl) (fun _ h1 _ => h1.1)⟩) (fun k hk => (World.ownsRow.lt h.own k hk).1)
  have hl : D.length = (mvT n y).kids.length := by rw [mvT_eq]; show D.length = (mvL n.kids y 0).length; rw [← hD, List.length_map]
  rw [hD] at hs
  rw [hl] at hcap ⊢
  have hk : (mvT n y).kids = mvL n.kids y 0 := by rw [mvT_eq]; rfl
  rw [← hk] at hs
  have h2 := NIn.shut (n := mvT n y) hcap (hs.keep (W' := ((((((wr.setCell ⟨w.heap.size + 1, 0, none⟩ a).setCell ⟨w.heap.size + 1, 1, none⟩ b).setCell ⟨w.heap.size + 1, 2, none⟩ c).setCell ⟨w.heap.size + 1, 3, none⟩ d).setCell ⟨w.heap.size + 1, 4, none⟩ e).setCell ⟨w.heap.size + 1, 5, none⟩ f)) (Q := fun b => w.heap.size ≤ b) (fun k h1 _ => set6_other (by omega) a b c d e f) (fun k h1 _ => by omega))
  have e1 : (mvT n y).kind = n.kind := by rw [mvT_eq]; rfl
  have e2 : (mvT n y).fro = n.till := by rw [mvT_eq]; rfl
  have e3 : (mvT n y).till = n.at' := by rw [mvT_eq]; rfl
  have e4 : (mvT n y).at' = y := by rw [mvT_eq]; rfl
  have e5 : (mvT n y).name = n.name := by rw [mvT_eq]; rfl
  rw [e1, e2, e3, e4, e5] at h2
  exact h2
set_option maxRecDepth 100000 in
set_option maxHeartbeats 4000000 in
theorem moved_any : ∀ (f : Nat) (n : Nd) (y : Int) (u : Value) (w : World), sz n ≤ f → sz n ≤ 1000000 → NIn w TT n u →
    Calls Tryz.prog 6 #[u, .int .i64 y] w (MvEnd (mvT n y) w) := by
  intro f
  induction f with
  | zero => intro n _ _ _ h; have := sz_pos n; omega
  | succ f ih =>
    intro n y u w hf ha hu
    obtain ⟨i0, hi, hz0, hz1, hz2⟩ := info_parts Tryz.infoNd
    obtain ⟨ia, ic, rfl, hcc, hk⟩ := hu.open
    have HK := Lib.hid (fun (W : World) (hb : Below w.heap.size w W) => hk.below hb)
    have HIH := Lib.hid ih
    have HSZ := Lib.hid (And.intro hf ha)
    have HI := Lib.hid hi
    have HZ0 := Lib.hid hz0
    have HZ1 := Lib.hid hz1
    have HZ2 := Lib.hid hz2
    have hal : n.kids.length ≤ 1000000 := by have := szL_len n.kids; have := sz_eq n; omega
    clear ih hf ha hu hk hcc hi hz0 hz1 hz2
    have HST := Lib.hid (MvI.start (w := w) (n := n) (ia := ia) (ic := ic) (y := y))
    go_enter Tryz.func6, Tryz.ntmps6
    go_wp2_with fail
    go_loopg [6] n.kids.length (fun gg s6 wr => ∃ (k : Nat) (cv : Value) (D : List NdA), k ≤ n.kids.length ∧ n.kids.length - k ≤ gg ∧ s6 = .int .i64 (k : Int) ∧ Aside (D.length = k ∧ D.map (·.1) = mvL (n.kids.take k) y 0 ∧ MvI w wr n ia ic y cv D))
    case atStart => exact ⟨0, _, [], Nat.zero_le _, by omega, rfl, rfl, by rw [List.take_zero, mvL]; rfl, HST.out⟩
    case round =>
      clear HST
      obtain ⟨k, cv, D, hk, hg, rfl, HD⟩ := hrel
      obtain ⟨k0, k1, k2, k3, k4, k5⟩ := six_cells HD.out.2.2.b0
      by_cases hlt : k < n.kids.length
      · have hltz : (k : Int) < (n.kids.length : Int) := by omega
        obtain ⟨s, hs⟩ : ∃ t, n.kids[k]? = some t := ⟨_, List.getElem?_eq_getElem hlt⟩
        obtain ⟨b, o, rfl, -, hrow⟩ := HK.out wr HD.out.2.2.below (by omega)
        obtain ⟨xa, xc, d0, d1, d2, d3, d4, d5, hic, hkk⟩ := hrow.row hs
        have hss := sz_kid hs
        have hsz := HSZ.out
        obtain ⟨m, hm⟩ : ∃ m, mvT s (IntKind.i64.wrap (y + (k : Int))) = m := ⟨_, rfl⟩
        have HI1 : Hid (∀ W, Below wr.heap.size wr W → Calls Tryz.prog 6 #[.agg #[.int .i64 s.kind, .int .i64 s.fro, .int .i64 s.till, .int .i64 s.at', .string s.name, .slice xa s.kids.length xc], .int .i64 (wrap64 (y + (k : Int)))] W (MvEnd m W)) :=
          Lib.hid (fun W hW => by rw [← hm, wr_eq]; exact HIH.out s _ _ W (by omega) (by omega) ((NIn.shut hic hkk).below hW))
        have HDM : Hid (D.map (·.1) ++ [m] = mvL (n.kids.take (k + 1)) y 0) := Lib.hid (by
          have h1 : n.kids.take (k + 1) = n.kids.take k ++ [s] := by rw [List.take_add_one, hs]; rfl
          rw [h1, mvL_next, HD.out.2.1, ← hm, List.length_take, Nat.min_eq_left hk, Nat.zero_add])
        have HLT := Lib.hid (And.intro hlt hg)
        have HM := Lib.hid hm
        clear hrow hic hkk hss hsz hs hg hm
        go_wp2_with fail
        clear k0 k1 k2 k3 k4 k5 d0 d1 d2 d3 d4 d5
        refine (HI1.out wr (Below.refl _ _)).mono ?_
        rintro e w1 ⟨r, rfl, hr, hb1⟩
        obtain ⟨ja, jc, rfl, hjc, hj⟩ := hr.open
        have how := HD.out.2.2.own
        rw [HD.out.1] at how
        obtain ⟨q, qc, rfl⟩ := slice_form how
        have hl := World.ownsRow.lt how
        have hs2 := (Array.getElem?_eq_some_iff.1 HD.out.2.2.b2).1
        have hI1 := HD.out.2.2.keep hb1
        have hI4 := hI1.keep (alloc_below w1 (.cells #[.int .i64 m.kind, .int .i64 m.fro, .int .i64 m.till, .int .i64 m.at', .string m.name, .slice ja m.kids.length jc] 24))
        have hI5 := hI4.keep (alloc_below (w1.alloc (.cells #[.int .i64 m.kind, .int .i64 m.fro, .int .i64 m.till, .int .i64 m.at', .string m.name, .slice ja m.kids.length jc] 24)) (.cells #[.int .i64 m.kind, .int .i64 m.fro, .int .i64 m.till, .int .i64 m.at', .string m.name, .slice ja m.kids.length jc] 24))
        have hj5 := (((hj.below (alloc_below w1 (.cells #[.int .i64 m.kind, .int .i64 m.fro, .int .i64 m.till, .int .i64 m.at', .string m.name, .slice ja m.kids.length jc] 24))).below (alloc_below (w1.alloc (.cells #[.int .i64 m.kind, .int .i64 m.fro, .int .i64 m.till, .int .i64 m.at', .string m.name, .slice ja m.kids.length jc] 24)) (.cells #[.int .i64 m.kind, .int .i64 m.fro, .int .i64 m.till, .int .i64 m.at', .string m.name, .slice ja m.kids.length jc] 24)))).keep (W' := ((w1.alloc (.cells #[.int .i64 m.kind, .int .i64 m.fro, .int .i64 m.till, .int .i64 m.at', .string m.name, .slice ja m.kids.length jc] 24)).alloc (.cells #[.int .i64 m.kind, .int .i64 m.fro, .int .i64 m.till, .int .i64 m.at', .string m.name, .slice ja m.kids.length jc] 24))) (Q := fun b => w.heap.size + 3 ≤ b ∧ (Value.slice q k qc).ownBlock ≠ some b) (fun _ _ _ => rfl) (fun x hx _ => ⟨by omega, fun e => by have := (hl x e).2; omega⟩)
        obtain ⟨e0, e1, e2, e3, e4, e5⟩ := six_cells hI4.b2
        replace e5 : (w1.alloc (.cells #[.int .i64 m.kind, .int .i64 m.fro, .int .i64 m.till, .int .i64 m.at', .string m.name, .slice ja m.kids.length jc] 24)).cell? ⟨w.heap.size + 1 + 1, 5, none⟩ = some (.slice q k qc) := e5
        obtain ⟨t0, t1, t2, t3, t4, t5⟩ := six_cells (alloc_top w1 #[.int .i64 m.kind, .int .i64 m.fro, .int .i64 m.till, .int .i64 m.at', .string m.name, .slice ja m.kids.length jc] 24)
        have HOW : Hid (((w1.alloc (.cells #[.int .i64 m.kind, .int .i64 m.fro, .int .i64 m.till, .int .i64 m.at', .string m.name, .slice ja m.kids.length jc] 24)).alloc (.cells #[.int .i64 m.kind, .int .i64 m.fro, .int .i64 m.till, .int .i64 m.at', .string m.name, .slice ja m.kids.length jc] 24)).ownsRow (w.heap.size + 3) 24 6 (.slice q k qc) k (ndcs D)) := Lib.hid (by have h1 := hI5.own; rw [HD.out.1] at h1; exact h1)
        have HDL := Lib.hid HD.out.1
        have HI5 := Lib.hid hI5
        have HJ5 := Lib.hid (And.intro hjc hj5)
        have HBL := Lib.hid hI5.below.size
        have HNA := Lib.hid (new_add2 w1 (.cells #[.int .i64 m.kind, .int .i64 m.fro, .int .i64 m.till, .int .i64 m.at', .string m.name, .slice ja m.kids.length jc] 24) [.int .i64 m.kind, .int .i64 m.fro, .int .i64 m.till, .int .i64 m.at', .string m.name, .slice ja m.kids.length jc] 24)
        clear hr hj hjc hb1 HI1 how hl hs2 hI1 hI4 hI5 hj5 e0 e1 e2 e3 e4 HD
        go_wp2_with (at_builtin; refine wpList_append_own2 _ rfl _ _ 22 rfl (w.heap.size + 3) 24 i0 (.agg #[.int .i64 0, .int .i64 0, .int .i64 0, .int .i64 0, .string ⟨#[]⟩, .slice none 0 0]) 6 72 Tryz.underlying22 HI.out HZ0.out HZ1.out HZ2.out rfl (by decide) _ _ _ rfl HOW.out ⟨w1.heap.size + 1, 0, none⟩ 1 1 [.int .i64 m.kind, .int .i64 m.fro, .int .i64 m.till, .int .i64 m.at', .string m.name, .slice ja m.kids.length jc] rfl rfl HNA.out ?c2 ?c3 ?c4 ?c5 ?_)
        case c2 => simp [Value.oneCell']
        case c3 => unfold maxLen; omega
        case c4 => omega
        case c5 => have h1 := (Array.getElem?_eq_some_iff.1 HI5.out.b2).1; omega
        intro v2 w2 hown2 hgr2 hne2
        obtain ⟨q2, qc2, rfl⟩ := slice_form hown2
        have hl := World.ownsRow.lt HOW.out
        have hbK : w2.heap[w.heap.size + 2]? = some (.cells #[.int .i64 n.kind, .int .i64 n.till, .int .i64 n.at', .int .i64 y, .string n.name, .slice q k qc] 24 (0, 0)) :=
          (hgr2.block _ (Array.getElem?_eq_some_iff.1 HI5.out.b2).1 (fun e => by have := (hl _ e.symm).1; omega)).trans HI5.out.b2
        have kc : w2.cell? ⟨w.heap.size + 1 + 1, 5, none⟩ = some (.slice q k qc) := (six_cells hbK).2.2.2.2.2
        have kf := frozen_of_row w2 (w.heap.size + 1 + 1) 5 _ _ hbK
        have happ : MvI w (w2.setCell ⟨w.heap.size + 1 + 1, 5, none⟩ (.slice q2 (k + 1) qc2)) n (some ⟨b, o, none⟩) ic y (.slice q2 (k + 1) qc2) (D ++ [(m, ja, jc)]) :=
          HI5.out.app (d := (m, ja, jc)) HJ5.out.1 HJ5.out.2 (by rw [HDL.out]; exact hown2) hgr2 (fun j hj => by have h1 := hne2 j hj; rw [World.size_alloc, World.size_alloc]; exact h1)
        have HAPP := Lib.hid happ
        clear hown2 hgr2 hne2 hl hbK happ HI5 HJ5 HOW HNA HBL t0 t1 t2 t3 t4 t5 e5
        go_wp2_with fail
        go_roundg (n.kids.length - (k + 1))
        case measure => have := HLT.out; omega
        case rel =>
          have h1 := HLT.out
          exact ⟨k + 1, _, _, by omega, Nat.le_refl _, by go_num, by rw [List.length_append, HDL.out]; rfl, by rw [List.map_append]; exact HDM.out, HAPP.out⟩
      · have hltz : ¬ (k : Int) < (n.kids.length : Int) := by omega
        have hke : k = n.kids.length := by omega
        have hDD := HD.out.2.1
        rw [hke, List.take_length] at hDD
        have HDD := Lib.hid hDD
        obtain ⟨e0, e1, e2, e3, e4, e5⟩ := six_cells HD.out.2.2.b2
        obtain ⟨g0, g1, g2, g3, g4, g5⟩ := six_cells HD.out.2.2.b1
        have f0 := frozen_of_row _ (w.heap.size + 1) 0 _ _ HD.out.2.2.b1
        have f1 := frozen_of_row _ (w.heap.size + 1) 1 _ _ HD.out.2.2.b1
        have f2 := frozen_of_row _ (w.heap.size + 1) 2 _ _ HD.out.2.2.b1
        have f3 := frozen_of_row _ (w.heap.size + 1) 3 _ _ HD.out.2.2.b1
        have f4 := frozen_of_row _ (w.heap.size + 1) 4 _ _ HD.out.2.2.b1
        have f5 := frozen_of_row _ (w.heap.size + 1) 5 _ _ HD.out.2.2.b1
        obtain ⟨q, qc, rfl⟩ := slice_form HD.out.2.2.own
        clear hDD hke hk hg
        go_wp2_with fail
        refine ret_cell1A (p := 4) rfl _ rfl _ (load_nd (six_heap HD.out.2.2.b1)) ⟨_, rfl, ?_, ?_⟩
        · exact HD.out.2.2.fin HDD.out _ _ _ _ _ _
        · exact below_set6 HD.out.2.2.below (by omega)
end Go.Proofs.YtkpddjbdmjbefaaGreatDoor
