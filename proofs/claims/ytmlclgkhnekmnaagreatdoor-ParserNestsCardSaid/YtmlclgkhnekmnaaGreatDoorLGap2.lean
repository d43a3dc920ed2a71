/- Part of a proof. -/
import Derived.Test.YtmlclgkhnekmnaaGreatDoorLFind
import Derived.Test.YtmlclgkhnekmnaaGreatDoorLPlain4
namespace Go.Proofs.YtmlclgkhnekmnaaGreatDoor
open Go.RowKit
theorem Tryz.info65 : (Tryz.prog.info? 65).map (fun i => (i.zero, i.size, i.bytes)) = some (some (.agg #[.int .i64 0, .string ⟨#[]⟩, .int .i64 0, .int .i64 0]), 4, 40) := by kernel_rfl
def tcell (t : Tok) : List Value := [.int .i64 (t.1 : Int), .string (txt t.2.1), .int .i64 (t.2.2.1 : Int), .int .i64 (t.2.2.2 : Int)]
def tcells (l : List Tok) : List Value := l.flatMap tcell
theorem tcells_snoc (l : List Tok) (t : Tok) : tcells (l ++ [t]) = tcells l ++ tcell t := by simp [tcells]
def TReads (W : World) (A : Option Addr) (ts : List Tok) : Prop :=
 0 < ts.length → ∃ g, A = some ⟨g, 0, none⟩ ∧ ∀ i t, ts[i]? = some t → W.cell? ⟨g, i * 4, none⟩ = some (.int .i64 (t.1 : Int)) ∧ W.cell? ⟨g, i * 4 + 1, none⟩ = some (.string (txt t.2.1)) ∧ W.cell? ⟨g, i * 4 + 2, none⟩ = some (.int .i64 (t.2.2.1 : Int)) ∧ W.cell? ⟨g, i * 4 + 3, none⟩ = some (.int .i64 (t.2.2.2 : Int))
theorem tcells_at : ∀ (ts : List Tok) (i : Nat) (t : Tok) (f : Nat), ts[i]? = some t → f < 4 → (tcells ts)[i * 4 + f]? = (tcell t)[f]?
 | [], i, t, f, h, _ => by simp at h
 | q :: ts, 0, t, f, h, hf => by
  obtain rfl : q = t := by simpa using h
  show (tcell q ++ tcells ts)[0 * 4 + f]? = _
  rw [Nat.zero_mul, Nat.zero_add, List.getElem?_append_left (by simpa [tcell] using hf)]
 | q :: ts, i + 1, t, f, h, hf => by
  have := tcells_at ts i t f (by simpa using h) hf
  show (tcell q ++ tcells ts)[(i + 1) * 4 + f]? = _
  rw [List.getElem?_append_right (by simp [tcell]; omega), show (i + 1) * 4 + f - (tcell q).length = i * 4 + f by simp [tcell]; omega, this]
theorem treads_of {W : World} {base : Nat} {v : Value} {e : TypeId} {ts : List Tok} (h : W.ownsRow base e 4 v ts.length (tcells ts)) : ∃ A cap, v = .slice A ts.length cap ∧ TReads W A ts := by
 rcases h.2 with ⟨rfl, h0⟩ | ⟨g, cap, cur, rfl, _, hg, _, _, _, ht⟩
 · exact ⟨none, 0, by rw [h0], fun hp => by omega⟩
 · refine ⟨_, cap, rfl, fun _ => ⟨g, rfl, fun i t hp => ?_⟩⟩
   have hi : i < ts.length := (List.getElem?_eq_some_iff.1 hp).1
   have key : ∀ f x, f < 4 → (tcell t)[f]? = some x → W.cell? ⟨g, i * 4 + f, none⟩ = some x := by
    intro f x hf hx
    rw [cell_at hg, ← Array.getElem?_toList]
    have h1 := tcells_at ts i t f hp hf
    rw [hx, ← ht, List.getElem?_take, if_pos (by omega)] at h1
    exact h1
   exact ⟨key 0 _ (by omega) rfl, key 1 _ (by omega) rfl, key 2 _ (by omega) rfl, key 3 _ (by omega) rfl⟩
theorem owns_row_keep {W W' : World} {B : Nat} {e : TypeId} {size n : Nat} {v : Value} {xs : List Value} (h : W.ownsRow B e size v n xs) (hk : ∀ k, v.ownBlock = some k → W'.heap[k]? = W.heap[k]?) : W'.ownsRow B e size v n xs := by
 refine ⟨h.1, ?_⟩
 rcases h.2 with h0 | ⟨g, cap, cur, rfl, hB, hg, r⟩
 · exact .inl h0
 · exact .inr ⟨g, cap, cur, rfl, hB, (hk g rfl).trans hg, r⟩
structure LSt (B : Nat) (W : World) (L : Nat) (acc : List Tok) : Prop where
 lt : L < B
 sz : B ≤ W.heap.size
 cell : ∃ v, W.cell? ⟨L, 0, none⟩ = some v ∧ W.frozen? ⟨L, 0, none⟩ = false ∧ W.ownsRow B 65 4 v acc.length (tcells acc)
 kinds : ∀ t ∈ acc, 1 ≤ t.1 ∧ t.1 ≤ 7
theorem LSt.below {B : Nat} {W W' : World} {L : Nat} {acc : List Tok} (h : LSt B W L acc) (hb : Below W.heap.size W W') : LSt B W' L acc := by
 obtain ⟨v, h1, h2, h3⟩ := h.cell
 have hL : L < W.heap.size := Nat.lt_of_lt_of_le h.lt h.sz
 refine ⟨h.lt, Nat.le_trans h.sz hb.size, ⟨v, cell_keep2 hb h1, ?_, ownsRow_below h3 hb⟩, h.kinds⟩
 rw [hb.frozen (p := ⟨L, 0, none⟩) hL]; exact h2
theorem frozen_block {w w' : World} {a : Nat} (h : w'.heap[a]? = w.heap[a]?) (i : Nat) : w'.frozen? ⟨a, i, none⟩ = w.frozen? ⟨a, i, none⟩ := by
 simp only [World.frozen?, h]
theorem lset {B : Nat} {W W' : World} {L : Nat} {acc acc' : List Tok} {v v' : Value} (h : LSt B W L acc) (hown : W.ownsRow B 65 4 v acc.length (tcells acc)) (hg : W.grownBy W' v.ownBlock) (hown' : W'.ownsRow B 65 4 v' acc'.length (tcells acc')) (hk : ∀ t ∈ acc', 1 ≤ t.1 ∧ t.1 ≤ 7) : LSt B (W'.setCell ⟨L, 0, none⟩ v') L acc' ∧ Below L W (W'.setCell ⟨L, 0, none⟩ v') := by
 obtain ⟨u, h1, h2, h3⟩ := h.cell
 have hL : L < W.heap.size := Nat.lt_of_lt_of_le h.lt h.sz
 have hblk : W'.heap[L]? = W.heap[L]? := hg.block L hL (own_far hown L (.inl h.lt))
 have c1 : W'.cell? ⟨L, 0, none⟩ = some u := (cell_block hblk 0).trans h1
 have c2 : W'.frozen? ⟨L, 0, none⟩ = false := (frozen_block hblk 0).trans h2
 have hbl : Below L W W' := Below.grown (Below.refl _ _) hg (Nat.le_of_lt hL) (fun j ej => by have := (World.ownsRow.lt hown j ej).1; have := h.lt; omega)
 have hkeep : ∀ k, v'.ownBlock = some k → k ≠ L := fun k ek e => by
  have := (World.ownsRow.lt hown' k ek).1
  have := h.lt
  omega
 refine ⟨⟨h.lt, ?_, ⟨v', ?_, ?_, ?_⟩, hk⟩, hbl.setCell (Nat.le_refl _) _⟩
 · rw [World.size_setCell]; exact Nat.le_trans h.sz hg.size
 · exact World.cell?_setCell_same' _ _ _ (by rw [c1]; rfl)
 · rw [World.frozen?_setCell]; exact c2
 · exact owns_row_keep hown' (fun k ek => heap_setCell_other _ _ _ _ (hkeep k ek))
end Go.Proofs.YtmlclgkhnekmnaaGreatDoor
namespace Go.Proofs.YtmlclgkhnekmnaaGreatDoor
open Go.RowKit
theorem ends_snoc (init : List Tok) (t : Tok) : ends (init ++ [t]) = if wants t then init ++ [t] ++ [(7, [], t.2.2.2, t.2.2.2)] else init ++ [t] :=
 ends_last _ t (by rw [List.getLast?_append, List.getLast?_singleton]; rfl)
set_option maxRecDepth 100000 in
set_option maxHeartbeats 1000000 in
theorem lineEnds_any (B L : Nat) (acc : List Tok) (W : World) (h : LSt B W L acc) (hl : acc.length ≤ 3000000) : Calls Tryz.prog 59 #[.pointer (some ⟨L, 0, none⟩)] W fun e W' => e = .returned (.tuple #[]) ∧ LSt B W' L (ends acc) ∧ Below L W W' := by
 obtain ⟨i0, hi, hz0, hz1, hz2⟩ := info_parts Tryz.info65
 obtain ⟨v, h1, h2, h3⟩ := h.cell
 obtain ⟨A, cap, rfl, hr⟩ := treads_of h3
 have HL := Lib.hid h
 have HO := Lib.hid h3
 rcases List.eq_nil_or_concat acc with hnil | ⟨init, t, hcon⟩
 · subst hnil
   clear h hr h2 h3 hi hz0 hz1 hz2
   go_enter Tryz.func59, Tryz.ntmps59
   go_wp2_with fail
   go_end0
   exact ⟨rfl, HL.out, Below.refl _ _⟩
 · obtain ⟨n, hn⟩ : ∃ n, init.length = n := ⟨_, rfl⟩
   have hlen : acc.length = n + 1 := by rw [hcon]; simp [hn]
   obtain ⟨g, hA, hc⟩ := hr (by omega)
   subst hA
   obtain ⟨c0, c1, c2, c3⟩ := hc n t (by rw [hcon, ← hn]; simp)
   have hk := h.kinds t (by rw [hcon]; simp)
   have HW := Lib.hid (fun (W : World) => wants_any t hk.1 hk.2 W)
   have HE := ends_snoc init t
   rw [← show acc = init ++ [t] from by rw [hcon]; simp] at HE
   have HEE := Lib.hid HE
   have HKK := Lib.hid h.kinds
   rw [hlen] at h1 HO
   have d : decide (0 < (n : Int) + 1) = true := by rw [decide_eq_true_eq]; omega
   have hn3 : (n : Int) ≤ 3000000 := by omega
   have HLN := Lib.hid hlen
   obtain ⟨q, x, a, b⟩ := t
   simp only at c0 c1 c2 c3 HW
   clear h hr h3 hc hk HE hn hcon hlen hl
   cases hw : wants (q, x, a, b) with
   | false =>
    rw [hw] at HW
    have HEE2 : Hid (ends acc = acc) := Lib.hid (by rw [HEE.out, hw]; rfl)
    clear hw HEE hi hz0 hz1 hz2 h2
    go_enter Tryz.func59, Tryz.ntmps59
    go_wp2_with fail
    refine (HW.out _).mono ?_
    rintro e w1 ⟨rfl, hb⟩
    have HB := Lib.hid hb
    clear hb
    go_wp2_with fail
    go_end0
    rw [HEE2.out]
    exact ⟨rfl, HL.out.below HB.out, HB.out.mono (Nat.le_of_lt (Nat.lt_of_lt_of_le HL.out.lt HL.out.sz))⟩
   | true =>
    rw [hw] at HW
    have HEE2 : Hid (ends acc = acc ++ [(7, [], b, b)]) := Lib.hid (by rw [HEE.out, hw]; rfl)
    clear hw HEE
    go_enter Tryz.func59, Tryz.ntmps59
    go_wp2_with fail
    refine (HW.out _).mono ?_
    rintro e w1 ⟨rfl, hb⟩
    have HB := Lib.hid hb
    replace h1 := cell_keep2 hb h1
    replace c3 := cell_keep2 hb c3
    have hf : w1.frozen? ⟨L, 0, none⟩ = false := by rw [hb.frozen (p := ⟨L, 0, none⟩) (Nat.lt_of_lt_of_le HL.out.lt HL.out.sz)]; exact h2
    have HO1 := Lib.hid (ownsRow_below HO.out hb)
    have HL1 := Lib.hid (HL.out.below hb)
    have HWS := Lib.hid HL1.out.sz
    clear hb h2 c0 c1 c2
    go_wp2_with (at_builtin; refine wpList_append_own2 _ rfl _ _ 59 rfl B 65 i0 (.agg #[.int .i64 0, .string ⟨#[]⟩, .int .i64 0, .int .i64 0]) 4 40 Tryz.underlying59 hi hz0 hz1 hz2 rfl (by decide) _ _ _ rfl (World.ownsRow.alloc HO1.out _) ⟨w1.heap.size, 0, none⟩ 1 1 [.int .i64 7, .string ⟨#[]⟩, .int .i64 (b : Int), .int .i64 (b : Int)] rfl rfl (new_cell _ _ _) ?c2 ?c3 ?c4 ?c5 ?_)
    case c2 => simp [Value.oneCell']
    case c3 => unfold maxLen; omega
    case c4 => omega
    case c5 => rw [World.size_alloc]; have := HWS.out; omega
    intro v2 w2 hown2 hgr2 _
    have hk2 : ∀ t ∈ acc ++ [((7, [], b, b) : Tok)], 1 ≤ t.1 ∧ t.1 ≤ 7 := fun t ht => by
     rcases List.mem_append.1 ht with ht | ht
     · exact HKK.out t ht
     · obtain rfl : t = (7, [], b, b) := by simpa using ht
       exact ⟨by show 1 ≤ 7; decide, by show 7 ≤ 7; decide⟩
    have kk : Below w1.heap.size w1 (w1.alloc (.cells #[.int .i64 7, .string ⟨#[]⟩, .int .i64 (b : Int), .int .i64 (b : Int)] 65)) := (Below.refl _ _).alloc (Nat.le_refl _) _
    have hown3 : w2.ownsRow B 65 4 v2 (acc ++ [((7, [], b, b) : Tok)]).length (tcells (acc ++ [((7, [], b, b) : Tok)])) := by
     rw [tcells_snoc, List.length_append, List.length_singleton, HLN.out]
     exact hown2
    have hO2 := World.ownsRow.alloc HO1.out (.cells #[.int .i64 7, .string ⟨#[]⟩, .int .i64 (b : Int), .int .i64 (b : Int)] 65)
    rw [← HLN.out] at hO2
    have hset := lset (HL1.out.below kk) hO2 (by rw [HLN.out]; exact hgr2) hown3 hk2
    have HS := Lib.hid hset
    have hLb : L < w1.heap.size := Nat.lt_of_lt_of_le HL1.out.lt HL1.out.sz
    have hc2 : w2.cell? ⟨L, 0, none⟩ = some (.slice (some ⟨g, 0, none⟩) (n + 1) cap) := by
     rw [cell_block (hgr2.block L (by rw [World.size_alloc]; omega) (own_far hO2 L (.inl HL1.out.lt) ∘ fun e => by rw [HLN.out]; exact e)) 0]
     exact cell_keep2 kk h1
    have hf2 : w2.frozen? ⟨L, 0, none⟩ = false := by
     rw [frozen_block (hgr2.block L (by rw [World.size_alloc]; omega) (own_far hO2 L (.inl HL1.out.lt) ∘ fun e => by rw [HLN.out]; exact e)) 0]
     exact (kk.frozen (p := ⟨L, 0, none⟩) hLb).trans hf
    obtain ⟨A2, cp2, rfl⟩ := slice_form hown3
    have HBL : Hid (Below L W (w1.alloc (.cells #[.int .i64 7, .string ⟨#[]⟩, .int .i64 (b : Int), .int .i64 (b : Int)] 65))) := Lib.hid ((HB.out.trans (kk.mono HB.out.size)).mono (Nat.le_of_lt (Nat.lt_of_lt_of_le HL.out.lt HL.out.sz)))
    clear hset hO2 hown3 hown2 hgr2 hk2 kk h1 hf hi hz0 hz1 hz2
    go_wp2_with fail
    go_end0
    have hs := HS.out
    rw [List.length_append, List.length_singleton] at hs
    rw [HEE2.out]
    exact ⟨rfl, hs.1, HBL.out.trans (hs.2.mono (Nat.le_refl _))⟩
end Go.Proofs.YtmlclgkhnekmnaaGreatDoor
namespace Go.Proofs.YtmlclgkhnekmnaaGreatDoor
open Go.RowKit
theorem gap_nl (s : ByteArray) (i : Nat) (h : i < s.size) (hx : s[i].toNat = 10) : gap (rest s i) = ((gap (rest s (i + 1))).1 + 1, true) := by
 rw [rest_cons s i h]
 unfold gap
 rw [gapB, if_pos hx]
theorem pre_com (s : ByteArray) (i : Nat) (h : i < s.size) : Lib.hasPrefix (rest s i) [47, 47] = (fst (is1 47) (rest s i) && fst (is1 47) (rest s (i + 1))) := by
 rw [rest_cons s i h]
 cases hr : rest s (i + 1) with
 | nil => simp [Lib.hasPrefix, fst, List.isPrefixOf]
 | cons d t =>
  unfold Lib.hasPrefix fst is1
  simp only [List.isPrefixOf_cons_cons, List.isPrefixOf_nil_left, Bool.and_true, List.contains_cons, List.contains_nil, Bool.or_false]
  rw [BEq.comm (a := s[i]), BEq.comm (a := d)]
theorem gap_slash (s : ByteArray) (i : Nat) (h : i < s.size) (hx : s[i].toNat ≠ 10) (hp : Lib.hasPrefix (rest s i) [47, 47] = true) : gap (rest s i) = ((gap (rest s (i + run notNl (rest s i)))).1 + run notNl (rest s i), (gap (rest s (i + run notNl (rest s i)))).2) ∧ 1 ≤ run notNl (rest s i) := by
 rw [pre_com s i h] at hp
 have hcom := gap_com (rest s i)
 rw [rest_drop] at hcom
 have h1 : gap (rest s i) = gapB true (rest s i) := by
  rw [rest_cons s i h] at hp ⊢
  unfold gap
  rw [gapB, gapB, if_neg hx, if_neg (by simp), if_pos hp, if_neg hx, if_pos rfl]
 refine ⟨by rw [h1, hcom]; rfl, ?_⟩
 rw [rest_cons s i h, run, if_pos (by
  unfold notNl
  have : (s[i] == 10) = false := by
   rw [Bool.eq_false_iff]
   intro e
   apply hx
   rw [beq_iff_eq] at e
   rw [e]; rfl
  rw [this]; rfl)]
 omega
theorem gap_blank (s : ByteArray) (i : Nat) (h : i < s.size) (hx : s[i].toNat ≠ 10) (hp : Lib.hasPrefix (rest s i) [47, 47] = false) (hb : isBk s[i] = true) : gap (rest s i) = ((gap (rest s (i + 1))).1 + 1, (gap (rest s (i + 1))).2) := by
 rw [pre_com s i h] at hp
 rw [rest_cons s i h] at hp ⊢
 unfold gap
 rw [gapB, if_neg hx, if_neg (by simp), if_neg (by rw [hp]; simp), if_pos hb]
theorem gap_stop (s : ByteArray) (i : Nat) (h : i < s.size) (hx : s[i].toNat ≠ 10) (hp : Lib.hasPrefix (rest s i) [47, 47] = false) (hb : isBk s[i] = false) : gap (rest s i) = (0, false) := by
 rw [pre_com s i h] at hp
 rw [rest_cons s i h] at hp ⊢
 unfold gap
 rw [gapB, if_neg hx, if_neg (by simp), if_neg (by rw [hp]; simp), if_neg (by rw [hb]; simp)]
theorem ends_len (acc : List Tok) : (ends acc).length ≤ acc.length + 1 := by
 unfold ends
 split
 · omega
 · split
   · rw [List.length_append]; simp
   · omega
theorem endIf_len (b : Bool) (acc : List Tok) : (endIf b acc).length ≤ acc.length + 1 := by
 unfold endIf
 split
 · exact ends_len acc
 · omega
theorem ends_endIf (b : Bool) (acc : List Tok) : ends (endIf b acc) = endIf true acc := by
 cases b with
 | false => rfl
 | true => exact ends_ends acc
theorem blank_any (c : UInt8) (w : World) : Calls Tryz.prog 87 #[.string ⟨#[32, 9, 13]⟩, .int .u8 (c.toNat : Int)] w fun e w' => e = .returned (.int .i64 (Lib.indexByte [32, 9, 13] c)) ∧ w = w' := by
 have := Tryz.strings_IndexByte ⟨#[32, 9, 13]⟩ (c.toNat : Int) w
 rw [byte_back] at this
 exact this.mono fun e w' ⟨h1, h2⟩ => ⟨h1, h2.symm⟩
set_option maxRecDepth 100000 in
set_option maxHeartbeats 1000000 in
theorem pastGap_any (B L : Nat) (s : ByteArray) (k : Nat) (hk : k ≤ s.size) (hs : s.size ≤ 1000000) (acc : List Tok) (W : World) (h : LSt B W L acc) (hl : acc.length ≤ 2900000) : Calls Tryz.prog 61 #[.string s, .int .i64 k, .func (.func 59) #[] #[.pointer (some ⟨L, 0, none⟩)]] W fun e W' => e = .returned (.int .i64 ((k + (gap (rest s k)).1 : Nat) : Int)) ∧ LSt B W' L (endIf (gap (rest s k)).2 acc) ∧ Below L W W' := by
 have HE := Lib.hid (fun (b : Bool) (W : World) (h : LSt B W L (endIf b acc)) => lineEnds_any B L (endIf b acc) W h (by have := endIf_len b acc; omega))
 have HL := Lib.hid h
 have HT := Lib.hid (fun b => ends_endIf b acc)
 clear h hl
 go_enter Tryz.func61, Tryz.ntmps61
 go_wp2_with fail
 go_loopw [1] (fun u wr => ∃ (i : Nat) (b0 : Bool), i ≤ s.size ∧ u = .int .i64 i ∧ Hid (LSt B wr L (endIf b0 acc)) ∧ Hid (Below L W wr) ∧ Hid (i + (gap (rest s i)).1 = k + (gap (rest s k)).1 ∧ (b0 || (gap (rest s i)).2) = (gap (rest s k)).2)) (fun u _ => s.size - (intOf u).toNat)
 case atStart => exact ⟨k, false, hk, rfl, HL, Lib.hid (Below.refl _ _), Lib.hid ⟨rfl, by simp⟩⟩
 case round =>
  obtain ⟨i, b0, hi, rfl, hst, hb, hrel⟩ := hrel
  by_cases hlt : i < s.size
  · obtain ⟨x, hx⟩ : ∃ x, s[i].toNat = x := ⟨_, rfl⟩
    by_cases h10 : x = 10
    · have q1 : (((x : Nat) : Int) == 10) = true := by simp only [beq_iff_eq]; omega
      have HG := Lib.hid (gap_nl s i hlt (by rw [hx]; exact h10))
      have HR : Hid (i + 1 + (gap (rest s (i + 1))).1 = k + (gap (rest s k)).1 ∧ (true || (gap (rest s (i + 1))).2) = (gap (rest s k)).2) := Lib.hid (by
       have := hrel.out
       rw [HG.out] at this
       refine ⟨by rw [← this.1]; simp only; omega, ?_⟩
       rw [← this.2]; simp)
      clear h10 HG
      go_wp2_with fail
      refine (HE.out b0 _ hst.out).mono ?_
      rintro e w1 ⟨rfl, hst1, hb1⟩
      rw [HT.out b0] at hst1
      have HS1 := Lib.hid hst1
      have HB1 := Lib.hid (hb.out.trans hb1)
      clear hst1 hb1
      go_wp2_with fail
      go_roundw
      case rel => exact ⟨i + 1, true, by omega, by go_num, HS1, HB1, HR⟩
      case measure => simp [intOf]; omega
    · have q1 : (((x : Nat) : Int) == 10) = false := by simp only [beq_eq_false_iff_ne, ne_eq]; omega
      have hx10 : s[i].toNat ≠ 10 := by rw [hx]; exact h10
      have HP := Lib.hid (fun W => hasPrefix_any s i (Nat.le_of_lt hlt) ⟨#[47, 47]⟩ W)
      cases hp : Lib.hasPrefix (rest s i) [47, 47] with
      | true =>
       have HP2 : Hid (∀ W, Calls Tryz.prog 85 #[.string (s.extract i s.size), .string ⟨#[47, 47]⟩] W fun e w' => e = .returned (.bool true) ∧ W = w') := Lib.hid (fun W => by have := HP.out W; rw [← hp]; exact this)
       obtain ⟨hg1, hg2⟩ := gap_slash s i hlt hx10 hp
       have HC := Lib.hid (fun W => pastComment_any s i (Nat.le_of_lt hlt) hs W)
       have hle := run_le notNl (rest s i)
       rw [rest_len] at hle
       have HG := Lib.hid hg1
       clear hg1 hp HP h10 hx10
       generalize run notNl (rest s i) = n at *
       have HR : Hid (i + n + (gap (rest s (i + n))).1 = k + (gap (rest s k)).1 ∧ (b0 || (gap (rest s (i + n))).2) = (gap (rest s k)).2) := Lib.hid (by
        have := hrel.out
        rw [HG.out] at this
        refine ⟨by rw [← this.1]; simp only; omega, ?_⟩
        rw [← this.2])
       obtain ⟨t, ht⟩ : ∃ t : Nat, t = i + n := ⟨_, rfl⟩
       rw [← ht] at HC HR
       have ht1 : i + 1 ≤ t := by omega
       have ht2 : t ≤ s.size := by omega
       clear ht HG hle hg2
       go_wp2_with fail
       refine (HP2.out _).mono ?_
       rintro e w' ⟨rfl, rfl⟩
       go_wp2_with fail
       refine (HC.out _).mono ?_
       rintro e w' ⟨rfl, rfl⟩
       go_wp2_with fail
       go_roundw
       case rel => exact ⟨t, b0, by omega, by first | rfl | (congr 1; omega), hst, hb, HR⟩
       case measure => simp [intOf]; omega
      | false =>
       have HP2 : Hid (∀ W, Calls Tryz.prog 85 #[.string (s.extract i s.size), .string ⟨#[47, 47]⟩] W fun e w' => e = .returned (.bool false) ∧ W = w') := Lib.hid (fun W => by have := HP.out W; rw [← hp]; exact this)
       have HI := Lib.hid (fun W => blank_any s[i] W)
       rw [hx] at HI
       have hib : decide (0 ≤ Lib.indexByte [32, 9, 13] s[i]) = isBk s[i] := index_has [32, 9, 13] s[i]
       cases hbk : isBk s[i] with
       | true =>
        have HG := Lib.hid (gap_blank s i hlt hx10 hp hbk)
        rw [hbk, decide_eq_true_eq] at hib
        have HR : Hid (i + 1 + (gap (rest s (i + 1))).1 = k + (gap (rest s k)).1 ∧ (b0 || (gap (rest s (i + 1))).2) = (gap (rest s k)).2) := Lib.hid (by
         have := hrel.out
         rw [HG.out] at this
         refine ⟨by rw [← this.1]; simp only; omega, ?_⟩
         rw [← this.2])
        generalize Lib.indexByte [32, 9, 13] s[i] = z at *
        have q2 : decide (z < 0) = false := by rw [decide_eq_false_iff_not]; omega
        clear HG hbk hp HP h10 hx10
        go_wp2_with fail
        refine (HP2.out _).mono ?_
        rintro e w' ⟨rfl, rfl⟩
        go_wp2_with fail
        refine (HI.out _).mono ?_
        rintro e w' ⟨rfl, rfl⟩
        go_wp2_with fail
        go_roundw
        case rel => exact ⟨i + 1, b0, by omega, by go_num, hst, hb, HR⟩
        case measure => simp [intOf]; omega
       | false =>
        have HG := Lib.hid (gap_stop s i hlt hx10 hp hbk)
        rw [hbk, decide_eq_false_iff_not] at hib
        have HR : Hid (i = k + (gap (rest s k)).1 ∧ b0 = (gap (rest s k)).2) := Lib.hid (by
         have := hrel.out
         rw [HG.out] at this
         exact ⟨by rw [← this.1]; simp only; omega, by rw [← this.2]; simp⟩)
        generalize Lib.indexByte [32, 9, 13] s[i] = z at *
        have q2 : decide (z < 0) = true := by rw [decide_eq_true_eq]; omega
        clear HG hbk hp HP h10 hx10
        go_wp2_with fail
        refine (HP2.out _).mono ?_
        rintro e w' ⟨rfl, rfl⟩
        go_wp2_with fail
        refine (HI.out _).mono ?_
        rintro e w' ⟨rfl, rfl⟩
        go_wp2_with fail
        go_ret
        exact ⟨ret_i64 (by have := HR.out.1; omega), by rw [← HR.out.2]; exact hst.out, hb.out⟩
  · have HG : Hid (gap (rest s i) = (0, true)) := Lib.hid (by rw [rest_end s i hlt]; rfl)
    have HR : Hid (s.size = k + (gap (rest s k)).1 ∧ true = (gap (rest s k)).2) := Lib.hid (by
     have := hrel.out
     rw [HG.out] at this
     exact ⟨by rw [← this.1]; simp only; omega, by rw [← this.2]; simp⟩)
    clear HG
    go_wp2_with fail
    refine (HE.out b0 _ hst.out).mono ?_
    rintro e w1 ⟨rfl, hst1, hb1⟩
    rw [HT.out b0] at hst1
    have HS1 := Lib.hid hst1
    have HB1 := Lib.hid (hb.out.trans hb1)
    clear hst1 hb1
    go_wp2_with fail
    go_ret
    exact ⟨ret_i64 (by have := HR.out.1; omega), by rw [← HR.out.2]; exact HS1.out, HB1.out⟩
end Go.Proofs.YtmlclgkhnekmnaaGreatDoor
