/-
  emendref02's Valid, Units, Byte, UnitsAt AT EVERY TEXT of at most 1000000 bytes: what they return; no memory that was there turns. Condition: the text's length.
-/
import Derived.Test.YtnmbclkpncjebaaPieces
namespace Go.Proofs.Ytnmbclkpncjebaa
open Go.RowKit

/-- A piece: where it begins and ends, its units, has it a point? -/
abbrev Pc := Nat × Nat × Nat × Bool
def allB : List Pc → Bool
  | [] => true
  | p :: l => p.2.2.2 && allB l
def sumU : List Pc → Nat
  | [] => 0
  | p :: l => p.2.2.1 + sumU l
def byteP : List Pc → Int → Int → Nat → Nat
  | [], _, _, z => z
  | p :: l, a, u, z => if a ≤ u ∧ u < a + (p.2.2.1 : Int) then p.1 else byteP l (a + (p.2.2.1 : Int)) u z
def unitsP : List Pc → Int → Nat
  | [], _ => 0
  | p :: l, x => (if (p.2.1 : Int) ≤ x then p.2.2.1 else 0) + unitsP l x
theorem pieces_len (l : List UInt8) : ∀ k, (pieces l k).length ≤ l.length := by
  induction l using by_pieces with
  | nil => intro k; rw [pieces_nil]; exact Nat.le_refl _
  | cons l h ih =>
    intro k
    rw [pieces_cons l k h, List.length_cons]
    have h1 := ih (k + wd l)
    have h2 := drop_lt l h
    omega
theorem allB_pieces (l : List UInt8) : ∀ k, allB (pieces l k) = valid l := by
  induction l using by_pieces with
  | nil => intro k; rw [pieces_nil, valid_nil]; rfl
  | cons l h ih => intro k; rw [pieces_cons l k h, valid_cons l h, ← ih (k + wd l)]; rfl
theorem sumU_pieces (l : List UInt8) : ∀ k, sumU (pieces l k) = units l := by
  induction l using by_pieces with
  | nil => intro k; rw [pieces_nil, units_nil]; rfl
  | cons l h ih => intro k; rw [pieces_cons l k h, units_cons l h, ← ih (k + wd l)]; rfl
theorem byteP_pieces (l : List UInt8) : ∀ (k : Nat) (a u : Int), a ≤ u → byteP (pieces l k) a u (k + l.length) = k + byteAt l (u - a) := by
  induction l using by_pieces with
  | nil => intro k a u _; rw [pieces_nil, byteAt_nil]; rfl
  | cons l h ih =>
    intro k a u hau
    rw [pieces_cons l k h]
    have hw := wd_le l h
    by_cases hc : u < a + (un l : Int)
    · rw [byteAt_lt l _ h (by omega)]
      show (if a ≤ u ∧ u < a + (un l : Int) then k else _) = _
      rw [if_pos ⟨hau, hc⟩]
      rfl
    · rw [byteAt_ge l _ h (by omega)]
      show (if a ≤ u ∧ u < a + (un l : Int) then k else _) = _
      rw [if_neg (fun x => hc x.2)]
      have := ih (k + wd l) (a + un l) u (by omega)
      rw [List.length_drop, show k + wd l + (l.length - wd l) = k + l.length by omega, show u - (a + (un l : Int)) = u - a - un l by omega] at this
      show byteP _ (a + (un l : Int)) u (k + l.length) = _
      rw [this]
      omega
theorem unitsP_pieces (l : List UInt8) : ∀ (k : Nat) (x : Int), unitsP (pieces l k) x = unitsAt l (x - k) := by
  induction l using by_pieces with
  | nil => intro k x; rw [pieces_nil, unitsAt_nil]; rfl
  | cons l h ih =>
    intro k x
    rw [pieces_cons l k h]
    show (if ((k + wd l : Nat) : Int) ≤ x then un l else 0) + unitsP (pieces (l.drop (wd l)) (k + wd l)) x = _
    rw [ih]
    by_cases hc : ((k + wd l : Nat) : Int) ≤ x
    · rw [if_pos hc, unitsAt_ge l _ h (by omega), show x - ((k + wd l : Nat) : Int) = x - k - wd l by omega]
    · rw [if_neg hc, unitsAt_lt l _ h (by omega), unitsAt_neg _ _ (by omega)]
theorem unitsP_le (l : List UInt8) (k : Nat) (x : Int) : unitsP (pieces l k) x ≤ units l := by rw [unitsP_pieces]; exact unitsAt_le _ _

/-- A slice that reads as pieces. -/
def Reads (W : World) (A : Option Addr) (ps : List Pc) : Prop :=
  0 < ps.length → ∃ g, A = some ⟨g, 0, none⟩ ∧ ∀ i p, ps[i]? = some p → W.cell? ⟨g, i * 4, none⟩ = some (.int .i64 (p.1 : Int)) ∧ W.cell? ⟨g, i * 4 + 1, none⟩ = some (.int .i64 (p.2.1 : Int)) ∧ W.cell? ⟨g, i * 4 + 2, none⟩ = some (.int .i64 (p.2.2.1 : Int)) ∧ W.cell? ⟨g, i * 4 + 3, none⟩ = some (.bool p.2.2.2)
theorem pcells_at : ∀ (ps : List Pc) (i : Nat) (p : Pc) (f : Nat), ps[i]? = some p → f < 4 → (pcells ps)[i * 4 + f]? = (pcell p)[f]?
  | [], i, p, f, h, _ => by simp at h
  | q :: ps, 0, p, f, h, hf => by
    obtain rfl : q = p := by simpa using h
    show (pcell q ++ pcells ps)[0 * 4 + f]? = _
    rw [Nat.zero_mul, Nat.zero_add, List.getElem?_append_left (by simpa [pcell] using hf)]
  | q :: ps, i + 1, p, f, h, hf => by
    have := pcells_at ps i p f (by simpa using h) hf
    show (pcell q ++ pcells ps)[(i + 1) * 4 + f]? = _
    rw [List.getElem?_append_right (by simp [pcell]; omega), show (i + 1) * 4 + f - (pcell q).length = i * 4 + f by simp [pcell]; omega, this]
theorem reads_of {W : World} {base : Nat} {v : Value} {ps : List Pc} (h : W.ownsRow base 74 4 v ps.length (pcells ps)) : ∃ A cap, v = .slice A ps.length cap ∧ Reads W A ps := by
  rcases h.2 with ⟨rfl, h0⟩ | ⟨g, cap, cur, rfl, _, hg, _, _, _, ht⟩
  · exact ⟨none, 0, by rw [h0], fun hp => by omega⟩
  · refine ⟨_, cap, rfl, fun _ => ⟨g, rfl, fun i p hp => ?_⟩⟩
    have hi : i < ps.length := (List.getElem?_eq_some_iff.1 hp).1
    have key : ∀ f x, f < 4 → (pcell p)[f]? = some x → W.cell? ⟨g, i * 4 + f, none⟩ = some x := by
      intro f x hf hx
      rw [cell_at hg, ← Array.getElem?_toList]
      have h1 := pcells_at ps i p f hp hf
      rw [hx, ← ht, List.getElem?_take, if_pos (by omega)] at h1
      exact h1
    exact ⟨key 0 _ (by omega) rfl, key 1 _ (by omega) rfl, key 2 _ (by omega) rfl, key 3 _ (by omega) rfl⟩
theorem drop_at {ps : List Pc} {i : Nat} (h : i < ps.length) : ps.drop i = ps[i] :: ps.drop (i + 1) := List.drop_eq_getElem_cons h
set_option maxRecDepth 100000 in
set_option maxHeartbeats 1000000 in
theorem refUnitsAt_any (s : ByteArray) (x : Int) (hs : s.size ≤ 1000000) (w : World) : Calls Try.prog 36 #[.string s, .int .i64 x] w fun e w' => e = .returned (.int .i64 (unitsAt s.data.toList x)) ∧ Below w.heap.size w w' := by
  have hlen : (pieces s.data.toList 0).length ≤ s.size := pieces_len s.data.toList 0
  have hle := units_le s.data.toList
  have hsz : s.data.toList.length = s.size := rfl
  rw [hsz] at hle
  have HL := Lib.hid hle
  clear hsz hle
  have hv := unitsP_pieces s.data.toList 0 x
  rw [show x - ((0 : Nat) : Int) = x by omega] at hv
  have HV := Lib.hid hv
  have HX := Lib.hid (unitsAt_le s.data.toList x)
  clear hv
  have HP := Lib.hid (pieces_any s hs w)
  go_enter Try.func36, Try.ntmps36
  go_wp2_with fail
  refine HP.out.mono ?_
  rintro e w1 ⟨v, rfl, hown, hb⟩
  obtain ⟨A, cap, rfl, hrd⟩ := reads_of hown
  have HB := Lib.hid hb
  have HR := Lib.hid hrd
  clear hown hb hrd HP
  generalize pieces s.data.toList 0 = ps at *
  generalize hn : ps.length = n at *
  have HN := Lib.hid hn
  clear hn
  go_wp2_with fail
  go_loop [6, 7] (fun v u => ∃ (i : Nat) (a : Int), i ≤ n ∧ u = .int .i64 i ∧ v = .int .i64 a ∧ 0 ≤ a ∧ Hid (a + unitsP (ps.drop i) x = unitsAt s.data.toList x)) (fun _ u => n - (intOf u).toNat)
  case atStart => exact ⟨0, 0, Nat.zero_le _, rfl, rfl, by omega, Lib.hid (by rw [List.drop_zero, HV.out]; omega)⟩
  case round =>
    obtain ⟨i, a, hi, rfl, rfl, ha, hrel⟩ := hrel
    by_cases hlt : i < n
    · have hip : i < ps.length := by rw [HN.out]; exact hlt
      obtain ⟨g, rfl, hc⟩ := HR.out (by omega)
      have c1 := (hc i _ (List.getElem?_eq_getElem hip)).2.1
      have c2 := (hc i _ (List.getElem?_eq_getElem hip)).2.2.1
      have HD : Hid (a + (if (ps[i].2.1 : Int) ≤ x then (ps[i].2.2.1 : Int) else 0) + unitsP (ps.drop (i + 1)) x = unitsAt s.data.toList x) := Lib.hid (by rw [← hrel.out, drop_at hip, unitsP]; split <;> omega)
      generalize ps[i].2.1 = r at *
      generalize ps[i].2.2.1 = q at *
      clear hc hip
      by_cases hx : (r : Int) ≤ x
      · have hd := HD.out
        rw [if_pos hx] at hd
        have HD2 := Lib.hid hd
        have hb2 : a + (q : Int) ≤ 2000000 := by have := HX.out; have := HL.out; omega
        clear hd
        go_wp2_with fail
        go_round
        case rel => exact ⟨i + 1, a + q, by omega, by go_num, rfl, by omega, HD2⟩
        case measure => simp [intOf]; omega
      · have hd := HD.out
        rw [if_neg hx, Int.add_zero] at hd
        have HD2 := Lib.hid hd
        clear hd
        go_wp2_with fail
        go_round
        case rel => exact ⟨i + 1, a, by omega, by go_num, rfl, by omega, HD2⟩
        case measure => simp [intOf]; omega
    · go_wp2_with fail
      go_ret
      exact ⟨ret_i64 (by rw [← hrel.out, List.drop_eq_nil_of_le (by rw [HN.out]; omega), unitsP]; omega), HB.out⟩
set_option maxRecDepth 100000 in
set_option maxHeartbeats 1000000 in
theorem refByte_any (s : ByteArray) (u : Int) (hs : s.size ≤ 1000000) (w : World) : Calls Try.prog 33 #[.string s, .int .i64 u] w fun e w' => e = .returned (.int .i64 (byteAt s.data.toList u)) ∧ Below w.heap.size w w' := by
  by_cases hu : u < 0
  · rw [byteAt_neg _ _ hu]
    go_enter Try.func33, Try.ntmps33
    go_wp2_with fail
    go_ret
    exact ⟨rfl, Below.refl _ _⟩
  have hlen : (pieces s.data.toList 0).length ≤ s.size := pieces_len s.data.toList 0
  have hle := units_le s.data.toList
  have hsz : s.data.toList.length = s.size := rfl
  rw [hsz] at hle
  have HL := Lib.hid hle
  clear hsz hle
  have hv := byteP_pieces s.data.toList 0 0 u (by omega)
  rw [Nat.zero_add, Nat.zero_add, Int.sub_zero, show s.data.toList.length = s.size from rfl] at hv
  have HV := Lib.hid hv
  have HS := Lib.hid (sumU_pieces s.data.toList 0)
  clear hv
  have HP := Lib.hid (pieces_any s hs w)
  go_enter Try.func33, Try.ntmps33
  go_wp2_with fail
  refine HP.out.mono ?_
  rintro e w1 ⟨v, rfl, hown, hb⟩
  obtain ⟨A, cap, rfl, hrd⟩ := reads_of hown
  have HB := Lib.hid hb
  have HR := Lib.hid hrd
  clear hown hb hrd HP
  generalize pieces s.data.toList 0 = ps at *
  generalize hn : ps.length = n at *
  have HN := Lib.hid hn
  clear hn
  go_wp2_with fail
  go_loop [6, 7] (fun v t => ∃ (i : Nat) (a : Int), i ≤ n ∧ t = .int .i64 i ∧ v = .int .i64 a ∧ 0 ≤ a ∧ Hid (a + sumU (ps.drop i) = units s.data.toList) ∧ Hid (byteP (ps.drop i) a u s.size = byteAt s.data.toList u)) (fun _ t => n - (intOf t).toNat)
  case atStart => exact ⟨0, 0, Nat.zero_le _, rfl, rfl, by omega, Lib.hid (by rw [List.drop_zero, HS.out]; omega), Lib.hid (by rw [List.drop_zero]; exact HV.out)⟩
  case round =>
    obtain ⟨i, a, hi, rfl, rfl, ha, hsum, hrel⟩ := hrel
    by_cases hlt : i < n
    · have hip : i < ps.length := by rw [HN.out]; exact hlt
      obtain ⟨g, rfl, hc⟩ := HR.out (by omega)
      have c0 := (hc i _ (List.getElem?_eq_getElem hip)).1
      have c2 := (hc i _ (List.getElem?_eq_getElem hip)).2.2.1
      have HD : Hid (a + (ps[i].2.2.1 : Int) + sumU (ps.drop (i + 1)) = units s.data.toList) := Lib.hid (by rw [← hsum.out, drop_at hip, sumU]; omega)
      have HE : Hid ((if a ≤ u ∧ u < a + (ps[i].2.2.1 : Int) then ps[i].1 else byteP (ps.drop (i + 1)) (a + (ps[i].2.2.1 : Int)) u s.size) = byteAt s.data.toList u) := Lib.hid (by rw [← hrel.out, drop_at hip, byteP])
      generalize ps[i].2.2.1 = q at *
      generalize ps[i].1 = f at *
      have hb2 : a + (q : Int) ≤ 2000000 := by have := HD.out; have := HL.out; omega
      clear hc hip hsum hrel
      by_cases h1 : a ≤ u
      · have d1 : decide (a ≤ u) = true := by simpa using h1
        by_cases h2 : u < a + (q : Int)
        · have d2 : decide (u < a + (q : Int)) = true := by simpa using h2
          have he := HE.out
          rw [if_pos ⟨h1, h2⟩] at he
          have HE2 := Lib.hid he
          clear he
          go_wp2_with fail
          go_ret
          exact ⟨ret_i64 (by rw [HE2.out]), HB.out⟩
        · have d2 : decide (u < a + (q : Int)) = false := by simpa using h2
          have he := HE.out
          rw [if_neg (fun y => h2 y.2)] at he
          have HE2 := Lib.hid he
          clear he
          go_wp2_with fail
          go_round
          case rel => exact ⟨i + 1, a + q, by omega, by go_num, rfl, by omega, HD, HE2⟩
          case measure => simp [intOf]; omega
      · have d1 : decide (a ≤ u) = false := by simpa using h1
        have he := HE.out
        rw [if_neg (fun y => h1 y.1)] at he
        have HE2 := Lib.hid he
        clear he
        go_wp2_with fail
        go_round
        case rel => exact ⟨i + 1, a + q, by omega, by go_num, rfl, by omega, HD, HE2⟩
        case measure => simp [intOf]; omega
    · go_wp2_with fail
      go_ret
      exact ⟨ret_i64 (by rw [← hrel.out, List.drop_eq_nil_of_le (by rw [HN.out]; omega)]; rfl), HB.out⟩
end Go.Proofs.Ytnmbclkpncjebaa
