/-
  THE DOCUMENT's NATURAL NUMBERS (emendref01.Less): a number less one that is not above it, in new memory. Condition: both slices read as digits below 65536, the second number is not above the first and has no more digits.
-/
import Derived.Test.YtlinoncoanpcdaaGreatDoorBigBits
namespace Go.Proofs.YtlinoncoanpcdaaGreatDoor
open Go.RowKit

/-- An owned row, read. -/
theorem rd_of_own {w : World} {base k : Nat} {A : Option Addr} {c : Nat} {l : List Nat} (h : w.ownsRow base 30 1 (.slice A k c) k (cellsU l)) (hl : l.length = k) : RD w w.heap.size A l := by
  intro hp
  rcases h.2 with ⟨_, h1⟩ | ⟨g, cap, cur, e, _, hg, _⟩
  · omega
  · have eA : A = some ⟨g, 0, none⟩ := by injection e
    subst eA
    have hlt := (World.ownsRow.lt h g rfl).2
    refine ⟨g, 0, rfl, hlt, fun i x hx => ?_⟩
    have := World.ownsRow.cells h (g := g) rfl i (.int .u64 (x : Int)) (by rw [cellsU, List.getElem?_map, hx]; rfl)
    rwa [Lib.add_plain] at this
theorem cap_of_own {w : World} {base k : Nat} {A : Option Addr} {c : Nat} {xs : List Value} (h : w.ownsRow base 30 1 (.slice A k c) k xs) : k ≤ c := by
  rcases h.2 with ⟨e, h1⟩ | ⟨g, cap, cur, e, _, _, hc, _⟩
  · omega
  · injection e with _ _ e3
    omega
theorem trim_norm (l : List Nat) (h : ∀ z ∈ l, z < 65536) : Norm (trimL l) := by
  have hsub : ∀ z ∈ trimL l, z < 65536 := by
    intro z hz
    unfold trimL at hz
    rw [List.mem_reverse] at hz
    exact h z (List.mem_reverse.1 ((List.dropWhile_sublist _).mem hz))
  refine ⟨hsub, ?_⟩
  unfold trimL
  cases hd : l.reverse.dropWhile (· == 0) with
  | nil => exact .inl rfl
  | cons x r =>
    right
    refine ⟨x, ?_, ?_⟩
    · rw [List.length_reverse, List.length_cons, Nat.add_sub_cancel, List.reverse_cons, List.getElem?_append_right (by simp)]
      simp
    · have := List.head?_dropWhile_not (· == 0) l.reverse
      rw [hd] at this
      simp at this
      omega
/-- The difference so far. -/
def Lent (xs ys ol : List Nat) (k : Nat) (t : Int) : Prop :=
  ol.length = k ∧ (∀ z ∈ ol, z < 65536) ∧ val (xs.take k) + t.toNat * 65536 ^ k = val ol + val (ys.take k)
theorem Lent.start (xs ys : List Nat) : Lent xs ys [] 0 0 := ⟨rfl, by simp, by simp [val]⟩
theorem Lent.step {xs ys ol : List Nat} {k x y : Nat} {t N : Int} (h : Lent xs ys ol k t) (t0 : 0 ≤ t) (t1 : t ≤ 1) (hx : xs[k]? = some x) (hy : val (ys.take (k + 1)) = val (ys.take k) + y * 65536 ^ k)
    (x1 : x < 65536) (y1 : y < 65536) (hN : N = (x : Int) + 65536 - t - (y : Int)) : Lent xs ys (ol ++ [(N % 65536).toNat]) (k + 1) (1 - N / 65536) := by
  obtain ⟨h1, h2, h3⟩ := h
  have hv := val_take_succ xs k x hx
  refine ⟨by rw [List.length_append, h1]; rfl, ?_, ?_⟩
  · intro z hz
    rcases List.mem_append.1 hz with hz | hz
    · exact h2 z hz
    · simp only [List.mem_singleton] at hz; omega
  · rw [val_append, hv, hy, h1]
    have e : val [(N % 65536).toNat] = (N % 65536).toNat := by simp [val]
    rw [e]
    have key : x + (1 - N / 65536).toNat * 65536 = (N % 65536).toNat + y + t.toNat := by omega
    have e2 : (x + (1 - N / 65536).toNat * 65536) * 65536 ^ k = ((N % 65536).toNat + y + t.toNat) * 65536 ^ k := by rw [key]
    rw [Nat.add_mul, Nat.add_mul, Nat.add_mul, Nat.mul_assoc, Nat.mul_comm 65536 (65536 ^ k), ← Nat.pow_succ, Nat.succ_eq_add_one] at e2
    rw [Nat.mul_comm (65536 ^ k) (N % 65536).toNat]
    omega
/-- What Less hands back. -/
def LessEnd (n : Nat) (w : World) (m : Nat) (e : Ending) (w' : World) : Prop := ∃ A c l, e = .returned (.slice A l.length c) ∧ RD w' w'.heap.size A l ∧ Norm l ∧ val l = n ∧ l.length ≤ m ∧ l.length ≤ c ∧ Below w.heap.size w w'
theorem Lent.done {xs ys ol : List Nat} {t : Int} (h : Lent xs ys ol xs.length t) (_t0 : 0 ≤ t) (hl : ys.length ≤ xs.length) (hv : val ys ≤ val xs) (hx : ∀ z ∈ xs, z < 65536) : val ol = val xs - val ys := by
  obtain ⟨h1, h2, h3⟩ := h
  rw [List.take_length, List.take_of_length_le hl] at h3
  have b1 := val_lt ol h2
  have b2 := val_lt xs hx
  rw [h1] at b1
  have ht : t.toNat = 0 := by
    rcases Nat.eq_zero_or_pos t.toNat with h | h
    · exact h
    · exfalso
      have := Nat.mul_le_mul_right (65536 ^ xs.length) h
      omega
  rw [ht] at h3
  omega
set_option maxRecDepth 100000 in
set_option maxHeartbeats 2000000 in
theorem less_any (A C : Option Addr) (ca cc : Nat) (xs ys : List Nat) (ha : xs.length ≤ 100000) (hlen : ys.length ≤ xs.length) (w : World) (hA : RD w w.heap.size A xs) (hC : RD w w.heap.size C ys)
    (hx : ∀ z ∈ xs, z < 65536) (hy : ∀ z ∈ ys, z < 65536) (hv : val ys ≤ val xs) : Calls Tryz.prog 78 #[.slice A xs.length ca, .slice C ys.length cc] w (LessEnd (val xs - val ys) w xs.length) := by
  obtain ⟨i0, hi, hz0, hz1, hz2⟩ := info_parts Tryz.info30
  have HA := Lib.hid hA
  have HC := Lib.hid hC
  have HX := Lib.hid hx
  have HY := Lib.hid hy
  have HV := Lib.hid hv
  clear hA hC hx hy hv
  go_enter Tryz.func78, Tryz.ntmps78
  go_wp2_with fail
  go_loopw [5, 6, 7] (fun v tv iv wr => ∃ (j : Nat) (t : Int) (ol : List Nat), j ≤ xs.length ∧ 0 ≤ t ∧ t ≤ 1 ∧ tv = .int .u64 t ∧ iv = .int .i64 (j : Int) ∧ wr.ownsRow w.heap.size 30 1 v j (cellsU ol) ∧ Hid (Lent xs ys ol j t) ∧ Below w.heap.size w wr) (fun _ _ iv _ => xs.length - (RowKit.intOf iv).toNat)
  case atStart => exact ⟨0, 0, [], by omega, by omega, by omega, rfl, rfl, World.ownsRow_nil _ _ _ _, Lib.hid (Lent.start xs ys), Below.refl _ _⟩
  case round =>
    obtain ⟨j, t, ol, hj, t0, t1, rfl, rfl, hown, HL, hb⟩ := hrel
    have HB := Lib.hid hb
    clear hb
    by_cases hlt : j < xs.length
    · obtain ⟨b, o, rfl, hbl, hc⟩ := HA.out (by omega)
      obtain ⟨x, hx⟩ : ∃ x, xs[j]? = some x := ⟨_, List.getElem?_eq_getElem hlt⟩
      have hcx := hc _ _ hx
      have x1 := HX.out x (List.mem_of_getElem? hx)
      have HX0 := Lib.hid hx
      obtain ⟨X, eX⟩ : ∃ X : Int, X = (x : Int) := ⟨_, rfl⟩
      have EX := Lib.hid eX
      rw [← eX] at hcx
      have X0 : 0 ≤ X := by omega
      have X1 : X ≤ 65535 := by omega
      clear hx hc eX
      have hcell : wr.cell? ⟨b, o + j, none⟩ = some (.int .u64 X) := by rw [HB.out.cell (p := ⟨b, o + j, none⟩) hbl]; exact hcx
      clear hcx
      by_cases hjm : j < ys.length
      · have hkeep := HB.out
        obtain ⟨b', o', rfl, hbl', hc'⟩ := HC.out (by omega)
        obtain ⟨y, hy⟩ : ∃ y, ys[j]? = some y := ⟨_, List.getElem?_eq_getElem hjm⟩
        have hcy : wr.cell? ⟨b', o' + j, none⟩ = some (.int .u64 (y : Int)) := by rw [HB.out.cell (p := ⟨b', o' + j, none⟩) hbl']; exact hc' _ _ hy
        clear hkeep
        have y1 := HY.out y (List.mem_of_getElem? hy)
        obtain ⟨Y, eY⟩ : ∃ Y : Int, Y = (y : Int) := ⟨_, rfl⟩
        rw [← eY] at hcy
        have Y0 : 0 ≤ Y := by omega
        have Y1 : Y ≤ 65535 := by omega
        obtain ⟨N, eN⟩ : ∃ N : Int, N = X + 65536 - t - Y := ⟨_, rfl⟩
        have N0 : 0 ≤ N := by omega
        have N1 : N ≤ 131071 := by omega
        have hst := HL.out.step t0 t1 HX0.out (val_take_succ ys j y hy) x1 y1 (N := N) (by rw [eN, EX.out, eY])
        have wn : X + 65536 - t - Y = N := eN.symm
        clear hy hc' eY eN
        have HST := Lib.hid hst
        have hq : IntKind.u64.wrap (1 - N / 65536) = 1 - N / 65536 := u64_in (by omega) (by omega)
        clear hst
        go_wp2_with (at_builtin; refine wpList_append_own _ rfl _ _ 71 rfl w.heap.size 30 i0 (.int .u64 0) 1 8 Tryz.underlying71 hi hz0 hz1 hz2 rfl (by decide) _ _ _ rfl (hown.alloc _) ⟨wr.heap.size, 0, none⟩ 1 1 [.int .u64 (N % 65536)] rfl rfl ?c1 ?c2 ?c3 ?c4 ?c5 ?_)
        case c1 => exact one_new _ _ _
        case c2 => simp [Value.oneCell']
        case c3 => unfold maxLen; omega
        case c4 => omega
        case c5 => rw [World.size_alloc]; have := HB.out.size; omega
        intro v' w1 hown' hgrow hne
        have HB1 : Hid (Below w.heap.size w w1) := Lib.hid ((HB.out.alloc HB.out.size _).grown hgrow (by rw [World.size_alloc]; have := HB.out.size; omega) (fun j ej => (World.ownsRow.lt hown j ej).1))
        have hr : cellsU ol ++ [Value.int IntKind.u64 (N % 65536)] = cellsU (ol ++ [(N % 65536).toNat]) := by
          rw [cellsU_snoc]
          congr 3
          omega
        rw [hr] at hown'
        have HO := Lib.hid hown'
        clear hr hown' hgrow hne hown
        go_wp2
        refine ⟨⟨j + 1, 1 - N / 65536, ol ++ [(N % 65536).toNat], by omega, by omega, by omega, rfl, by go_num, HO.out, HST, HB1.out⟩, ?_⟩
        simp [RowKit.intOf]
        omega
      · skip
        obtain ⟨N, eN⟩ : ∃ N : Int, N = X + 65536 - t := ⟨_, rfl⟩
        have N0 : 0 ≤ N := by omega
        have N1 : N ≤ 131071 := by omega
        have hst := HL.out.step (y := 0) t0 t1 HX0.out (by rw [List.take_of_length_le (by omega), List.take_of_length_le (by omega)]; simp) x1 (by decide) (N := N) (by rw [eN, EX.out]; simp)
        have wn : X + 65536 - t = N := eN.symm
        clear eN
        have HST := Lib.hid hst
        have hq : IntKind.u64.wrap (1 - N / 65536) = 1 - N / 65536 := u64_in (by omega) (by omega)
        clear hst
        go_wp2_with (at_builtin; refine wpList_append_own _ rfl _ _ 71 rfl w.heap.size 30 i0 (.int .u64 0) 1 8 Tryz.underlying71 hi hz0 hz1 hz2 rfl (by decide) _ _ _ rfl (hown.alloc _) ⟨wr.heap.size, 0, none⟩ 1 1 [.int .u64 (N % 65536)] rfl rfl ?c1 ?c2 ?c3 ?c4 ?c5 ?_)
        case c1 => exact one_new _ _ _
        case c2 => simp [Value.oneCell']
        case c3 => unfold maxLen; omega
        case c4 => omega
        case c5 => rw [World.size_alloc]; have := HB.out.size; omega
        intro v' w1 hown' hgrow hne
        have HB1 : Hid (Below w.heap.size w w1) := Lib.hid ((HB.out.alloc HB.out.size _).grown hgrow (by rw [World.size_alloc]; have := HB.out.size; omega) (fun j ej => (World.ownsRow.lt hown j ej).1))
        have hr : cellsU ol ++ [Value.int IntKind.u64 (N % 65536)] = cellsU (ol ++ [(N % 65536).toNat]) := by
          rw [cellsU_snoc]
          congr 3
          omega
        rw [hr] at hown'
        have HO := Lib.hid hown'
        clear hr hown' hgrow hne hown
        go_wp2
        refine ⟨⟨j + 1, 1 - N / 65536, ol ++ [(N % 65536).toNat], by omega, by omega, by omega, rfl, by go_num, HO.out, HST, HB1.out⟩, ?_⟩
        simp [RowKit.intOf]
        omega
    · obtain rfl : j = xs.length := by omega
      obtain ⟨A1, c1, rfl⟩ := slice_form hown
      have hl1 := HL.out.1
      have hT := trim_any A1 c1 _ ol (by omega) (by rw [hl1]; exact cap_of_own hown) wr (rd_of_own hown hl1)
      rw [hl1] at hT
      have HT := Lib.hid hT
      have HRD := Lib.hid (rd_of_own hown hl1)
      have HL1 := Lib.hid hl1
      have HCAP := Lib.hid (cap_of_own hown)
      clear hT hl1 hown
      go_wp2_with fail
      refine HT.out.mono ?_
      rintro e w1 ⟨k, hk, ht, rfl, hw1⟩
      have HK := Lib.hid ht
      have HW := Lib.hid hw1
      clear ht hw1 HT
      go_wp2_with fail
      go_ret
      have e1 := HL1.out
      have hk' : (ol.take k).length = k := by rw [List.length_take]; omega
      refine ⟨A1, c1, ol.take k, ret_slice hk'.symm, ?_, ?_, ?_, ?_, ?_, ?_⟩
      · rw [← HW.out]; exact HRD.out.take k
      · rw [← HK.out]; exact trim_norm ol HL.out.2.1
      · rw [← HK.out, val_trim]; exact HL.out.done t0 hlen HV.out HX.out
      · rw [hk']; omega
      · rw [hk']; have := HCAP.out; omega
      · rw [← HW.out]; exact HB.out
end Go.Proofs.YtlinoncoanpcdaaGreatDoor
