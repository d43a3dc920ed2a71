/-
  emendref08's Reserved, Dir AT EVERY TEXT: what they return; no memory that was there turns. Condition: the text's length.
-/
import Derived.Test.YtpphkkelikdhkaaDoorORefName
namespace Go.Proofs.YtpphkkelikdhkaaDoor
open Go.RowKit

def wordsB : List ByteArray := [⟨#[98, 111, 111, 108]⟩, ⟨#[98, 114, 101, 97, 107]⟩, ⟨#[99, 111, 110, 116, 105, 110, 117, 101]⟩, ⟨#[101, 108, 115, 101]⟩, ⟨#[102, 97, 108, 115, 101]⟩, ⟨#[102, 108, 111, 97, 116, 54, 52]⟩, ⟨#[102, 111, 114]⟩, ⟨#[102, 117, 110, 99]⟩, ⟨#[105, 102]⟩, ⟨#[105, 109, 112, 111, 114, 116]⟩, ⟨#[105, 110, 116]⟩, ⟨#[108, 101, 110]⟩, ⟨#[112, 97, 99, 107, 97, 103, 101]⟩, ⟨#[112, 97, 110, 105, 99]⟩, ⟨#[112, 114, 105, 110, 116]⟩, ⟨#[114, 101, 116, 117, 114, 110]⟩, ⟨#[115, 116, 114, 105, 110, 103]⟩, ⟨#[115, 116, 114, 117, 99, 116]⟩, ⟨#[116, 114, 117, 101]⟩, ⟨#[116, 121, 112, 101]⟩, ⟨#[118, 97, 114]⟩]
theorem wordsV_eq : wordsV = wordsB.map Value.string := rfl
theorem resB_eq (l : List UInt8) : resB l = (wordsB.map (fun s => s.data.toList)).contains l := by
  unfold resB
  rw [words_are]
  rfl
theorem resB_no (s : ByteArray) : (∀ (j : Nat) (x : ByteArray), wordsB[j]? = some x → x ≠ s) → resB s.data.toList = false := by
  intro h
  rw [resB_eq]
  cases hc : (wordsB.map (fun s => s.data.toList)).contains s.data.toList with
  | false => rfl
  | true =>
    exfalso
    rw [List.contains_iff_mem, List.mem_map] at hc
    obtain ⟨x, hx, e⟩ := hc
    obtain ⟨j, hj⟩ := List.getElem?_of_mem hx
    exact h j x hj (by cases x; cases s; simp only at e; rw [Array.toList_inj.1 e])
theorem resB_yes {s : ByteArray} {j : Nat} (h : wordsB[j]? = some s) : resB s.data.toList = true := by
  rw [resB_eq, List.contains_iff_mem, List.mem_map]
  exact ⟨s, List.mem_of_getElem? h, rfl⟩
set_option maxRecDepth 100000 in
set_option maxHeartbeats 1000000 in
theorem refReserved_any (s : ByteArray) (w : World) : Calls Tryd.prog 33 #[.string s] w fun e w' => e = .returned (.bool (resB s.data.toList)) ∧ Below w.heap.size w w' := by
  have HN := Lib.hid (resB_no s)
  have HY := Lib.hid (fun j => resB_yes (s := s) (j := j))
  obtain ⟨R, hR⟩ : ∃ R, resB s.data.toList = R := ⟨_, rfl⟩
  rw [hR] at HN HY ⊢
  clear hR
  go_enter Tryd.func33, Tryd.ntmps33
  go_wp2_with fail
  refine (words_any _).mono ?_
  rintro e w1 ⟨rfl, rfl⟩
  have HB := Lib.hid (alloc_below w (.cells wordsV.toArray 9))
  have hc : ∀ (i : Nat) (x : ByteArray), wordsB[i]? = some x → (w.alloc (.cells wordsV.toArray 9)).cell? ⟨w.heap.size, i, none⟩ = some (.string x) := by
    intro i x hx
    rw [cell_at (alloc_top w _ _), wordsV_eq, List.getElem?_toArray, List.getElem?_map, hx]
    rfl
  have HC := Lib.hid hc
  have hsz : (w.alloc (.cells wordsV.toArray 9)).heap.size = w.heap.size + 1 := World.size_alloc _ _
  have HSZ := Lib.hid hsz
  clear hc hsz
  generalize w.alloc (.cells wordsV.toArray 9) = W at *
  go_wp2_with fail
  go_loop [4] (fun n => ∃ (i : Nat), n = .int .i64 (i : Int) ∧ i ≤ 21 ∧ Hid (∀ (j : Nat) (x : ByteArray), j < i → wordsB[j]? = some x → x ≠ s)) (fun n => 21 - (intOf n).toNat)
  case atStart => exact ⟨0, rfl, by omega, Lib.hid (fun j x h => by omega)⟩
  case round =>
    obtain ⟨i, rfl, hi, hh⟩ := hrel
    by_cases h21 : i < 21
    · have q : (i : Int) < 21 := by omega
      obtain ⟨x, hx⟩ : ∃ x, wordsB[i]? = some x := ⟨_, List.getElem?_eq_getElem (show i < wordsB.length from h21)⟩
      have c := HC.out i x hx
      by_cases hxs : x = s
      · subst hxs
        have HE := Lib.hid (HY.out i hx)
        clear hx hh
        go_wp2_with fail
        go_ret
        exact ⟨ret_bool HE.out.symm, HB.out⟩
      · have hxs2 : (x.toList == s.toList) = false := by
          rw [beq_eq_false_iff_ne, ne_eq, Lib.toList_data, Lib.toList_data]
          intro e
          exact hxs (by cases x; cases s; simp only at e; rw [Array.toList_inj.1 e])
        have HE : Hid (∀ (j : Nat) (y : ByteArray), j < i + 1 → wordsB[j]? = some y → y ≠ s) := Lib.hid (fun j y hj hy => by
          by_cases hji : j = i
          · subst hji
            rw [hx] at hy
            injection hy with hy
            rw [← hy]; exact hxs
          · exact hh.out j y (by omega) hy)
        clear hx hh
        go_wp2_with fail
        go_round
        case rel => exact ⟨i + 1, by go_num, by omega, HE⟩
        case measure => simp [intOf]; omega
    · have q : ¬ (i : Int) < 21 := by omega
      have HE : Hid (R = false) := Lib.hid (HN.out (fun j x hx => hh.out j x (by
        have : j < wordsB.length := (List.getElem?_eq_some_iff.1 hx).1
        have : wordsB.length = 21 := rfl
        omega) hx))
      clear hh
      go_wp2_with fail
      go_ret
      exact ⟨ret_bool HE.out.symm, HB.out⟩
end Go.Proofs.YtpphkkelikdhkaaDoor
