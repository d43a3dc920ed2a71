/-
  THE WALK OF emendlaw09.LexerKnown: it returns true; no memory that was there turns. Conditions: the variables that are read hold what their text lays (Facts, FltFacts).
-/
import Derived.Test.YtfjdhnfghdnmoaaGreatDoorLKnownP
import Derived.Test.YtfjdhnfghdnmoaaGreatDoorShelf2
namespace Go.Proofs.YtfjdhnfghdnmoaaGreatDoor
open Go.RowKit

theorem spec_none9 : FSpec (fun _ => True) (fun _ => 0) (fun _ => False) := ⟨fun _ _ _ _ => trivial, fun _ h => h.elim⟩
theorem told_k (x y : List UInt8) (hl : x.length ≤ 100000) (hO : fokB x = true) (h : toldL (tokensL ffK x) = y) (w : World) (hF : Facts w) (hW : FltFacts w) : Calls Tryz.prog 21 #[.string ⟨x.toArray⟩] w fun e w' => e = .returned (.string ⟨y.toArray⟩) ∧ Below w.heap.size w w' := by
  have := told_any spec_known ⟨x.toArray⟩ hl (fok_is hO) w hF hW
  have e : (⟨x.toArray⟩ : ByteArray).data.toList = x := rfl
  rw [e, h] at this
  exact this
theorem fails_k (x : List UInt8) (k e0 : Nat) (hl : x.length ≤ 1000000) (hO : floatsOk OKK ⟨x.toArray⟩) (h : tokensL ffK x = .error (k, e0)) (w : World) (hF : Facts w) (hW : FltFacts w) : Calls Tryz.prog 22 #[.string ⟨x.toArray⟩, .int .i64 (k : Int), .int .i64 (e0 : Int)] w fun e w' => e = .returned (.bool true) ∧ Below w.heap.size w w' :=
  fails_any spec_known ⟨x.toArray⟩ hl hO k e0 h w hF hW
theorem value_k (x : List UInt8) (r : Except Nat (List UInt8)) (hl : x.length ≤ 1000000) (h : valR x = r) (w : World) (hF : Facts w) : Calls Tryz.prog 13 #[.string ⟨x.toArray⟩] w fun e w' => e = .returned (valV r) ∧ Below w.heap.size w w' := by
  have := value_any ⟨x.toArray⟩ hl w hF
  have e : (⟨x.toArray⟩ : ByteArray).data.toList = x := rfl
  rw [e, h] at this
  exact this
theorem rep_k (c : UInt8) (n : Nat) (hn : n ≤ 100000) (w : World) : Calls Tryz.prog 23 #[.string ⟨#[c]⟩, .int .i64 (n : Int)] w fun e w' => e = .returned (.string ⟨(List.replicate n c).toArray⟩) ∧ Below w.heap.size w w' := by
  have := Tryz.strings_Repeat ⟨#[c]⟩ n w (by omega) (by have e : (⟨#[c]⟩ : ByteArray).size = 1 := rfl; rw [e]; omega)
  have e : (⟨#[c]⟩ : ByteArray).data.toList = [c] := rfl
  rw [e, repeatL_one] at this
  exact this
theorem quote_k (R : ByteArray) (n : Nat) (h : R = ⟨(List.replicate n 97).toArray⟩) : (⟨#[34]⟩ : ByteArray) ++ R ++ ⟨#[34]⟩ = ⟨(qa n).toArray⟩ := by
  subst h
  apply ByteArray.ext
  simp [ByteArray.data_append, qa]
theorem told_k0 (w : World) (hF : Facts w) (hW : FltFacts w) : Calls Tryz.prog 21 #[.string ⟨#[97, 46, 98, 60, 61, 99, 49]⟩] w fun e w' => e = .returned (.string ⟨#[97, 32, 46, 32, 98, 32, 60, 61, 32, 99, 49, 32, 35, 32]⟩) ∧ Below w.heap.size w w' := told_k [97, 46, 98, 60, 61, 99, 49] [97, 32, 46, 32, 98, 32, 60, 61, 32, 99, 49, 32, 35, 32] (by decide) (by kernel_rfl) (by kernel_rfl) w hF hW
theorem told_k1 (w : World) (hF : Facts w) (hW : FltFacts w) : Calls Tryz.prog 21 #[.string ⟨#[105, 102, 32, 120, 32, 123, 10, 125]⟩] w fun e w' => e = .returned (.string ⟨#[105, 102, 32, 120, 32, 123, 32, 125, 32, 35, 32]⟩) ∧ Below w.heap.size w w' := told_k [105, 102, 32, 120, 32, 123, 10, 125] [105, 102, 32, 120, 32, 123, 32, 125, 32, 35, 32] (by decide) (by kernel_rfl) (by kernel_rfl) w hF hW
theorem told_k2 (w : World) (hF : Facts w) (hW : FltFacts w) : Calls Tryz.prog 21 #[.string ⟨#[49, 46, 53, 101, 51, 32, 49, 101, 53, 32, 49, 46, 120, 32, 49, 46, 53, 101]⟩] w fun e w' => e = .returned (.string ⟨#[49, 46, 53, 101, 51, 32, 49, 32, 101, 53, 32, 49, 32, 46, 32, 120, 32, 49, 46, 53, 32, 101, 32, 35, 32]⟩) ∧ Below w.heap.size w w' := told_k [49, 46, 53, 101, 51, 32, 49, 101, 53, 32, 49, 46, 120, 32, 49, 46, 53, 101] [49, 46, 53, 101, 51, 32, 49, 32, 101, 53, 32, 49, 32, 46, 32, 120, 32, 49, 46, 53, 32, 101, 32, 35, 32] (by decide) (by kernel_rfl) (by kernel_rfl) w hF hW
theorem told_k3 (w : World) (hF : Facts w) (hW : FltFacts w) : Calls Tryz.prog 21 #[.string ⟨#[]⟩] w fun e w' => e = .returned (.string ⟨#[]⟩) ∧ Below w.heap.size w w' := told_k [] [] (by decide) (by kernel_rfl) (by kernel_rfl) w hF hW
theorem told_k4 (w : World) (hF : Facts w) (hW : FltFacts w) : Calls Tryz.prog 21 #[.string ⟨#[10, 59, 10]⟩] w fun e w' => e = .returned (.string ⟨#[59, 32]⟩) ∧ Below w.heap.size w w' := told_k [10, 59, 10] [59, 32] (by decide) (by kernel_rfl) (by kernel_rfl) w hF hW
theorem told_k5 (w : World) (hF : Facts w) (hW : FltFacts w) : Calls Tryz.prog 21 #[.string ⟨#[102, 40, 41, 32, 105, 110, 116, 10, 114, 101, 116, 117, 114, 110, 10, 118, 97, 114, 10, 120, 44, 10, 33, 116, 114, 117, 101]⟩] w fun e w' => e = .returned (.string ⟨#[102, 32, 40, 32, 41, 32, 105, 110, 116, 32, 35, 32, 114, 101, 116, 117, 114, 110, 32, 35, 32, 118, 97, 114, 32, 120, 32, 44, 32, 33, 32, 116, 114, 117, 101, 32, 35, 32]⟩) ∧ Below w.heap.size w w' := told_k [102, 40, 41, 32, 105, 110, 116, 10, 114, 101, 116, 117, 114, 110, 10, 118, 97, 114, 10, 120, 44, 10, 33, 116, 114, 117, 101] [102, 32, 40, 32, 41, 32, 105, 110, 116, 32, 35, 32, 114, 101, 116, 117, 114, 110, 32, 35, 32, 118, 97, 114, 32, 120, 32, 44, 32, 33, 32, 116, 114, 117, 101, 32, 35, 32] (by decide) (by kernel_rfl) (by kernel_rfl) w hF hW
theorem told_k6 (w : World) (hF : Facts w) (hW : FltFacts w) : Calls Tryz.prog 21 #[.string ⟨#[97, 32, 47, 47, 32, 98, 10, 47, 47, 32, 99, 10, 47, 32, 100]⟩] w fun e w' => e = .returned (.string ⟨#[97, 32, 35, 32, 47, 32, 100, 32, 35, 32]⟩) ∧ Below w.heap.size w w' := told_k [97, 32, 47, 47, 32, 98, 10, 47, 47, 32, 99, 10, 47, 32, 100] [97, 32, 35, 32, 47, 32, 100, 32, 35, 32] (by decide) (by kernel_rfl) (by kernel_rfl) w hF hW
theorem told_k7 (w : World) (hF : Facts w) (hW : FltFacts w) : Calls Tryz.prog 21 #[.string ⟨#[38, 38, 124, 124, 61, 61, 61, 33, 61, 61, 58, 61, 58]⟩] w fun e w' => e = .returned (.string ⟨#[38, 38, 32, 124, 124, 32, 61, 61, 32, 61, 32, 33, 61, 32, 61, 32, 58, 61, 32, 58, 32]⟩) ∧ Below w.heap.size w w' := told_k [38, 38, 124, 124, 61, 61, 61, 33, 61, 61, 58, 61, 58] [38, 38, 32, 124, 124, 32, 61, 61, 32, 61, 32, 33, 61, 32, 61, 32, 58, 61, 32, 58, 32] (by decide) (by kernel_rfl) (by kernel_rfl) w hF hW
theorem told_k8 (w : World) (hF : Facts w) (hW : FltFacts w) : Calls Tryz.prog 21 #[.string ⟨#[120, 45, 45, 121]⟩] w fun e w' => e = .returned (.string ⟨#[120, 32, 45, 32, 45, 32, 121, 32, 35, 32]⟩) ∧ Below w.heap.size w w' := told_k [120, 45, 45, 121] [120, 32, 45, 32, 45, 32, 121, 32, 35, 32] (by decide) (by kernel_rfl) (by kernel_rfl) w hF hW
theorem fails_k0 (w : World) (hF : Facts w) (hW : FltFacts w) : Calls Tryz.prog 22 #[.string ⟨#[48, 48, 55]⟩, .int .i64 0, .int .i64 4] w fun e w' => e = .returned (.bool true) ∧ Below w.heap.size w w' := fails_k [48, 48, 55] 0 4 (by decide) (fok_is (by kernel_rfl)) (by kernel_rfl) w hF hW
theorem fails_k1 (w : World) (hF : Facts w) (hW : FltFacts w) : Calls Tryz.prog 22 #[.string ⟨#[57, 50, 50, 51, 51, 55, 50, 48, 51, 54, 56, 53, 52, 55, 55, 53, 56, 48, 56]⟩, .int .i64 0, .int .i64 3] w fun e w' => e = .returned (.bool true) ∧ Below w.heap.size w w' := fails_k [57, 50, 50, 51, 51, 55, 50, 48, 51, 54, 56, 53, 52, 55, 55, 53, 56, 48, 56] 0 3 (by decide) (fok_is (by kernel_rfl)) (by kernel_rfl) w hF hW
theorem fails_k2 (w : World) (hF : Facts w) (hW : FltFacts w) : Calls Tryz.prog 22 #[.string ⟨#[49, 46, 53, 101, 48, 48, 48, 49]⟩, .int .i64 0, .int .i64 4] w fun e w' => e = .returned (.bool true) ∧ Below w.heap.size w w' := fails_k [49, 46, 53, 101, 48, 48, 48, 49] 0 4 (by decide) (fok_is (by kernel_rfl)) (by kernel_rfl) w hF hW
theorem fails_k3 (w : World) (hF : Facts w) (hW : FltFacts w) : Calls Tryz.prog 22 #[.string ⟨#[95]⟩, .int .i64 0, .int .i64 9] w fun e w' => e = .returned (.bool true) ∧ Below w.heap.size w w' := fails_k [95] 0 9 (by decide) (fok_is (by kernel_rfl)) (by kernel_rfl) w hF hW
theorem fails_k5 (w : World) (hF : Facts w) (hW : FltFacts w) : Calls Tryz.prog 22 #[.string ⟨#[34, 97]⟩, .int .i64 0, .int .i64 4] w fun e w' => e = .returned (.bool true) ∧ Below w.heap.size w w' := fails_k [34, 97] 0 4 (by decide) (fok_is (by kernel_rfl)) (by kernel_rfl) w hF hW
theorem fails_k6 (w : World) (hF : Facts w) (hW : FltFacts w) : Calls Tryz.prog 22 #[.string ⟨#[38]⟩, .int .i64 0, .int .i64 4] w fun e w' => e = .returned (.bool true) ∧ Below w.heap.size w w' := fails_k [38] 0 4 (by decide) (fok_is (by kernel_rfl)) (by kernel_rfl) w hF hW
theorem fails_k7 (w : World) (hF : Facts w) (hW : FltFacts w) : Calls Tryz.prog 22 #[.string ⟨#[120, 1]⟩, .int .i64 1, .int .i64 4] w fun e w' => e = .returned (.bool true) ∧ Below w.heap.size w w' := fails_k [120, 1] 1 4 (by decide) (fok_is (by kernel_rfl)) (by kernel_rfl) w hF hW
theorem fails_k8 (w : World) (hF : Facts w) (hW : FltFacts w) : Calls Tryz.prog 22 #[.string ⟨#[120, 32, 47, 47, 32, 255]⟩, .int .i64 5, .int .i64 8] w fun e w' => e = .returned (.bool true) ∧ Below w.heap.size w w' := fails_k [120, 32, 47, 47, 32, 255] 5 8 (by decide) (fok_is (by kernel_rfl)) (by kernel_rfl) w hF hW
theorem fails_k9 (w : World) (hF : Facts w) (hW : FltFacts w) : Calls Tryz.prog 22 #[.string ⟨#[34, 92, 120, 65, 66, 34]⟩, .int .i64 0, .int .i64 4] w fun e w' => e = .returned (.bool true) ∧ Below w.heap.size w w' := fails_k [34, 92, 120, 65, 66, 34] 0 4 (by decide) (fok_is (by kernel_rfl)) (by kernel_rfl) w hF hW
theorem fails_k10 (w : World) (hF : Facts w) (hW : FltFacts w) : Calls Tryz.prog 22 #[.string ⟨#[34, 97, 10, 34]⟩, .int .i64 0, .int .i64 4] w fun e w' => e = .returned (.bool true) ∧ Below w.heap.size w w' := fails_k [34, 97, 10, 34] 0 4 (by decide) (fok_is (by kernel_rfl)) (by kernel_rfl) w hF hW
theorem fails_k11 (w : World) (hF : Facts w) (hW : FltFacts w) : Calls Tryz.prog 22 #[.string ⟨#[120, 32, 195, 169]⟩, .int .i64 2, .int .i64 4] w fun e w' => e = .returned (.bool true) ∧ Below w.heap.size w w' := fails_k [120, 32, 195, 169] 2 4 (by decide) (fok_is (by kernel_rfl)) (by kernel_rfl) w hF hW
theorem rep_nod (c : UInt8) (n : Nat) (h : isD c = false) : ∀ d ∈ List.replicate n c, isD d = false := by
  intro d hd
  rw [(List.mem_replicate.1 hd).2]; exact h
theorem fails_k4 (w : World) (hF : Facts w) (hW : FltFacts w) : Calls Tryz.prog 22 #[.string ⟨(List.replicate 41 97).toArray⟩, .int .i64 0, .int .i64 3] w fun e w' => e = .returned (.bool true) ∧ Below w.heap.size w w' := fails_k (List.replicate 41 97) 0 3 (by rw [List.length_replicate]; omega) (fok_no (rep_nod 97 41 (by decide))) (by kernel_rfl) w hF hW
theorem fails_k12 (w : World) (hF : Facts w) (hW : FltFacts w) : Calls Tryz.prog 22 #[.string ⟨(List.replicate 65537 32).toArray⟩, .int .i64 65536, .int .i64 3] w fun e w' => e = .returned (.bool true) ∧ Below w.heap.size w w' := fails_k (List.replicate 65537 32) 65536 3 (by rw [List.length_replicate]; omega) (fok_no (rep_nod 32 65537 (by decide))) (tokens_long _ _ (by rw [List.length_replicate]; omega)) w hF hW
theorem qa_nod (n : Nat) : ∀ c ∈ qa n, isD c = false := by
  intro c hc
  rcases qa_mem n c hc with rfl | rfl <;> decide
theorem fails_k13 (w : World) (hF : Facts w) (hW : FltFacts w) : Calls Tryz.prog 22 #[.string ⟨(qa 4097).toArray⟩, .int .i64 0, .int .i64 3] w fun e w' => e = .returned (.bool true) ∧ Below w.heap.size w w' := fails_k (qa 4097) 0 3 (by rw [qa_len]; omega) (fok_no (qa_nod 4097)) (tokens_a _ 4097 (by omega) (by omega)) w hF hW
theorem value_k0 (w : World) (hF : Facts w) : Calls Tryz.prog 13 #[.string ⟨#[34, 97, 92, 110, 92, 120, 52, 49, 34]⟩] w fun e w' => e = .returned (.tuple #[.string ⟨#[97, 10, 65]⟩, .int .i64 0]) ∧ Below w.heap.size w w' := value_k [34, 97, 92, 110, 92, 120, 52, 49, 34] (.ok [97, 10, 65]) (by decide) (by kernel_rfl) w hF
theorem value_k1 (w : World) (hF : Facts w) : Calls Tryz.prog 13 #[.string ⟨#[34, 195, 169, 92, 116, 92, 92, 92, 34, 92, 120, 102, 102, 34]⟩] w fun e w' => e = .returned (.tuple #[.string ⟨#[195, 169, 9, 92, 34, 255]⟩, .int .i64 0]) ∧ Below w.heap.size w w' := value_k [34, 195, 169, 92, 116, 92, 92, 92, 34, 92, 120, 102, 102, 34] (.ok [195, 169, 9, 92, 34, 255]) (by decide) (by kernel_rfl) w hF
theorem value_k2 (w : World) (hF : Facts w) : Calls Tryz.prog 13 #[.string ⟨#[34, 97, 34, 32]⟩] w fun e w' => e = .returned (.tuple #[.string ⟨#[]⟩, .int .i64 4]) ∧ Below w.heap.size w w' := value_k [34, 97, 34, 32] (.error 4) (by decide) (by kernel_rfl) w hF
theorem value_k3 (w : World) (hF : Facts w) : Calls Tryz.prog 13 #[.string ⟨#[97]⟩] w fun e w' => e = .returned (.tuple #[.string ⟨#[]⟩, .int .i64 4]) ∧ Below w.heap.size w w' := value_k [97] (.error 4) (by decide) (by kernel_rfl) w hF
theorem value_k4 (w : World) (hF : Facts w) : Calls Tryz.prog 13 #[.string ⟨(qa 4096).toArray⟩] w fun e w' => e = .returned (.tuple #[.string ⟨(List.replicate 4096 97).toArray⟩, .int .i64 0]) ∧ Below w.heap.size w w' := value_k (qa 4096) (.ok (List.replicate 4096 97)) (by rw [qa_len]; omega) (by rw [val_a, if_neg (by omega)]) w hF
theorem value_k5 (w : World) (hF : Facts w) : Calls Tryz.prog 13 #[.string ⟨(qa 4097).toArray⟩] w fun e w' => e = .returned (.tuple #[.string ⟨#[]⟩, .int .i64 3]) ∧ Below w.heap.size w w' := value_k (qa 4097) (.error 3) (by rw [qa_len]; omega) (by rw [val_a, if_pos (by omega)]) w hF
theorem exp_k0 (w : World) : Calls Tryz.prog 19 #[.string ⟨#[65, 98]⟩] w fun e w' => e = .returned (.bool true) ∧ w = w' := exported_any ⟨#[65, 98]⟩ (by decide) w
theorem exp_k1 (w : World) : Calls Tryz.prog 19 #[.string ⟨#[97, 66]⟩] w fun e w' => e = .returned (.bool false) ∧ w = w' := exported_any ⟨#[97, 66]⟩ (by decide) w
theorem exp_k2 (w : World) : Calls Tryz.prog 19 #[.string ⟨#[95, 66]⟩] w fun e w' => e = .returned (.bool false) ∧ w = w' := exported_any ⟨#[95, 66]⟩ (by decide) w
theorem exp_k3 (w : World) : Calls Tryz.prog 19 #[.string ⟨#[]⟩] w fun e w' => e = .returned (.bool false) ∧ w = w' := exported_any ⟨#[]⟩ (by decide) w
theorem name_k0 (w : World) : Calls Tryz.prog 17 #[.string ⟨#[95, 49]⟩] w fun e w' => e = .returned (.bool true) ∧ w = w' := name_any ⟨#[95, 49]⟩ (by decide) w
theorem name_k1 (w : World) : Calls Tryz.prog 17 #[.string ⟨#[49, 97]⟩] w fun e w' => e = .returned (.bool false) ∧ w = w' := name_any ⟨#[49, 97]⟩ (by decide) w
theorem name_k2 (w : World) : Calls Tryz.prog 17 #[.string ⟨#[95]⟩] w fun e w' => e = .returned (.bool false) ∧ w = w' := name_any ⟨#[95]⟩ (by decide) w
theorem name_r40 (w : World) : Calls Tryz.prog 17 #[.string ⟨(List.replicate 40 97).toArray⟩] w fun e w' => e = .returned (.bool true) ∧ w = w' := by
  have := name_any ⟨(List.replicate 40 97).toArray⟩ (by show (List.replicate 40 (97 : UInt8)).length ≤ 1000000; rw [List.length_replicate]; omega) w
  have e : nameB (⟨(List.replicate 40 97).toArray⟩ : ByteArray).data.toList = true := by kernel_rfl
  rw [e] at this
  exact this
theorem name_r41 (w : World) : Calls Tryz.prog 17 #[.string ⟨(List.replicate 41 97).toArray⟩] w fun e w' => e = .returned (.bool false) ∧ w = w' := by
  have := name_any ⟨(List.replicate 41 97).toArray⟩ (by show (List.replicate 41 (97 : UInt8)).length ≤ 1000000; rw [List.length_replicate]; omega) w
  have e : nameB (⟨(List.replicate 41 97).toArray⟩ : ByteArray).data.toList = false := by kernel_rfl
  rw [e] at this
  exact this
theorem res_k0 (w : World) : Calls Tryz.prog 15 #[.string ⟨#[108, 101, 110]⟩] w fun e w' => e = .returned (.bool true) ∧ w = w' := reserved_any ⟨#[108, 101, 110]⟩ w
theorem res_k1 (w : World) : Calls Tryz.prog 15 #[.string ⟨#[110, 105, 108]⟩] w fun e w' => e = .returned (.bool false) ∧ w = w' := reserved_any ⟨#[110, 105, 108]⟩ w
set_option maxRecDepth 100000 in
set_option maxHeartbeats 4000000 in
/-- ████ LexerKnown. -/
theorem lexerKnown_walk (w : World) (hF : Facts w) (hW : FltFacts w) : Calls Tryz.prog 5 #[] w fun e w' => e = .returned (.bool true) ∧ Below w.heap.size w w' := by
  obtain ⟨R41, h41⟩ : ∃ R : ByteArray, R = ⟨(List.replicate 41 97).toArray⟩ := ⟨_, rfl⟩
  obtain ⟨R40, h40⟩ : ∃ R : ByteArray, R = ⟨(List.replicate 40 97).toArray⟩ := ⟨_, rfl⟩
  obtain ⟨RB, hB⟩ : ∃ R : ByteArray, R = ⟨(List.replicate 65537 32).toArray⟩ := ⟨_, rfl⟩
  obtain ⟨R6, h6⟩ : ∃ R : ByteArray, R = ⟨(List.replicate 4096 97).toArray⟩ := ⟨_, rfl⟩
  obtain ⟨R7, h7⟩ : ∃ R : ByteArray, R = ⟨(List.replicate 4097 97).toArray⟩ := ⟨_, rfl⟩
  obtain ⟨V6, hV⟩ : ∃ V : ByteArray, V = ⟨(List.replicate 4096 97).toArray⟩ := ⟨_, rfl⟩
  have P41 := Lib.hid (show ∀ w, Calls Tryz.prog 23 #[.string ⟨#[97]⟩, .int .i64 41] w fun e w' => e = .returned (.string ⟨(List.replicate 41 97).toArray⟩) ∧ Below w.heap.size w w' from fun w => rep_k 97 41 (by omega) w)
  have P40 := Lib.hid (show ∀ w, Calls Tryz.prog 23 #[.string ⟨#[97]⟩, .int .i64 40] w fun e w' => e = .returned (.string ⟨(List.replicate 40 97).toArray⟩) ∧ Below w.heap.size w w' from fun w => rep_k 97 40 (by omega) w)
  have PB := Lib.hid (show ∀ w, Calls Tryz.prog 23 #[.string ⟨#[32]⟩, .int .i64 65537] w fun e w' => e = .returned (.string ⟨(List.replicate 65537 32).toArray⟩) ∧ Below w.heap.size w w' from fun w => rep_k 32 65537 (by omega) w)
  have P6 := Lib.hid (show ∀ w, Calls Tryz.prog 23 #[.string ⟨#[97]⟩, .int .i64 4096] w fun e w' => e = .returned (.string ⟨(List.replicate 4096 97).toArray⟩) ∧ Below w.heap.size w w' from fun w => rep_k 97 4096 (by omega) w)
  have P7 := Lib.hid (show ∀ w, Calls Tryz.prog 23 #[.string ⟨#[97]⟩, .int .i64 4097] w fun e w' => e = .returned (.string ⟨(List.replicate 4097 97).toArray⟩) ∧ Below w.heap.size w w' from fun w => rep_k 97 4097 (by omega) w)
  have F41 := Lib.hid fails_k4
  have FB := Lib.hid fails_k12
  have F7 := Lib.hid fails_k13
  have V6' := Lib.hid value_k4
  have V7 := Lib.hid value_k5
  have N41 := Lib.hid name_r41
  have N40 := Lib.hid name_r40
  rw [← quote_k R7 4097 h7] at F7 V7
  rw [← quote_k R6 4096 h6] at V6'
  rw [← h41] at P41 F41 N41
  rw [← h40] at P40 N40
  rw [← hB] at PB FB
  rw [← h6] at P6
  rw [← h7] at P7
  rw [← hV] at V6'
  have s41 : R41.size = 41 := by rw [h41]; exact List.length_replicate
  have s6 : R6.size = 4096 := by rw [h6]; exact List.length_replicate
  have s7 : R7.size = 4097 := by rw [h7]; exact List.length_replicate
  clear h41 h40 hB h6 h7 hV
  have HF := Lib.hid hF
  have HW := Lib.hid hW
  have HB := Lib.hid (Below.refl w.heap.size w)
  clear hF hW
  go_enter Tryz.func5, Tryz.ntmps5

  go_wp2_with fail
  refine (told_k0 _ HF.out HW.out).mono ?_
  rintro e w1 ⟨rfl, hb⟩
  replace HF := Lib.hid (HF.out.below hb)
  replace HW := Lib.hid (HW.out.below hb)
  replace HB := Lib.hid (HB.out.trans (hb.mono HB.out.size))
  clear hb
  go_wp2_with fail
  refine (told_k1 _ HF.out HW.out).mono ?_
  rintro e w1 ⟨rfl, hb⟩
  replace HF := Lib.hid (HF.out.below hb)
  replace HW := Lib.hid (HW.out.below hb)
  replace HB := Lib.hid (HB.out.trans (hb.mono HB.out.size))
  clear hb
  go_wp2_with fail
  refine (told_k2 _ HF.out HW.out).mono ?_
  rintro e w1 ⟨rfl, hb⟩
  replace HF := Lib.hid (HF.out.below hb)
  replace HW := Lib.hid (HW.out.below hb)
  replace HB := Lib.hid (HB.out.trans (hb.mono HB.out.size))
  clear hb
  go_wp2_with fail
  refine (told_k3 _ HF.out HW.out).mono ?_
  rintro e w1 ⟨rfl, hb⟩
  replace HF := Lib.hid (HF.out.below hb)
  replace HW := Lib.hid (HW.out.below hb)
  replace HB := Lib.hid (HB.out.trans (hb.mono HB.out.size))
  clear hb
  go_wp2_with fail
  refine (told_k4 _ HF.out HW.out).mono ?_
  rintro e w1 ⟨rfl, hb⟩
  replace HF := Lib.hid (HF.out.below hb)
  replace HW := Lib.hid (HW.out.below hb)
  replace HB := Lib.hid (HB.out.trans (hb.mono HB.out.size))
  clear hb
  go_wp2_with fail
  refine (told_k5 _ HF.out HW.out).mono ?_
  rintro e w1 ⟨rfl, hb⟩
  replace HF := Lib.hid (HF.out.below hb)
  replace HW := Lib.hid (HW.out.below hb)
  replace HB := Lib.hid (HB.out.trans (hb.mono HB.out.size))
  clear hb
  go_wp2_with fail
  refine (told_k6 _ HF.out HW.out).mono ?_
  rintro e w1 ⟨rfl, hb⟩
  replace HF := Lib.hid (HF.out.below hb)
  replace HW := Lib.hid (HW.out.below hb)
  replace HB := Lib.hid (HB.out.trans (hb.mono HB.out.size))
  clear hb
  go_wp2_with fail
  refine (told_k7 _ HF.out HW.out).mono ?_
  rintro e w1 ⟨rfl, hb⟩
  replace HF := Lib.hid (HF.out.below hb)
  replace HW := Lib.hid (HW.out.below hb)
  replace HB := Lib.hid (HB.out.trans (hb.mono HB.out.size))
  clear hb
  go_wp2_with fail
  refine (told_k8 _ HF.out HW.out).mono ?_
  rintro e w1 ⟨rfl, hb⟩
  replace HF := Lib.hid (HF.out.below hb)
  replace HW := Lib.hid (HW.out.below hb)
  replace HB := Lib.hid (HB.out.trans (hb.mono HB.out.size))
  clear hb
  go_wp2_with fail
  refine (fails_k0 _ HF.out HW.out).mono ?_
  rintro e w1 ⟨rfl, hb⟩
  replace HF := Lib.hid (HF.out.below hb)
  replace HW := Lib.hid (HW.out.below hb)
  replace HB := Lib.hid (HB.out.trans (hb.mono HB.out.size))
  clear hb
  go_wp2_with fail
  refine (fails_k1 _ HF.out HW.out).mono ?_
  rintro e w1 ⟨rfl, hb⟩
  replace HF := Lib.hid (HF.out.below hb)
  replace HW := Lib.hid (HW.out.below hb)
  replace HB := Lib.hid (HB.out.trans (hb.mono HB.out.size))
  clear hb
  go_wp2_with fail
  refine (fails_k2 _ HF.out HW.out).mono ?_
  rintro e w1 ⟨rfl, hb⟩
  replace HF := Lib.hid (HF.out.below hb)
  replace HW := Lib.hid (HW.out.below hb)
  replace HB := Lib.hid (HB.out.trans (hb.mono HB.out.size))
  clear hb
  go_wp2_with fail
  refine (fails_k3 _ HF.out HW.out).mono ?_
  rintro e w1 ⟨rfl, hb⟩
  replace HF := Lib.hid (HF.out.below hb)
  replace HW := Lib.hid (HW.out.below hb)
  replace HB := Lib.hid (HB.out.trans (hb.mono HB.out.size))
  clear hb
  go_wp2_with fail
  refine (P41.out _).mono ?_
  rintro e w1 ⟨rfl, hb⟩
  replace HF := Lib.hid (HF.out.below hb)
  replace HW := Lib.hid (HW.out.below hb)
  replace HB := Lib.hid (HB.out.trans (hb.mono HB.out.size))
  clear hb
  go_wp2_with fail
  refine (F41.out _ HF.out HW.out).mono ?_
  rintro e w1 ⟨rfl, hb⟩
  replace HF := Lib.hid (HF.out.below hb)
  replace HW := Lib.hid (HW.out.below hb)
  replace HB := Lib.hid (HB.out.trans (hb.mono HB.out.size))
  clear hb
  go_wp2_with fail
  refine (fails_k5 _ HF.out HW.out).mono ?_
  rintro e w1 ⟨rfl, hb⟩
  replace HF := Lib.hid (HF.out.below hb)
  replace HW := Lib.hid (HW.out.below hb)
  replace HB := Lib.hid (HB.out.trans (hb.mono HB.out.size))
  clear hb
  go_wp2_with fail
  refine (fails_k6 _ HF.out HW.out).mono ?_
  rintro e w1 ⟨rfl, hb⟩
  replace HF := Lib.hid (HF.out.below hb)
  replace HW := Lib.hid (HW.out.below hb)
  replace HB := Lib.hid (HB.out.trans (hb.mono HB.out.size))
  clear hb
  go_wp2_with fail
  refine (fails_k7 _ HF.out HW.out).mono ?_
  rintro e w1 ⟨rfl, hb⟩
  replace HF := Lib.hid (HF.out.below hb)
  replace HW := Lib.hid (HW.out.below hb)
  replace HB := Lib.hid (HB.out.trans (hb.mono HB.out.size))
  clear hb
  go_wp2_with fail
  refine (fails_k8 _ HF.out HW.out).mono ?_
  rintro e w1 ⟨rfl, hb⟩
  replace HF := Lib.hid (HF.out.below hb)
  replace HW := Lib.hid (HW.out.below hb)
  replace HB := Lib.hid (HB.out.trans (hb.mono HB.out.size))
  clear hb
  go_wp2_with fail
  refine (fails_k9 _ HF.out HW.out).mono ?_
  rintro e w1 ⟨rfl, hb⟩
  replace HF := Lib.hid (HF.out.below hb)
  replace HW := Lib.hid (HW.out.below hb)
  replace HB := Lib.hid (HB.out.trans (hb.mono HB.out.size))
  clear hb
  go_wp2_with fail
  refine (fails_k10 _ HF.out HW.out).mono ?_
  rintro e w1 ⟨rfl, hb⟩
  replace HF := Lib.hid (HF.out.below hb)
  replace HW := Lib.hid (HW.out.below hb)
  replace HB := Lib.hid (HB.out.trans (hb.mono HB.out.size))
  clear hb
  go_wp2_with fail
  refine (fails_k11 _ HF.out HW.out).mono ?_
  rintro e w1 ⟨rfl, hb⟩
  replace HF := Lib.hid (HF.out.below hb)
  replace HW := Lib.hid (HW.out.below hb)
  replace HB := Lib.hid (HB.out.trans (hb.mono HB.out.size))
  clear hb
  go_wp2_with fail
  refine (PB.out _).mono ?_
  rintro e w1 ⟨rfl, hb⟩
  replace HF := Lib.hid (HF.out.below hb)
  replace HW := Lib.hid (HW.out.below hb)
  replace HB := Lib.hid (HB.out.trans (hb.mono HB.out.size))
  clear hb
  go_wp2_with fail
  refine (FB.out _ HF.out HW.out).mono ?_
  rintro e w1 ⟨rfl, hb⟩
  replace HF := Lib.hid (HF.out.below hb)
  replace HW := Lib.hid (HW.out.below hb)
  replace HB := Lib.hid (HB.out.trans (hb.mono HB.out.size))
  clear hb
  go_wp2_with fail
  refine (P7.out _).mono ?_
  rintro e w1 ⟨rfl, hb⟩
  replace HF := Lib.hid (HF.out.below hb)
  replace HW := Lib.hid (HW.out.below hb)
  replace HB := Lib.hid (HB.out.trans (hb.mono HB.out.size))
  clear hb
  go_wp2_with fail
  refine (F7.out _ HF.out HW.out).mono ?_
  rintro e w1 ⟨rfl, hb⟩
  replace HF := Lib.hid (HF.out.below hb)
  replace HW := Lib.hid (HW.out.below hb)
  replace HB := Lib.hid (HB.out.trans (hb.mono HB.out.size))
  clear hb
  go_wp2_with fail
  refine (value_k0 _ HF.out).mono ?_
  rintro e w1 ⟨rfl, hb⟩
  replace HF := Lib.hid (HF.out.below hb)
  replace HW := Lib.hid (HW.out.below hb)
  replace HB := Lib.hid (HB.out.trans (hb.mono HB.out.size))
  clear hb
  go_wp2_with fail
  refine (value_k1 _ HF.out).mono ?_
  rintro e w1 ⟨rfl, hb⟩
  replace HF := Lib.hid (HF.out.below hb)
  replace HW := Lib.hid (HW.out.below hb)
  replace HB := Lib.hid (HB.out.trans (hb.mono HB.out.size))
  clear hb
  go_wp2_with fail
  refine (value_k2 _ HF.out).mono ?_
  rintro e w1 ⟨rfl, hb⟩
  replace HF := Lib.hid (HF.out.below hb)
  replace HW := Lib.hid (HW.out.below hb)
  replace HB := Lib.hid (HB.out.trans (hb.mono HB.out.size))
  clear hb
  go_wp2_with fail
  refine (value_k3 _ HF.out).mono ?_
  rintro e w1 ⟨rfl, hb⟩
  replace HF := Lib.hid (HF.out.below hb)
  replace HW := Lib.hid (HW.out.below hb)
  replace HB := Lib.hid (HB.out.trans (hb.mono HB.out.size))
  clear hb
  go_wp2_with fail
  refine (P6.out _).mono ?_
  rintro e w1 ⟨rfl, hb⟩
  replace HF := Lib.hid (HF.out.below hb)
  replace HW := Lib.hid (HW.out.below hb)
  replace HB := Lib.hid (HB.out.trans (hb.mono HB.out.size))
  clear hb
  go_wp2_with fail
  refine (V6'.out _ HF.out).mono ?_
  rintro e w1 ⟨rfl, hb⟩
  replace HF := Lib.hid (HF.out.below hb)
  replace HW := Lib.hid (HW.out.below hb)
  replace HB := Lib.hid (HB.out.trans (hb.mono HB.out.size))
  clear hb
  go_wp2_with fail
  refine (P7.out _).mono ?_
  rintro e w1 ⟨rfl, hb⟩
  replace HF := Lib.hid (HF.out.below hb)
  replace HW := Lib.hid (HW.out.below hb)
  replace HB := Lib.hid (HB.out.trans (hb.mono HB.out.size))
  clear hb
  go_wp2_with fail
  refine (V7.out _ HF.out).mono ?_
  rintro e w1 ⟨rfl, hb⟩
  replace HF := Lib.hid (HF.out.below hb)
  replace HW := Lib.hid (HW.out.below hb)
  replace HB := Lib.hid (HB.out.trans (hb.mono HB.out.size))
  clear hb
  go_wp2_with fail
  refine (exp_k0 _).mono ?_
  rintro e w' ⟨rfl, rfl⟩
  go_wp2_with fail
  refine (exp_k1 _).mono ?_
  rintro e w' ⟨rfl, rfl⟩
  go_wp2_with fail
  refine (exp_k2 _).mono ?_
  rintro e w' ⟨rfl, rfl⟩
  go_wp2_with fail
  refine (exp_k3 _).mono ?_
  rintro e w' ⟨rfl, rfl⟩
  go_wp2_with fail
  refine (name_k0 _).mono ?_
  rintro e w' ⟨rfl, rfl⟩
  go_wp2_with fail
  refine (name_k1 _).mono ?_
  rintro e w' ⟨rfl, rfl⟩
  go_wp2_with fail
  refine (name_k2 _).mono ?_
  rintro e w' ⟨rfl, rfl⟩
  go_wp2_with fail
  refine (P40.out _).mono ?_
  rintro e w1 ⟨rfl, hb⟩
  replace HF := Lib.hid (HF.out.below hb)
  replace HW := Lib.hid (HW.out.below hb)
  replace HB := Lib.hid (HB.out.trans (hb.mono HB.out.size))
  clear hb
  go_wp2_with fail
  refine (N40.out _).mono ?_
  rintro e w' ⟨rfl, rfl⟩
  go_wp2_with fail
  refine (P41.out _).mono ?_
  rintro e w1 ⟨rfl, hb⟩
  replace HF := Lib.hid (HF.out.below hb)
  replace HW := Lib.hid (HW.out.below hb)
  replace HB := Lib.hid (HB.out.trans (hb.mono HB.out.size))
  clear hb
  go_wp2_with fail
  refine (N41.out _).mono ?_
  rintro e w' ⟨rfl, rfl⟩
  go_wp2_with fail
  refine (res_k0 _).mono ?_
  rintro e w' ⟨rfl, rfl⟩
  go_wp2_with fail
  refine (res_k1 _).mono ?_
  rintro e w' ⟨rfl, rfl⟩
  go_wp2_with fail
  refine (awake_any spec_none9 _ HF.out trivial).mono ?_
  rintro e w1 ⟨rfl, hb⟩
  replace HF := Lib.hid (HF.out.below hb)
  replace HW := Lib.hid (HW.out.below hb)
  replace HB := Lib.hid (HB.out.trans (hb.mono HB.out.size))
  clear hb
  go_wp2_with fail
  go_ret
  exact ⟨rfl, HB.out⟩
end Go.Proofs.YtfjdhnfghdnmoaaGreatDoor
