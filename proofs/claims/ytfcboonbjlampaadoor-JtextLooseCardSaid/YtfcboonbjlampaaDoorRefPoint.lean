/-
  emendref03.point AT EVERY POINT: its bytes as a text; no memory that was there turns. Condition: the number is a point.
-/
import Derived.Test.YtfcboonbjlampaaDoorStr
import Derived.Laws.NewBlocks
namespace Go.Proofs.YtfcboonbjlampaaDoor
open Go.RowKit

theorem row_new (w : World) (l : List UInt8) (hl : l.length ≤ 100) : (w.alloc (.cells (bcells l).toArray 5)).ownsRow w.heap.size 5 1 (.slice (some ⟨w.heap.size, 0, none⟩) l.length l.length) l.length (bcells l) := by
  refine ⟨by rw [bcells_len, Nat.mul_one], .inr ⟨w.heap.size, l.length, (bcells l).toArray, rfl, Nat.le_refl _, ?_, Nat.le_refl _, by unfold maxLen; omega, by rw [List.size_toArray, bcells_len, Nat.mul_one], by rw [Nat.mul_one, ← bcells_len l, List.take_length]⟩⟩
  unfold World.alloc
  exact Array.getElem?_push_size
theorem conv_new (w : World) (l : List UInt8) (hl : l.length ≤ 100) (cs : Array Value) (hc : cs = (bcells l).toArray) (k : Nat) (hk : k = l.length) : (convert 35 9 (.slice (some ⟨w.heap.size, 0, none⟩) k k)).run Tryd.prog (w.alloc (.cells cs 5)) = .ok (.string ⟨l.toArray⟩) (w.alloc (.cells cs 5)) := by
  subst hc hk
  exact str_conv (row_new w l hl)
theorem byte_cell (n : Nat) (h : n < 256) (z : Int) (hz : z = (n : Int)) : Value.int .u8 z = Value.int .u8 ((UInt8.ofNat n).toNat : Int) := by
  rw [ofNat_toNat n h, hz]
set_option maxRecDepth 100000 in
theorem point_any (p : Nat) (hp : isPt (p : Int) = true) (w : World) : Calls Tryd.prog 83 #[.int .i64 (p : Int)] w fun e w' => e = .returned (.string ⟨(encL p).toArray⟩) ∧ Below w.heap.size w w' := by
  have hb : p ≤ 1114111 := by unfold isPt at hp; rw [decide_eq_true_eq] at hp; omega
  by_cases h1 : p < 128
  · have e : encL p = [UInt8.ofNat p] := by unfold encL encN; rw [if_pos h1]; rfl
    have hcv := conv_new w (encL p) (by rw [e]; simp) #[.int .u8 (p : Int)] (by rw [e]; exact congrArg (fun v => #[v]) (byte_cell p (by omega) _ rfl)) 1 (by rw [e]; rfl)
    have d1 : decide ((p : Int) < 128) = true := by simp; omega
    clear e
    generalize encL p = l at *
    have d : (p : Int) ≤ 127 := by omega
    go_enter Tryd.func83, Tryd.ntmps83
    go_wp2_with fail
    go_ret
    exact ⟨rfl, (Below.refl _ _).alloc (Nat.le_refl _) _⟩
  by_cases h2 : p < 2048
  · have e : encL p = [UInt8.ofNat (192 + p / 64), UInt8.ofNat (128 + p % 64)] := by unfold encL encN; rw [if_neg h1, if_pos h2]; rfl
    have hcv := conv_new w (encL p) (by rw [e]; simp) #[.int .u8 (192 + (p : Int) / 64), .int .u8 (128 + (p : Int) % 64)] (by
      rw [e]
      show _ = #[_, _]
      rw [byte_cell (192 + p / 64) (by omega) (192 + (p : Int) / 64) (by omega), byte_cell (128 + p % 64) (by omega) (128 + (p : Int) % 64) (by omega)]) 2 (by rw [e]; rfl)
    have d1 : decide ((p : Int) < 128) = false := by simp; omega
    have d2 : decide ((p : Int) < 2048) = true := by simp; omega
    clear e
    generalize encL p = l at *
    have d : (p : Int) ≤ 2047 := by omega
    go_enter Tryd.func83, Tryd.ntmps83
    go_wp2_with fail
    go_ret
    exact ⟨rfl, (Below.refl _ _).alloc (Nat.le_refl _) _⟩
  by_cases h3 : p < 65536
  · have e : encL p = [UInt8.ofNat (224 + p / 4096), UInt8.ofNat (128 + p / 64 % 64), UInt8.ofNat (128 + p % 64)] := by unfold encL encN; rw [if_neg h1, if_neg h2, if_pos h3]; rfl
    have hcv := conv_new w (encL p) (by rw [e]; simp) #[.int .u8 (224 + (p : Int) / 4096), .int .u8 (128 + (p : Int) / 64 % 64), .int .u8 (128 + (p : Int) % 64)] (by
      rw [e]
      show _ = #[_, _, _]
      rw [byte_cell (224 + p / 4096) (by omega) (224 + (p : Int) / 4096) (by omega), byte_cell (128 + p / 64 % 64) (by omega) (128 + (p : Int) / 64 % 64) (by omega), byte_cell (128 + p % 64) (by omega) (128 + (p : Int) % 64) (by omega)]) 3 (by rw [e]; rfl)
    have d1 : decide ((p : Int) < 128) = false := by simp; omega
    have d2 : decide ((p : Int) < 2048) = false := by simp; omega
    have d3 : decide ((p : Int) < 65536) = true := by simp; omega
    clear e
    generalize encL p = l at *
    have d : (p : Int) ≤ 65535 := by omega
    go_enter Tryd.func83, Tryd.ntmps83
    go_wp2_with fail
    go_ret
    exact ⟨rfl, (Below.refl _ _).alloc (Nat.le_refl _) _⟩
  · have e : encL p = [UInt8.ofNat (240 + p / 262144), UInt8.ofNat (128 + p / 4096 % 64), UInt8.ofNat (128 + p / 64 % 64), UInt8.ofNat (128 + p % 64)] := by unfold encL encN; rw [if_neg h1, if_neg h2, if_neg h3]; rfl
    have hcv := conv_new w (encL p) (by rw [e]; simp) #[.int .u8 (240 + (p : Int) / 262144), .int .u8 (128 + (p : Int) / 4096 % 64), .int .u8 (128 + (p : Int) / 64 % 64), .int .u8 (128 + (p : Int) % 64)] (by
      rw [e]
      show _ = #[_, _, _, _]
      rw [byte_cell (240 + p / 262144) (by omega) (240 + (p : Int) / 262144) (by omega), byte_cell (128 + p / 4096 % 64) (by omega) (128 + (p : Int) / 4096 % 64) (by omega), byte_cell (128 + p / 64 % 64) (by omega) (128 + (p : Int) / 64 % 64) (by omega), byte_cell (128 + p % 64) (by omega) (128 + (p : Int) % 64) (by omega)]) 4 (by rw [e]; rfl)
    have d1 : decide ((p : Int) < 128) = false := by simp; omega
    have d2 : decide ((p : Int) < 2048) = false := by simp; omega
    have d3 : decide ((p : Int) < 65536) = false := by simp; omega
    clear e
    generalize encL p = l at *
    have d : (p : Int) ≤ 1114111 := by omega
    go_enter Tryd.func83, Tryd.ntmps83
    go_wp2_with fail
    go_ret
    exact ⟨rfl, (Below.refl _ _).alloc (Nat.le_refl _) _⟩
end Go.Proofs.YtfcboonbjlampaaDoor
