/- lexer's Reserved, nameFault, wantsSemicolon, findWord AT EVERY TEXT: what they return; no memory that was there turns. Condition of findWord: the text's length. -/
import Derived.Test.YtmlclgkhnekmnaaGreatDoorLScan
import Derived.Laws.NewBlocks
namespace Go.Proofs.YtmlclgkhnekmnaaGreatDoor
open Go.RowKit
theorem toL (x : ByteArray) : x.toList = x.data.toList := by rw [Lib.toList_data]
theorem tl_eq {x : ByteArray} {l : List UInt8} (h : x.data.toList = l) : (x.toList == l) = true := by rw [toL, h]; simp
theorem tl_ne {x : ByteArray} {l m : List UInt8} (h : x.data.toList = l) (hn : l ≠ m) : (x.toList == m) = false := by rw [toL, h]; simpa using hn
theorem tl_no {x : ByteArray} {m : List UInt8} (h : ¬ x.data.toList = m) : (x.toList == m) = false := by rw [toL]; simpa using h
set_option maxHeartbeats 1000000 in
theorem reserved_any (x : ByteArray) (w : World) : Calls Tryz.prog 73 #[.string x] w fun e w' => e = .returned (.bool (isRes x.data.toList)) ∧ w = w' := by
 have hall : x.data.toList = [98, 114, 101, 97, 107] ∨ x.data.toList = [99, 111, 110, 116, 105, 110, 117, 101] ∨ x.data.toList = [101, 108, 115, 101] ∨ x.data.toList = [102, 97, 108, 115, 101] ∨ x.data.toList = [102, 108, 111, 97, 116, 54, 52] ∨ x.data.toList = [102, 111, 114] ∨ x.data.toList = [102, 117, 110, 99] ∨ x.data.toList = [105, 102] ∨ x.data.toList = [105, 109, 112, 111, 114, 116] ∨ x.data.toList = [105, 110, 116] ∨ x.data.toList = [98, 111, 111, 108] ∨ x.data.toList = [115, 116, 114, 105, 110, 103] ∨ x.data.toList = [108, 101, 110] ∨ x.data.toList = [112, 97, 99, 107, 97, 103, 101] ∨ x.data.toList = [112, 97, 110, 105, 99] ∨ x.data.toList = [112, 114, 105, 110, 116] ∨ x.data.toList = [114, 101, 116, 117, 114, 110] ∨ x.data.toList = [115, 116, 114, 117, 99, 116] ∨ x.data.toList = [116, 114, 117, 101] ∨ x.data.toList = [116, 121, 112, 101] ∨ x.data.toList = [118, 97, 114] ∨ (¬ x.data.toList = [98, 114, 101, 97, 107] ∧ ¬ x.data.toList = [99, 111, 110, 116, 105, 110, 117, 101] ∧ ¬ x.data.toList = [101, 108, 115, 101] ∧ ¬ x.data.toList = [102, 97, 108, 115, 101] ∧ ¬ x.data.toList = [102, 108, 111, 97, 116, 54, 52] ∧ ¬ x.data.toList = [102, 111, 114] ∧ ¬ x.data.toList = [102, 117, 110, 99] ∧ ¬ x.data.toList = [105, 102] ∧ ¬ x.data.toList = [105, 109, 112, 111, 114, 116] ∧ ¬ x.data.toList = [105, 110, 116] ∧ ¬ x.data.toList = [98, 111, 111, 108] ∧ ¬ x.data.toList = [115, 116, 114, 105, 110, 103] ∧ ¬ x.data.toList = [108, 101, 110] ∧ ¬ x.data.toList = [112, 97, 99, 107, 97, 103, 101] ∧ ¬ x.data.toList = [112, 97, 110, 105, 99] ∧ ¬ x.data.toList = [112, 114, 105, 110, 116] ∧ ¬ x.data.toList = [114, 101, 116, 117, 114, 110] ∧ ¬ x.data.toList = [115, 116, 114, 117, 99, 116] ∧ ¬ x.data.toList = [116, 114, 117, 101] ∧ ¬ x.data.toList = [116, 121, 112, 101] ∧ ¬ x.data.toList = [118, 97, 114]) := by
  by_cases h0 : x.data.toList = [98, 114, 101, 97, 107]
  · exact .inl h0
  by_cases h1 : x.data.toList = [99, 111, 110, 116, 105, 110, 117, 101]
  · exact .inr (.inl h1)
  by_cases h2 : x.data.toList = [101, 108, 115, 101]
  · exact .inr (.inr (.inl h2))
  by_cases h3 : x.data.toList = [102, 97, 108, 115, 101]
  · exact .inr (.inr (.inr (.inl h3)))
  by_cases h4 : x.data.toList = [102, 108, 111, 97, 116, 54, 52]
  · exact .inr (.inr (.inr (.inr (.inl h4))))
  by_cases h5 : x.data.toList = [102, 111, 114]
  · exact .inr (.inr (.inr (.inr (.inr (.inl h5)))))
  by_cases h6 : x.data.toList = [102, 117, 110, 99]
  · exact .inr (.inr (.inr (.inr (.inr (.inr (.inl h6))))))
  by_cases h7 : x.data.toList = [105, 102]
  · exact .inr (.inr (.inr (.inr (.inr (.inr (.inr (.inl h7)))))))
  by_cases h8 : x.data.toList = [105, 109, 112, 111, 114, 116]
  · exact .inr (.inr (.inr (.inr (.inr (.inr (.inr (.inr (.inl h8))))))))
  by_cases h9 : x.data.toList = [105, 110, 116]
  · exact .inr (.inr (.inr (.inr (.inr (.inr (.inr (.inr (.inr (.inl h9)))))))))
  by_cases h10 : x.data.toList = [98, 111, 111, 108]
  · exact .inr (.inr (.inr (.inr (.inr (.inr (.inr (.inr (.inr (.inr (.inl h10))))))))))
  by_cases h11 : x.data.toList = [115, 116, 114, 105, 110, 103]
  · exact .inr (.inr (.inr (.inr (.inr (.inr (.inr (.inr (.inr (.inr (.inr (.inl h11)))))))))))
  by_cases h12 : x.data.toList = [108, 101, 110]
  · exact .inr (.inr (.inr (.inr (.inr (.inr (.inr (.inr (.inr (.inr (.inr (.inr (.inl h12))))))))))))
  by_cases h13 : x.data.toList = [112, 97, 99, 107, 97, 103, 101]
  · exact .inr (.inr (.inr (.inr (.inr (.inr (.inr (.inr (.inr (.inr (.inr (.inr (.inr (.inl h13)))))))))))))
  by_cases h14 : x.data.toList = [112, 97, 110, 105, 99]
  · exact .inr (.inr (.inr (.inr (.inr (.inr (.inr (.inr (.inr (.inr (.inr (.inr (.inr (.inr (.inl h14))))))))))))))
  by_cases h15 : x.data.toList = [112, 114, 105, 110, 116]
  · exact .inr (.inr (.inr (.inr (.inr (.inr (.inr (.inr (.inr (.inr (.inr (.inr (.inr (.inr (.inr (.inl h15)))))))))))))))
  by_cases h16 : x.data.toList = [114, 101, 116, 117, 114, 110]
  · exact .inr (.inr (.inr (.inr (.inr (.inr (.inr (.inr (.inr (.inr (.inr (.inr (.inr (.inr (.inr (.inr (.inl h16))))))))))))))))
  by_cases h17 : x.data.toList = [115, 116, 114, 117, 99, 116]
  · exact .inr (.inr (.inr (.inr (.inr (.inr (.inr (.inr (.inr (.inr (.inr (.inr (.inr (.inr (.inr (.inr (.inr (.inl h17)))))))))))))))))
  by_cases h18 : x.data.toList = [116, 114, 117, 101]
  · exact .inr (.inr (.inr (.inr (.inr (.inr (.inr (.inr (.inr (.inr (.inr (.inr (.inr (.inr (.inr (.inr (.inr (.inr (.inl h18))))))))))))))))))
  by_cases h19 : x.data.toList = [116, 121, 112, 101]
  · exact .inr (.inr (.inr (.inr (.inr (.inr (.inr (.inr (.inr (.inr (.inr (.inr (.inr (.inr (.inr (.inr (.inr (.inr (.inr (.inl h19)))))))))))))))))))
  by_cases h20 : x.data.toList = [118, 97, 114]
  · exact .inr (.inr (.inr (.inr (.inr (.inr (.inr (.inr (.inr (.inr (.inr (.inr (.inr (.inr (.inr (.inr (.inr (.inr (.inr (.inr (.inl h20))))))))))))))))))))
  exact .inr (.inr (.inr (.inr (.inr (.inr (.inr (.inr (.inr (.inr (.inr (.inr (.inr (.inr (.inr (.inr (.inr (.inr (.inr (.inr (.inr ⟨h0, h1, h2, h3, h4, h5, h6, h7, h8, h9, h10, h11, h12, h13, h14, h15, h16, h17, h18, h19, h20⟩))))))))))))))))))))
 rcases hall with h | h | h | h | h | h | h | h | h | h | h | h | h | h | h | h | h | h | h | h | h | ⟨h0, h1, h2, h3, h4, h5, h6, h7, h8, h9, h10, h11, h12, h13, h14, h15, h16, h17, h18, h19, h20⟩
 · have hv := (by decide : isRes [98, 114, 101, 97, 107] = true)
   have q0 := tl_eq h
   rw [h, hv]
   clear hv h
   go_enter Tryz.func73, Tryz.ntmps73
   go_wp2_with fail
   go_ret
   exact ⟨rfl, rfl⟩
 · have hv := (by decide : isRes [99, 111, 110, 116, 105, 110, 117, 101] = true)
   have q0 := tl_ne h (m := [98, 114, 101, 97, 107]) (by decide)
   have q1 := tl_eq h
   rw [h, hv]
   clear hv h
   go_enter Tryz.func73, Tryz.ntmps73
   go_wp2_with fail
   go_ret
   exact ⟨rfl, rfl⟩
 · have hv := (by decide : isRes [101, 108, 115, 101] = true)
   have q0 := tl_ne h (m := [98, 114, 101, 97, 107]) (by decide)
   have q1 := tl_ne h (m := [99, 111, 110, 116, 105, 110, 117, 101]) (by decide)
   have q2 := tl_eq h
   rw [h, hv]
   clear hv h
   go_enter Tryz.func73, Tryz.ntmps73
   go_wp2_with fail
   go_ret
   exact ⟨rfl, rfl⟩
 · have hv := (by decide : isRes [102, 97, 108, 115, 101] = true)
   have q0 := tl_ne h (m := [98, 114, 101, 97, 107]) (by decide)
   have q1 := tl_ne h (m := [99, 111, 110, 116, 105, 110, 117, 101]) (by decide)
   have q2 := tl_ne h (m := [101, 108, 115, 101]) (by decide)
   have q3 := tl_eq h
   rw [h, hv]
   clear hv h
   go_enter Tryz.func73, Tryz.ntmps73
   go_wp2_with fail
   go_ret
   exact ⟨rfl, rfl⟩
 · have hv := (by decide : isRes [102, 108, 111, 97, 116, 54, 52] = true)
   have q0 := tl_ne h (m := [98, 114, 101, 97, 107]) (by decide)
   have q1 := tl_ne h (m := [99, 111, 110, 116, 105, 110, 117, 101]) (by decide)
   have q2 := tl_ne h (m := [101, 108, 115, 101]) (by decide)
   have q3 := tl_ne h (m := [102, 97, 108, 115, 101]) (by decide)
   have q4 := tl_eq h
   rw [h, hv]
   clear hv h
   go_enter Tryz.func73, Tryz.ntmps73
   go_wp2_with fail
   go_ret
   exact ⟨rfl, rfl⟩
 · have hv := (by decide : isRes [102, 111, 114] = true)
   have q0 := tl_ne h (m := [98, 114, 101, 97, 107]) (by decide)
   have q1 := tl_ne h (m := [99, 111, 110, 116, 105, 110, 117, 101]) (by decide)
   have q2 := tl_ne h (m := [101, 108, 115, 101]) (by decide)
   have q3 := tl_ne h (m := [102, 97, 108, 115, 101]) (by decide)
   have q4 := tl_ne h (m := [102, 108, 111, 97, 116, 54, 52]) (by decide)
   have q5 := tl_eq h
   rw [h, hv]
   clear hv h
   go_enter Tryz.func73, Tryz.ntmps73
   go_wp2_with fail
   go_ret
   exact ⟨rfl, rfl⟩
 · have hv := (by decide : isRes [102, 117, 110, 99] = true)
   have q0 := tl_ne h (m := [98, 114, 101, 97, 107]) (by decide)
   have q1 := tl_ne h (m := [99, 111, 110, 116, 105, 110, 117, 101]) (by decide)
   have q2 := tl_ne h (m := [101, 108, 115, 101]) (by decide)
   have q3 := tl_ne h (m := [102, 97, 108, 115, 101]) (by decide)
   have q4 := tl_ne h (m := [102, 108, 111, 97, 116, 54, 52]) (by decide)
   have q5 := tl_ne h (m := [102, 111, 114]) (by decide)
   have q6 := tl_eq h
   rw [h, hv]
   clear hv h
   go_enter Tryz.func73, Tryz.ntmps73
   go_wp2_with fail
   go_ret
   exact ⟨rfl, rfl⟩
 · have hv := (by decide : isRes [105, 102] = true)
   have q0 := tl_ne h (m := [98, 114, 101, 97, 107]) (by decide)
   have q1 := tl_ne h (m := [99, 111, 110, 116, 105, 110, 117, 101]) (by decide)
   have q2 := tl_ne h (m := [101, 108, 115, 101]) (by decide)
   have q3 := tl_ne h (m := [102, 97, 108, 115, 101]) (by decide)
   have q4 := tl_ne h (m := [102, 108, 111, 97, 116, 54, 52]) (by decide)
   have q5 := tl_ne h (m := [102, 111, 114]) (by decide)
   have q6 := tl_ne h (m := [102, 117, 110, 99]) (by decide)
   have q7 := tl_eq h
   rw [h, hv]
   clear hv h
   go_enter Tryz.func73, Tryz.ntmps73
   go_wp2_with fail
   go_ret
   exact ⟨rfl, rfl⟩
 · have hv := (by decide : isRes [105, 109, 112, 111, 114, 116] = true)
   have q0 := tl_ne h (m := [98, 114, 101, 97, 107]) (by decide)
   have q1 := tl_ne h (m := [99, 111, 110, 116, 105, 110, 117, 101]) (by decide)
   have q2 := tl_ne h (m := [101, 108, 115, 101]) (by decide)
   have q3 := tl_ne h (m := [102, 97, 108, 115, 101]) (by decide)
   have q4 := tl_ne h (m := [102, 108, 111, 97, 116, 54, 52]) (by decide)
   have q5 := tl_ne h (m := [102, 111, 114]) (by decide)
   have q6 := tl_ne h (m := [102, 117, 110, 99]) (by decide)
   have q7 := tl_ne h (m := [105, 102]) (by decide)
   have q8 := tl_eq h
   rw [h, hv]
   clear hv h
   go_enter Tryz.func73, Tryz.ntmps73
   go_wp2_with fail
   go_ret
   exact ⟨rfl, rfl⟩
 · have hv := (by decide : isRes [105, 110, 116] = true)
   have q0 := tl_ne h (m := [98, 114, 101, 97, 107]) (by decide)
   have q1 := tl_ne h (m := [99, 111, 110, 116, 105, 110, 117, 101]) (by decide)
   have q2 := tl_ne h (m := [101, 108, 115, 101]) (by decide)
   have q3 := tl_ne h (m := [102, 97, 108, 115, 101]) (by decide)
   have q4 := tl_ne h (m := [102, 108, 111, 97, 116, 54, 52]) (by decide)
   have q5 := tl_ne h (m := [102, 111, 114]) (by decide)
   have q6 := tl_ne h (m := [102, 117, 110, 99]) (by decide)
   have q7 := tl_ne h (m := [105, 102]) (by decide)
   have q8 := tl_ne h (m := [105, 109, 112, 111, 114, 116]) (by decide)
   have q9 := tl_eq h
   rw [h, hv]
   clear hv h
   go_enter Tryz.func73, Tryz.ntmps73
   go_wp2_with fail
   go_ret
   exact ⟨rfl, rfl⟩
 · have hv := (by decide : isRes [98, 111, 111, 108] = true)
   have q0 := tl_ne h (m := [98, 114, 101, 97, 107]) (by decide)
   have q1 := tl_ne h (m := [99, 111, 110, 116, 105, 110, 117, 101]) (by decide)
   have q2 := tl_ne h (m := [101, 108, 115, 101]) (by decide)
   have q3 := tl_ne h (m := [102, 97, 108, 115, 101]) (by decide)
   have q4 := tl_ne h (m := [102, 108, 111, 97, 116, 54, 52]) (by decide)
   have q5 := tl_ne h (m := [102, 111, 114]) (by decide)
   have q6 := tl_ne h (m := [102, 117, 110, 99]) (by decide)
   have q7 := tl_ne h (m := [105, 102]) (by decide)
   have q8 := tl_ne h (m := [105, 109, 112, 111, 114, 116]) (by decide)
   have q9 := tl_ne h (m := [105, 110, 116]) (by decide)
   have q10 := tl_eq h
   rw [h, hv]
   clear hv h
   go_enter Tryz.func73, Tryz.ntmps73
   go_wp2_with fail
   go_ret
   exact ⟨rfl, rfl⟩
 · have hv := (by decide : isRes [115, 116, 114, 105, 110, 103] = true)
   have q0 := tl_ne h (m := [98, 114, 101, 97, 107]) (by decide)
   have q1 := tl_ne h (m := [99, 111, 110, 116, 105, 110, 117, 101]) (by decide)
   have q2 := tl_ne h (m := [101, 108, 115, 101]) (by decide)
   have q3 := tl_ne h (m := [102, 97, 108, 115, 101]) (by decide)
   have q4 := tl_ne h (m := [102, 108, 111, 97, 116, 54, 52]) (by decide)
   have q5 := tl_ne h (m := [102, 111, 114]) (by decide)
   have q6 := tl_ne h (m := [102, 117, 110, 99]) (by decide)
   have q7 := tl_ne h (m := [105, 102]) (by decide)
   have q8 := tl_ne h (m := [105, 109, 112, 111, 114, 116]) (by decide)
   have q9 := tl_ne h (m := [105, 110, 116]) (by decide)
   have q10 := tl_ne h (m := [98, 111, 111, 108]) (by decide)
   have q11 := tl_eq h
   rw [h, hv]
   clear hv h
   go_enter Tryz.func73, Tryz.ntmps73
   go_wp2_with fail
   go_ret
   exact ⟨rfl, rfl⟩
 · have hv := (by decide : isRes [108, 101, 110] = true)
   have q0 := tl_ne h (m := [98, 114, 101, 97, 107]) (by decide)
   have q1 := tl_ne h (m := [99, 111, 110, 116, 105, 110, 117, 101]) (by decide)
   have q2 := tl_ne h (m := [101, 108, 115, 101]) (by decide)
   have q3 := tl_ne h (m := [102, 97, 108, 115, 101]) (by decide)
   have q4 := tl_ne h (m := [102, 108, 111, 97, 116, 54, 52]) (by decide)
   have q5 := tl_ne h (m := [102, 111, 114]) (by decide)
   have q6 := tl_ne h (m := [102, 117, 110, 99]) (by decide)
   have q7 := tl_ne h (m := [105, 102]) (by decide)
   have q8 := tl_ne h (m := [105, 109, 112, 111, 114, 116]) (by decide)
   have q9 := tl_ne h (m := [105, 110, 116]) (by decide)
   have q10 := tl_ne h (m := [98, 111, 111, 108]) (by decide)
   have q11 := tl_ne h (m := [115, 116, 114, 105, 110, 103]) (by decide)
   have q12 := tl_eq h
   rw [h, hv]
   clear hv h
   go_enter Tryz.func73, Tryz.ntmps73
   go_wp2_with fail
   go_ret
   exact ⟨rfl, rfl⟩
 · have hv := (by decide : isRes [112, 97, 99, 107, 97, 103, 101] = true)
   have q0 := tl_ne h (m := [98, 114, 101, 97, 107]) (by decide)
   have q1 := tl_ne h (m := [99, 111, 110, 116, 105, 110, 117, 101]) (by decide)
   have q2 := tl_ne h (m := [101, 108, 115, 101]) (by decide)
   have q3 := tl_ne h (m := [102, 97, 108, 115, 101]) (by decide)
   have q4 := tl_ne h (m := [102, 108, 111, 97, 116, 54, 52]) (by decide)
   have q5 := tl_ne h (m := [102, 111, 114]) (by decide)
   have q6 := tl_ne h (m := [102, 117, 110, 99]) (by decide)
   have q7 := tl_ne h (m := [105, 102]) (by decide)
   have q8 := tl_ne h (m := [105, 109, 112, 111, 114, 116]) (by decide)
   have q9 := tl_ne h (m := [105, 110, 116]) (by decide)
   have q10 := tl_ne h (m := [98, 111, 111, 108]) (by decide)
   have q11 := tl_ne h (m := [115, 116, 114, 105, 110, 103]) (by decide)
   have q12 := tl_ne h (m := [108, 101, 110]) (by decide)
   have q13 := tl_eq h
   rw [h, hv]
   clear hv h
   go_enter Tryz.func73, Tryz.ntmps73
   go_wp2_with fail
   go_ret
   exact ⟨rfl, rfl⟩
 · have hv := (by decide : isRes [112, 97, 110, 105, 99] = true)
   have q0 := tl_ne h (m := [98, 114, 101, 97, 107]) (by decide)
   have q1 := tl_ne h (m := [99, 111, 110, 116, 105, 110, 117, 101]) (by decide)
   have q2 := tl_ne h (m := [101, 108, 115, 101]) (by decide)
   have q3 := tl_ne h (m := [102, 97, 108, 115, 101]) (by decide)
   have q4 := tl_ne h (m := [102, 108, 111, 97, 116, 54, 52]) (by decide)
   have q5 := tl_ne h (m := [102, 111, 114]) (by decide)
   have q6 := tl_ne h (m := [102, 117, 110, 99]) (by decide)
   have q7 := tl_ne h (m := [105, 102]) (by decide)
   have q8 := tl_ne h (m := [105, 109, 112, 111, 114, 116]) (by decide)
   have q9 := tl_ne h (m := [105, 110, 116]) (by decide)
   have q10 := tl_ne h (m := [98, 111, 111, 108]) (by decide)
   have q11 := tl_ne h (m := [115, 116, 114, 105, 110, 103]) (by decide)
   have q12 := tl_ne h (m := [108, 101, 110]) (by decide)
   have q13 := tl_ne h (m := [112, 97, 99, 107, 97, 103, 101]) (by decide)
   have q14 := tl_eq h
   rw [h, hv]
   clear hv h
   go_enter Tryz.func73, Tryz.ntmps73
   go_wp2_with fail
   go_ret
   exact ⟨rfl, rfl⟩
 · have hv := (by decide : isRes [112, 114, 105, 110, 116] = true)
   have q0 := tl_ne h (m := [98, 114, 101, 97, 107]) (by decide)
   have q1 := tl_ne h (m := [99, 111, 110, 116, 105, 110, 117, 101]) (by decide)
   have q2 := tl_ne h (m := [101, 108, 115, 101]) (by decide)
   have q3 := tl_ne h (m := [102, 97, 108, 115, 101]) (by decide)
   have q4 := tl_ne h (m := [102, 108, 111, 97, 116, 54, 52]) (by decide)
   have q5 := tl_ne h (m := [102, 111, 114]) (by decide)
   have q6 := tl_ne h (m := [102, 117, 110, 99]) (by decide)
   have q7 := tl_ne h (m := [105, 102]) (by decide)
   have q8 := tl_ne h (m := [105, 109, 112, 111, 114, 116]) (by decide)
   have q9 := tl_ne h (m := [105, 110, 116]) (by decide)
   have q10 := tl_ne h (m := [98, 111, 111, 108]) (by decide)
   have q11 := tl_ne h (m := [115, 116, 114, 105, 110, 103]) (by decide)
   have q12 := tl_ne h (m := [108, 101, 110]) (by decide)
   have q13 := tl_ne h (m := [112, 97, 99, 107, 97, 103, 101]) (by decide)
   have q14 := tl_ne h (m := [112, 97, 110, 105, 99]) (by decide)
   have q15 := tl_eq h
   rw [h, hv]
   clear hv h
   go_enter Tryz.func73, Tryz.ntmps73
   go_wp2_with fail
   go_ret
   exact ⟨rfl, rfl⟩
 · have hv := (by decide : isRes [114, 101, 116, 117, 114, 110] = true)
   have q0 := tl_ne h (m := [98, 114, 101, 97, 107]) (by decide)
   have q1 := tl_ne h (m := [99, 111, 110, 116, 105, 110, 117, 101]) (by decide)
   have q2 := tl_ne h (m := [101, 108, 115, 101]) (by decide)
   have q3 := tl_ne h (m := [102, 97, 108, 115, 101]) (by decide)
   have q4 := tl_ne h (m := [102, 108, 111, 97, 116, 54, 52]) (by decide)
   have q5 := tl_ne h (m := [102, 111, 114]) (by decide)
   have q6 := tl_ne h (m := [102, 117, 110, 99]) (by decide)
   have q7 := tl_ne h (m := [105, 102]) (by decide)
   have q8 := tl_ne h (m := [105, 109, 112, 111, 114, 116]) (by decide)
   have q9 := tl_ne h (m := [105, 110, 116]) (by decide)
   have q10 := tl_ne h (m := [98, 111, 111, 108]) (by decide)
   have q11 := tl_ne h (m := [115, 116, 114, 105, 110, 103]) (by decide)
   have q12 := tl_ne h (m := [108, 101, 110]) (by decide)
   have q13 := tl_ne h (m := [112, 97, 99, 107, 97, 103, 101]) (by decide)
   have q14 := tl_ne h (m := [112, 97, 110, 105, 99]) (by decide)
   have q15 := tl_ne h (m := [112, 114, 105, 110, 116]) (by decide)
   have q16 := tl_eq h
   rw [h, hv]
   clear hv h
   go_enter Tryz.func73, Tryz.ntmps73
   go_wp2_with fail
   go_ret
   exact ⟨rfl, rfl⟩
 · have hv := (by decide : isRes [115, 116, 114, 117, 99, 116] = true)
   have q0 := tl_ne h (m := [98, 114, 101, 97, 107]) (by decide)
   have q1 := tl_ne h (m := [99, 111, 110, 116, 105, 110, 117, 101]) (by decide)
   have q2 := tl_ne h (m := [101, 108, 115, 101]) (by decide)
   have q3 := tl_ne h (m := [102, 97, 108, 115, 101]) (by decide)
   have q4 := tl_ne h (m := [102, 108, 111, 97, 116, 54, 52]) (by decide)
   have q5 := tl_ne h (m := [102, 111, 114]) (by decide)
   have q6 := tl_ne h (m := [102, 117, 110, 99]) (by decide)
   have q7 := tl_ne h (m := [105, 102]) (by decide)
   have q8 := tl_ne h (m := [105, 109, 112, 111, 114, 116]) (by decide)
   have q9 := tl_ne h (m := [105, 110, 116]) (by decide)
   have q10 := tl_ne h (m := [98, 111, 111, 108]) (by decide)
   have q11 := tl_ne h (m := [115, 116, 114, 105, 110, 103]) (by decide)
   have q12 := tl_ne h (m := [108, 101, 110]) (by decide)
   have q13 := tl_ne h (m := [112, 97, 99, 107, 97, 103, 101]) (by decide)
   have q14 := tl_ne h (m := [112, 97, 110, 105, 99]) (by decide)
   have q15 := tl_ne h (m := [112, 114, 105, 110, 116]) (by decide)
   have q16 := tl_ne h (m := [114, 101, 116, 117, 114, 110]) (by decide)
   have q17 := tl_eq h
   rw [h, hv]
   clear hv h
   go_enter Tryz.func73, Tryz.ntmps73
   go_wp2_with fail
   go_ret
   exact ⟨rfl, rfl⟩
 · have hv := (by decide : isRes [116, 114, 117, 101] = true)
   have q0 := tl_ne h (m := [98, 114, 101, 97, 107]) (by decide)
   have q1 := tl_ne h (m := [99, 111, 110, 116, 105, 110, 117, 101]) (by decide)
   have q2 := tl_ne h (m := [101, 108, 115, 101]) (by decide)
   have q3 := tl_ne h (m := [102, 97, 108, 115, 101]) (by decide)
   have q4 := tl_ne h (m := [102, 108, 111, 97, 116, 54, 52]) (by decide)
   have q5 := tl_ne h (m := [102, 111, 114]) (by decide)
   have q6 := tl_ne h (m := [102, 117, 110, 99]) (by decide)
   have q7 := tl_ne h (m := [105, 102]) (by decide)
   have q8 := tl_ne h (m := [105, 109, 112, 111, 114, 116]) (by decide)
   have q9 := tl_ne h (m := [105, 110, 116]) (by decide)
   have q10 := tl_ne h (m := [98, 111, 111, 108]) (by decide)
   have q11 := tl_ne h (m := [115, 116, 114, 105, 110, 103]) (by decide)
   have q12 := tl_ne h (m := [108, 101, 110]) (by decide)
   have q13 := tl_ne h (m := [112, 97, 99, 107, 97, 103, 101]) (by decide)
   have q14 := tl_ne h (m := [112, 97, 110, 105, 99]) (by decide)
   have q15 := tl_ne h (m := [112, 114, 105, 110, 116]) (by decide)
   have q16 := tl_ne h (m := [114, 101, 116, 117, 114, 110]) (by decide)
   have q17 := tl_ne h (m := [115, 116, 114, 117, 99, 116]) (by decide)
   have q18 := tl_eq h
   rw [h, hv]
   clear hv h
   go_enter Tryz.func73, Tryz.ntmps73
   go_wp2_with fail
   go_ret
   exact ⟨rfl, rfl⟩
 · have hv := (by decide : isRes [116, 121, 112, 101] = true)
   have q0 := tl_ne h (m := [98, 114, 101, 97, 107]) (by decide)
   have q1 := tl_ne h (m := [99, 111, 110, 116, 105, 110, 117, 101]) (by decide)
   have q2 := tl_ne h (m := [101, 108, 115, 101]) (by decide)
   have q3 := tl_ne h (m := [102, 97, 108, 115, 101]) (by decide)
   have q4 := tl_ne h (m := [102, 108, 111, 97, 116, 54, 52]) (by decide)
   have q5 := tl_ne h (m := [102, 111, 114]) (by decide)
   have q6 := tl_ne h (m := [102, 117, 110, 99]) (by decide)
   have q7 := tl_ne h (m := [105, 102]) (by decide)
   have q8 := tl_ne h (m := [105, 109, 112, 111, 114, 116]) (by decide)
   have q9 := tl_ne h (m := [105, 110, 116]) (by decide)
   have q10 := tl_ne h (m := [98, 111, 111, 108]) (by decide)
   have q11 := tl_ne h (m := [115, 116, 114, 105, 110, 103]) (by decide)
   have q12 := tl_ne h (m := [108, 101, 110]) (by decide)
   have q13 := tl_ne h (m := [112, 97, 99, 107, 97, 103, 101]) (by decide)
   have q14 := tl_ne h (m := [112, 97, 110, 105, 99]) (by decide)
   have q15 := tl_ne h (m := [112, 114, 105, 110, 116]) (by decide)
   have q16 := tl_ne h (m := [114, 101, 116, 117, 114, 110]) (by decide)
   have q17 := tl_ne h (m := [115, 116, 114, 117, 99, 116]) (by decide)
   have q18 := tl_ne h (m := [116, 114, 117, 101]) (by decide)
   have q19 := tl_eq h
   rw [h, hv]
   clear hv h
   go_enter Tryz.func73, Tryz.ntmps73
   go_wp2_with fail
   go_ret
   exact ⟨rfl, rfl⟩
 · have hv := (by decide : isRes [118, 97, 114] = true)
   have q0 := tl_ne h (m := [98, 114, 101, 97, 107]) (by decide)
   have q1 := tl_ne h (m := [99, 111, 110, 116, 105, 110, 117, 101]) (by decide)
   have q2 := tl_ne h (m := [101, 108, 115, 101]) (by decide)
   have q3 := tl_ne h (m := [102, 97, 108, 115, 101]) (by decide)
   have q4 := tl_ne h (m := [102, 108, 111, 97, 116, 54, 52]) (by decide)
   have q5 := tl_ne h (m := [102, 111, 114]) (by decide)
   have q6 := tl_ne h (m := [102, 117, 110, 99]) (by decide)
   have q7 := tl_ne h (m := [105, 102]) (by decide)
   have q8 := tl_ne h (m := [105, 109, 112, 111, 114, 116]) (by decide)
   have q9 := tl_ne h (m := [105, 110, 116]) (by decide)
   have q10 := tl_ne h (m := [98, 111, 111, 108]) (by decide)
   have q11 := tl_ne h (m := [115, 116, 114, 105, 110, 103]) (by decide)
   have q12 := tl_ne h (m := [108, 101, 110]) (by decide)
   have q13 := tl_ne h (m := [112, 97, 99, 107, 97, 103, 101]) (by decide)
   have q14 := tl_ne h (m := [112, 97, 110, 105, 99]) (by decide)
   have q15 := tl_ne h (m := [112, 114, 105, 110, 116]) (by decide)
   have q16 := tl_ne h (m := [114, 101, 116, 117, 114, 110]) (by decide)
   have q17 := tl_ne h (m := [115, 116, 114, 117, 99, 116]) (by decide)
   have q18 := tl_ne h (m := [116, 114, 117, 101]) (by decide)
   have q19 := tl_ne h (m := [116, 121, 112, 101]) (by decide)
   have q20 := tl_eq h
   rw [h, hv]
   clear hv h
   go_enter Tryz.func73, Tryz.ntmps73
   go_wp2_with fail
   go_ret
   exact ⟨rfl, rfl⟩
 · have hv : isRes x.data.toList = false := by
    unfold isRes resW
    simp only [List.contains_cons, List.contains_nil, Bool.or_false, Bool.or_eq_false_iff, beq_eq_false_iff_ne, ne_eq]
    exact ⟨h0, h1, h2, h3, h4, h5, h6, h7, h8, h9, h10, h11, h12, h13, h14, h15, h16, h17, h18, h19, h20⟩
   rw [hv]
   clear hv
   have q0 := tl_no h0
   have q1 := tl_no h1
   have q2 := tl_no h2
   have q3 := tl_no h3
   have q4 := tl_no h4
   have q5 := tl_no h5
   have q6 := tl_no h6
   have q7 := tl_no h7
   have q8 := tl_no h8
   have q9 := tl_no h9
   have q10 := tl_no h10
   have q11 := tl_no h11
   have q12 := tl_no h12
   have q13 := tl_no h13
   have q14 := tl_no h14
   have q15 := tl_no h15
   have q16 := tl_no h16
   have q17 := tl_no h17
   have q18 := tl_no h18
   have q19 := tl_no h19
   have q20 := tl_no h20
   clear h0 h1 h2 h3 h4 h5 h6 h7 h8 h9 h10 h11 h12 h13 h14 h15 h16 h17 h18 h19 h20
   go_enter Tryz.func73, Tryz.ntmps73
   go_wp2_with fail
   go_ret
   exact ⟨rfl, rfl⟩
theorem nameFault_any (x : ByteArray) (w : World) : Calls Tryz.prog 74 #[.string x] w fun e w' => e = .returned (.int .i64 (nameF x.data.toList : Int)) ∧ w = w' := by
 have hsz : x.data.toList.length = x.size := by rw [Array.length_toList]; rfl
 unfold nameF
 rw [hsz]
 clear hsz
 by_cases h : 40 < x.size
 · rw [if_pos h]
   have d : decide (40 < (x.size : Int)) = true := by rw [decide_eq_true_eq]; omega
   go_enter Tryz.func74, Tryz.ntmps74
   go_wp2_with fail
   go_ret
   exact ⟨rfl, rfl⟩
 · rw [if_neg h]
   have d : decide (40 < (x.size : Int)) = false := by rw [decide_eq_false_iff_not]; omega
   by_cases g : x.data.toList = [95]
   · rw [if_pos g]
     have q := tl_eq g
     clear g
     go_enter Tryz.func74, Tryz.ntmps74
     go_wp2_with fail
     go_ret
     exact ⟨rfl, rfl⟩
   · rw [if_neg g]
     have q := tl_no g
     clear g
     go_enter Tryz.func74, Tryz.ntmps74
     go_wp2_with fail
     go_ret
     exact ⟨rfl, rfl⟩
theorem extract_take (s : ByteArray) (k n : Nat) : (s.extract k (k + n)).data.toList = (rest s k).take n := by
 unfold rest
 rw [ByteArray.data_extract, Array.toList_extract, List.extract_eq_take_drop, Nat.add_sub_cancel_left]
theorem ret_ii {a b c d : Int} (h : a = c) (g : b = d) : Ending.returned (.tuple #[.int .i64 a, .int .i64 b]) = .returned (.tuple #[.int .i64 c, .int .i64 d]) := by rw [h, g]
set_option maxHeartbeats 1000000 in
theorem findWord_any (s : ByteArray) (k : Nat) (hk : k ≤ s.size) (hs : s.size ≤ 1000000) (w : World) : Calls Tryz.prog 108 #[.string s, .int .i64 k] w fun e w' => e = .returned (.tuple #[.int .i64 ((if isRes ((rest s k).take (run isW (rest s k))) then 2 else 1 : Nat) : Int), .int .i64 ((k + run isW (rest s k) : Nat) : Int)]) ∧ w = w' := by
 have hle := run_le isW (rest s k)
 rw [rest_len] at hle
 have HP := Lib.hid (fun w => pastWord_any s k hk hs w)
 have hr : Hid (∀ w, Calls Tryz.prog 73 #[.string (s.extract k (k + run isW (rest s k)))] w fun e w' => e = .returned (.bool (isRes ((rest s k).take (run isW (rest s k))))) ∧ w = w') := Lib.hid (fun w => by
  have := reserved_any (s.extract k (k + run isW (rest s k))) w
  rwa [extract_take] at this)
 generalize (rest s k).take (run isW (rest s k)) = x at *
 generalize run isW (rest s k) = n at *
 have hle2 : k + n ≤ s.size := by omega
 clear hle
 generalize isRes x = bb at *
 cases bb
 all_goals
  go_enter Tryz.func108, Tryz.ntmps108
  go_wp2_with fail
  refine (HP.out _).mono ?_
  rintro e w' ⟨rfl, rfl⟩
  go_wp2_with fail
  refine (hr.out _).mono ?_
  rintro e w' ⟨rfl, rfl⟩
  go_wp2_with fail
  go_ret2
  exact ⟨ret_ii (by rfl) (by omega), rfl⟩
theorem wants_w (q : Nat) (x : ByteArray) (a b : Nat) (w : World) (hq : q = 2 ∨ q = 7) : Calls Tryz.prog 60 #[.agg #[.int .i64 (q : Int), .string x, .int .i64 (a : Int), .int .i64 (b : Int)]] w fun e w' => e = .returned (.bool (endW.contains x.data.toList)) ∧ Below w.heap.size w w' := by
 have hall : x.data.toList = [116, 114, 117, 101] ∨ x.data.toList = [102, 97, 108, 115, 101] ∨ x.data.toList = [114, 101, 116, 117, 114, 110] ∨ x.data.toList = [98, 114, 101, 97, 107] ∨ x.data.toList = [99, 111, 110, 116, 105, 110, 117, 101] ∨ x.data.toList = [105, 110, 116] ∨ x.data.toList = [98, 111, 111, 108] ∨ x.data.toList = [115, 116, 114, 105, 110, 103] ∨ x.data.toList = [102, 108, 111, 97, 116, 54, 52] ∨ (¬ x.data.toList = [116, 114, 117, 101] ∧ ¬ x.data.toList = [102, 97, 108, 115, 101] ∧ ¬ x.data.toList = [114, 101, 116, 117, 114, 110] ∧ ¬ x.data.toList = [98, 114, 101, 97, 107] ∧ ¬ x.data.toList = [99, 111, 110, 116, 105, 110, 117, 101] ∧ ¬ x.data.toList = [105, 110, 116] ∧ ¬ x.data.toList = [98, 111, 111, 108] ∧ ¬ x.data.toList = [115, 116, 114, 105, 110, 103] ∧ ¬ x.data.toList = [102, 108, 111, 97, 116, 54, 52]) := by
  by_cases h0 : x.data.toList = [116, 114, 117, 101]
  · exact .inl h0
  by_cases h1 : x.data.toList = [102, 97, 108, 115, 101]
  · exact .inr (.inl h1)
  by_cases h2 : x.data.toList = [114, 101, 116, 117, 114, 110]
  · exact .inr (.inr (.inl h2))
  by_cases h3 : x.data.toList = [98, 114, 101, 97, 107]
  · exact .inr (.inr (.inr (.inl h3)))
  by_cases h4 : x.data.toList = [99, 111, 110, 116, 105, 110, 117, 101]
  · exact .inr (.inr (.inr (.inr (.inl h4))))
  by_cases h5 : x.data.toList = [105, 110, 116]
  · exact .inr (.inr (.inr (.inr (.inr (.inl h5)))))
  by_cases h6 : x.data.toList = [98, 111, 111, 108]
  · exact .inr (.inr (.inr (.inr (.inr (.inr (.inl h6))))))
  by_cases h7 : x.data.toList = [115, 116, 114, 105, 110, 103]
  · exact .inr (.inr (.inr (.inr (.inr (.inr (.inr (.inl h7)))))))
  by_cases h8 : x.data.toList = [102, 108, 111, 97, 116, 54, 52]
  · exact .inr (.inr (.inr (.inr (.inr (.inr (.inr (.inr (.inl h8))))))))
  exact .inr (.inr (.inr (.inr (.inr (.inr (.inr (.inr (.inr ⟨h0, h1, h2, h3, h4, h5, h6, h7, h8⟩))))))))
 rcases hall with h | h | h | h | h | h | h | h | h | ⟨h0, h1, h2, h3, h4, h5, h6, h7, h8⟩
 · have hv := (by decide : endW.contains [116, 114, 117, 101] = true)
   have q0 := tl_eq h
   rw [h, hv]
   clear hv h
   rcases hq with rfl | rfl
   all_goals
    go_enter Tryz.func60, Tryz.ntmps60
    go_wp2_with fail
    go_ret
    exact ⟨rfl, (Below.refl _ _).alloc (Nat.le_refl _) _⟩
 · have hv := (by decide : endW.contains [102, 97, 108, 115, 101] = true)
   have q0 := tl_ne h (m := [116, 114, 117, 101]) (by decide)
   have q1 := tl_eq h
   rw [h, hv]
   clear hv h
   rcases hq with rfl | rfl
   all_goals
    go_enter Tryz.func60, Tryz.ntmps60
    go_wp2_with fail
    go_ret
    exact ⟨rfl, (Below.refl _ _).alloc (Nat.le_refl _) _⟩
 · have hv := (by decide : endW.contains [114, 101, 116, 117, 114, 110] = true)
   have q0 := tl_ne h (m := [116, 114, 117, 101]) (by decide)
   have q1 := tl_ne h (m := [102, 97, 108, 115, 101]) (by decide)
   have q2 := tl_eq h
   rw [h, hv]
   clear hv h
   rcases hq with rfl | rfl
   all_goals
    go_enter Tryz.func60, Tryz.ntmps60
    go_wp2_with fail
    go_ret
    exact ⟨rfl, (Below.refl _ _).alloc (Nat.le_refl _) _⟩
 · have hv := (by decide : endW.contains [98, 114, 101, 97, 107] = true)
   have q0 := tl_ne h (m := [116, 114, 117, 101]) (by decide)
   have q1 := tl_ne h (m := [102, 97, 108, 115, 101]) (by decide)
   have q2 := tl_ne h (m := [114, 101, 116, 117, 114, 110]) (by decide)
   have q3 := tl_eq h
   rw [h, hv]
   clear hv h
   rcases hq with rfl | rfl
   all_goals
    go_enter Tryz.func60, Tryz.ntmps60
    go_wp2_with fail
    go_ret
    exact ⟨rfl, (Below.refl _ _).alloc (Nat.le_refl _) _⟩
 · have hv := (by decide : endW.contains [99, 111, 110, 116, 105, 110, 117, 101] = true)
   have q0 := tl_ne h (m := [116, 114, 117, 101]) (by decide)
   have q1 := tl_ne h (m := [102, 97, 108, 115, 101]) (by decide)
   have q2 := tl_ne h (m := [114, 101, 116, 117, 114, 110]) (by decide)
   have q3 := tl_ne h (m := [98, 114, 101, 97, 107]) (by decide)
   have q4 := tl_eq h
   rw [h, hv]
   clear hv h
   rcases hq with rfl | rfl
   all_goals
    go_enter Tryz.func60, Tryz.ntmps60
    go_wp2_with fail
    go_ret
    exact ⟨rfl, (Below.refl _ _).alloc (Nat.le_refl _) _⟩
 · have hv := (by decide : endW.contains [105, 110, 116] = true)
   have q0 := tl_ne h (m := [116, 114, 117, 101]) (by decide)
   have q1 := tl_ne h (m := [102, 97, 108, 115, 101]) (by decide)
   have q2 := tl_ne h (m := [114, 101, 116, 117, 114, 110]) (by decide)
   have q3 := tl_ne h (m := [98, 114, 101, 97, 107]) (by decide)
   have q4 := tl_ne h (m := [99, 111, 110, 116, 105, 110, 117, 101]) (by decide)
   have q5 := tl_eq h
   rw [h, hv]
   clear hv h
   rcases hq with rfl | rfl
   all_goals
    go_enter Tryz.func60, Tryz.ntmps60
    go_wp2_with fail
    go_ret
    exact ⟨rfl, (Below.refl _ _).alloc (Nat.le_refl _) _⟩
 · have hv := (by decide : endW.contains [98, 111, 111, 108] = true)
   have q0 := tl_ne h (m := [116, 114, 117, 101]) (by decide)
   have q1 := tl_ne h (m := [102, 97, 108, 115, 101]) (by decide)
   have q2 := tl_ne h (m := [114, 101, 116, 117, 114, 110]) (by decide)
   have q3 := tl_ne h (m := [98, 114, 101, 97, 107]) (by decide)
   have q4 := tl_ne h (m := [99, 111, 110, 116, 105, 110, 117, 101]) (by decide)
   have q5 := tl_ne h (m := [105, 110, 116]) (by decide)
   have q6 := tl_eq h
   rw [h, hv]
   clear hv h
   rcases hq with rfl | rfl
   all_goals
    go_enter Tryz.func60, Tryz.ntmps60
    go_wp2_with fail
    go_ret
    exact ⟨rfl, (Below.refl _ _).alloc (Nat.le_refl _) _⟩
 · have hv := (by decide : endW.contains [115, 116, 114, 105, 110, 103] = true)
   have q0 := tl_ne h (m := [116, 114, 117, 101]) (by decide)
   have q1 := tl_ne h (m := [102, 97, 108, 115, 101]) (by decide)
   have q2 := tl_ne h (m := [114, 101, 116, 117, 114, 110]) (by decide)
   have q3 := tl_ne h (m := [98, 114, 101, 97, 107]) (by decide)
   have q4 := tl_ne h (m := [99, 111, 110, 116, 105, 110, 117, 101]) (by decide)
   have q5 := tl_ne h (m := [105, 110, 116]) (by decide)
   have q6 := tl_ne h (m := [98, 111, 111, 108]) (by decide)
   have q7 := tl_eq h
   rw [h, hv]
   clear hv h
   rcases hq with rfl | rfl
   all_goals
    go_enter Tryz.func60, Tryz.ntmps60
    go_wp2_with fail
    go_ret
    exact ⟨rfl, (Below.refl _ _).alloc (Nat.le_refl _) _⟩
 · have hv := (by decide : endW.contains [102, 108, 111, 97, 116, 54, 52] = true)
   have q0 := tl_ne h (m := [116, 114, 117, 101]) (by decide)
   have q1 := tl_ne h (m := [102, 97, 108, 115, 101]) (by decide)
   have q2 := tl_ne h (m := [114, 101, 116, 117, 114, 110]) (by decide)
   have q3 := tl_ne h (m := [98, 114, 101, 97, 107]) (by decide)
   have q4 := tl_ne h (m := [99, 111, 110, 116, 105, 110, 117, 101]) (by decide)
   have q5 := tl_ne h (m := [105, 110, 116]) (by decide)
   have q6 := tl_ne h (m := [98, 111, 111, 108]) (by decide)
   have q7 := tl_ne h (m := [115, 116, 114, 105, 110, 103]) (by decide)
   have q8 := tl_eq h
   rw [h, hv]
   clear hv h
   rcases hq with rfl | rfl
   all_goals
    go_enter Tryz.func60, Tryz.ntmps60
    go_wp2_with fail
    go_ret
    exact ⟨rfl, (Below.refl _ _).alloc (Nat.le_refl _) _⟩
 · have hv : endW.contains x.data.toList = false := by
    unfold endW
    simp only [List.contains_cons, List.contains_nil, Bool.or_false, Bool.or_eq_false_iff, beq_eq_false_iff_ne, ne_eq]
    exact ⟨h0, h1, h2, h3, h4, h5, h6, h7, h8⟩
   rw [hv]
   clear hv
   have q0 := tl_no h0
   have q1 := tl_no h1
   have q2 := tl_no h2
   have q3 := tl_no h3
   have q4 := tl_no h4
   have q5 := tl_no h5
   have q6 := tl_no h6
   have q7 := tl_no h7
   have q8 := tl_no h8
   clear h0 h1 h2 h3 h4 h5 h6 h7 h8
   rcases hq with rfl | rfl
   all_goals
    go_enter Tryz.func60, Tryz.ntmps60
    go_wp2_with fail
    go_ret
    exact ⟨rfl, (Below.refl _ _).alloc (Nat.le_refl _) _⟩
theorem wants_m (x : ByteArray) (a b : Nat) (w : World) : Calls Tryz.prog 60 #[.agg #[.int .i64 6, .string x, .int .i64 (a : Int), .int .i64 (b : Int)]] w fun e w' => e = .returned (.bool (x.data.toList == [41] || x.data.toList == [125])) ∧ Below w.heap.size w w' := by
 have e1 : (x.data.toList == [41]) = (x.toList == [41]) := by rw [toL]
 have e2 : (x.data.toList == [125]) = (x.toList == [125]) := by rw [toL]
 rw [e1, e2]
 clear e1 e2
 cases h1 : (x.toList == [41]) <;> cases h2 : (x.toList == [125])
 all_goals
  go_enter Tryz.func60, Tryz.ntmps60
  go_wp2_with fail
  go_ret
  exact ⟨rfl, (Below.refl _ _).alloc (Nat.le_refl _) _⟩
theorem wants_t (q : Nat) (x : ByteArray) (a b : Nat) (w : World) (hq : q = 1 ∨ q = 3 ∨ q = 4 ∨ q = 5) : Calls Tryz.prog 60 #[.agg #[.int .i64 (q : Int), .string x, .int .i64 (a : Int), .int .i64 (b : Int)]] w fun e w' => e = .returned (.bool true) ∧ Below w.heap.size w w' := by
 rcases hq with rfl | rfl | rfl | rfl
 all_goals
  go_enter Tryz.func60, Tryz.ntmps60
  go_wp2_with fail
  go_ret
  exact ⟨rfl, (Below.refl _ _).alloc (Nat.le_refl _) _⟩
def txt (l : List UInt8) : ByteArray := ⟨l.toArray⟩
theorem txt_data (l : List UInt8) : (txt l).data.toList = l := rfl
theorem wants_any (t : Tok) (h1 : 1 ≤ t.1) (h7 : t.1 ≤ 7) (w : World) : Calls Tryz.prog 60 #[.agg #[.int .i64 (t.1 : Int), .string (txt t.2.1), .int .i64 (t.2.2.1 : Int), .int .i64 (t.2.2.2 : Int)]] w fun e w' => e = .returned (.bool (wants t)) ∧ Below w.heap.size w w' := by
 obtain ⟨q, x, a, b⟩ := t
 simp only at h1 h7 ⊢
 by_cases c1 : q = 1 ∨ q = 3 ∨ q = 4 ∨ q = 5
 · have e : wants (q, x, a, b) = true := by unfold wants; rw [if_pos c1]
   rw [e]; exact wants_t q _ a b w c1
 · by_cases c2 : q = 6
   · subst c2
     have e : wants (6, x, a, b) = (x == [41] || x == [125]) := rfl
     rw [e]; exact wants_m _ a b w
   · have e : wants (q, x, a, b) = endW.contains x := by unfold wants; rw [if_neg c1, if_neg c2]
     rw [e]; exact wants_w q _ a b w (by omega)
end Go.Proofs.YtmlclgkhnekmnaaGreatDoor
