/-
  The document's own reader of frames IN MEMORY: Push, Next. Nothing that was there turns but the reader's own block. Conditions: how many bytes are held.
-/
import Derived.Test.YtmaihiklcdidbaaDoorRefE
namespace Go.Proofs.YtmaihiklcdidbaaDoor
open Go.RowKit

/-- The document's reader at block Q. -/
def QIn (W : World) (Q : Nat) : RS → Prop
  | .live l => W.heap[Q]? = some (.cells #[.string (txt l), .bool false] 27 (0, 0)) ∧ l.length ≤ 100000000
  | .dead n => ∃ S : ByteArray, W.heap[Q]? = some (.cells #[.string S, .bool true] 27 (0, 0)) ∧ S.size = n
theorem QIn.lt {W : World} {Q : Nat} {r : RS} (h : QIn W Q r) : Q < W.heap.size := by
  cases r with
  | live l => exact heap_lt h.1
  | dead n => obtain ⟨S, h, _⟩ := h; exact heap_lt h
theorem QIn.keep {W W' : World} {Q : Nat} {r : RS} (h : QIn W Q r) (hk : W'.heap[Q]? = W.heap[Q]?) : QIn W' Q r := by
  cases r with
  | live l => exact ⟨hk.trans h.1, h.2⟩
  | dead n => obtain ⟨S, h, hn⟩ := h; exact ⟨S, hk.trans h, hn⟩
theorem QIn.below {W W' : World} {Q : Nat} {r : RS} (h : QIn W Q r) (hb : Below W.heap.size W W') : QIn W' Q r := h.keep (hb.block Q h.lt)
set_option maxRecDepth 100000 in
theorem refPush_live (Q : Nat) (l : List UInt8) (s : ByteArray) (hs : l.length + s.size ≤ 100000000) (w : World) (h : QIn w Q (.live l)) :
    Calls Tryd.prog 11 #[.pointer (some ⟨Q, 0, none⟩), .string s] w fun e w' => e = .returned (.int .i64 0) ∧ QIn w' Q (.live (l ++ s.data.toList)) ∧ Fr (· = Q) w w' := by
  obtain ⟨hQ, hl⟩ := h
  have hsz : (txt l).size = l.length := by rw [Lib.size_eq, txt_list]
  have hap : txt (l ++ s.data.toList) = txt l ++ s := by
    apply ba_ext
    rw [data_app, txt_list, txt_list]
  have hln : (l ++ s.data.toList).length ≤ 100000000 := by rw [List.length_append, ← Lib.size_eq]; exact hs
  have hss := heap_setCell_same w Q 0 _ _ (.string (txt l ++ s)) hQ
  have HX : Hid (QIn (w.setCell ⟨Q, 0, none⟩ (.string (txt l ++ s))) Q (.live (l ++ s.data.toList))) := Lib.hid ⟨by rw [hap]; exact hss, hln⟩
  have HY := Lib.hid ((Fr.refl (· = Q) w).setCell (R := Q) (i := 0) (.inl rfl) (.string (txt l ++ s)))
  have c0 := cell_at hQ 0
  have c1 := cell_at hQ 1
  have f0 := frozen_of_row w Q 0 _ _ hQ
  generalize txt l = S at *
  clear hQ hap hss hln
  have d1 : ¬ 9223372036854775807 < S.size + s.size := by omega
  go_enter Tryd.func11, Tryd.ntmps11
  go_wp2_with fail
  go_ret
  exact ⟨rfl, HX.out, HY.out⟩
set_option maxRecDepth 100000 in
theorem refPush_dead (Q n : Nat) (s : ByteArray) (w : World) (h : QIn w Q (.dead n)) :
    Calls Tryd.prog 11 #[.pointer (some ⟨Q, 0, none⟩), .string s] w fun e w' => e = .returned (.int .i64 4) ∧ w = w' := by
  obtain ⟨S, hQ, hn⟩ := h
  have c1 := cell_at hQ 1
  clear hQ hn
  go_enter Tryd.func11, Tryd.ntmps11
  go_wp2_with fail
  go_ret
  exact ⟨rfl, rfl⟩
end Go.Proofs.YtmaihiklcdidbaaDoor
