/-
  docs' methods OF DOCUMENTS THAT New DID NOT MAKE (nil, or a struct of zero values): what they return; no memory that was there turns. emendlaw08.dir. Conditions as each says.
-/
import Derived.Test.YtpphkkelikdhkaaDoorOKnown0
import Derived.Test.YtpphkkelikdhkaaDoorOAll
namespace Go.Proofs.YtpphkkelikdhkaaDoor
open Go.RowKit Go.Maps

/-- No documents that New made. -/
def NotMade (W : World) (p : Option Addr) : Prop := p = none ∨ ∃ z, p = some ⟨z, 0, none⟩ ∧ W.heap[z]? = some (.cells #[.pointer none, .map none] 59 (0, 0))
theorem NotMade.keep {W W' : World} {p : Option Addr} (h : NotMade W p) (hb : Below W.heap.size W W') : NotMade W' p := by
  rcases h with h | ⟨z, h1, h2⟩
  · exact .inl h
  · exact .inr ⟨z, h1, heap_keep hb h2⟩
theorem run_eql_nil_ptr {P : Program} (w : World) {tp te : TypeId} (a : Addr) (hp : P.underlying tp = some (.pointer te)) :
    (binOp .eql tp (.pointer none) (.pointer (some a))).run P w = .ok (.bool false) w := by
  have h : ∀ d : Nat, (Op.equalIn (d + 1) tp (.pointer none) (.pointer (some a))).run P w = .ok false w := fun d => by
    simp [Op.equalIn, run_underlying hp]
  simp only [binOp]
  simp [Op.equal, Op.maxDepth, h 9999]
set_option maxRecDepth 100000 in
theorem isMade_no (p : Option Addr) (w : World) (h : NotMade w p) : Calls Tryd.prog 36 #[.pointer p] w fun e w' => e = .returned (.bool false) ∧ w = w' := by
  rcases h with rfl | ⟨z, rfl, hz⟩
  · go_enter Tryd.func36, Tryd.ntmps36
    go_wp2_with fail
    go_ret
    exact ⟨rfl, rfl⟩
  · have c0 := cell_at (i := 0) hz
    clear hz
    have he := fun w => run_eql_nil_ptr (P := Tryd.prog) w (tp := 31) (⟨z, 0, none⟩ : Addr) Tryd.underlying31
    go_enter Tryd.func36, Tryd.ntmps36
    go_wp2_with fail
    go_ret
    exact ⟨rfl, rfl⟩
theorem open_no (p : Option Addr) (u t : ByteArray) (v : Int) (w : World) (h : NotMade w p) : Calls Tryd.prog 13 #[.pointer p, .string u, .string t, .int .i64 v] w fun e w' => e = .returned (.int .i64 1) ∧ w' = w := by
  have HM := Lib.hid (isMade_no p w h)
  clear h
  go_enter Tryd.func13, Tryd.ntmps13
  go_wp2_with fail
  refine HM.out.mono ?_
  rintro e w1 ⟨rfl, rfl⟩
  go_wp2_with fail
  go_ret
  exact ⟨rfl, rfl⟩
theorem change_no (p : Option Addr) (u : ByteArray) (v : Int) (l : Value) (w : World) (h : NotMade w p) : Calls Tryd.prog 15 #[.pointer p, .string u, .int .i64 v, l] w fun e w' => e = .returned (.int .i64 1) ∧ w' = w := by
  have HM := Lib.hid (isMade_no p w h)
  clear h
  go_enter Tryd.func15, Tryd.ntmps15
  go_wp2_with fail
  refine HM.out.mono ?_
  rintro e w1 ⟨rfl, rfl⟩
  go_wp2_with fail
  go_ret
  exact ⟨rfl, rfl⟩
theorem close_no (p : Option Addr) (u : ByteArray) (w : World) (h : NotMade w p) : Calls Tryd.prog 19 #[.pointer p, .string u] w fun e w' => e = .returned (.int .i64 1) ∧ w' = w := by
  have HM := Lib.hid (isMade_no p w h)
  clear h
  go_enter Tryd.func19, Tryd.ntmps19
  go_wp2_with fail
  refine HM.out.mono ?_
  rintro e w1 ⟨rfl, rfl⟩
  go_wp2_with fail
  go_ret
  exact ⟨rfl, rfl⟩
theorem all_no (p : Option Addr) (w : World) (h : NotMade w p) : Calls Tryd.prog 20 #[.pointer p] w fun e w' => e = .returned (.slice none 0 0) ∧ w' = w := by
  have HM := Lib.hid (isMade_no p w h)
  clear h
  go_enter Tryd.func20, Tryd.ntmps20
  go_wp2_with fail
  refine HM.out.mono ?_
  rintro e w1 ⟨rfl, rfl⟩
  go_wp2_with fail
  go_ret
  exact ⟨rfl, rfl⟩
theorem copy_no (p : Option Addr) (w : World) (h : NotMade w p) : Calls Tryd.prog 25 #[.pointer p] w fun e w' => e = .returned (.pointer none) ∧ w' = w := by
  have HM := Lib.hid (isMade_no p w h)
  clear h
  go_enter Tryd.func25, Tryd.ntmps25
  go_wp2_with fail
  refine HM.out.mono ?_
  rintro e w1 ⟨rfl, rfl⟩
  go_wp2_with fail
  go_ret
  exact ⟨rfl, rfl⟩
theorem get_no (p : Option Addr) (u : ByteArray) (w : World) (h : NotMade w p) : Calls Tryd.prog 16 #[.pointer p, .string u] w fun e w' => e = .returned (.tuple #[docV zeroDc, .bool false]) ∧ Below w.heap.size w w' := by
  have HM := Lib.hid (isMade_no p _ (h.keep (alloc_below w (.cells #[.string ⟨#[]⟩, .string ⟨#[]⟩, .int .i64 0] 38))))
  clear h
  go_enter Tryd.func16, Tryd.ntmps16
  go_wp2_with fail
  refine HM.out.mono ?_
  rintro e w1 ⟨rfl, rfl⟩
  go_wp2_with fail
  refine ret_doc Tryd.results16 _ rfl (docV zeroDc) (load_doc (alloc_top w _ _)) ⟨rfl, alloc_below _ _⟩
theorem lawDir_any (s t : ByteArray) (b : Bool) (hs : s.size ≤ 1000000) (h1 : dirS s.data.toList = t) (h2 : dirB s.data.toList = b) (w : World) (hF : Fx w) : Calls Tryd.prog 22 #[.string s, .string t, .bool b] w fun e w' => e = .returned (.bool true) ∧ Below w.heap.size w w' := by
  have HC := Lib.hid (dir_any s hs w hF)
  rw [h1, h2] at HC
  clear hF h1 h2
  go_enter Tryd.func22, Tryd.ntmps22
  go_wp2_with fail
  refine HC.out.mono ?_
  rintro e w1 ⟨rfl, hb⟩
  have HB := Lib.hid hb
  clear hb
  go_wp2_with fail
  go_ret
  exact ⟨rfl, HB.out⟩
end Go.Proofs.YtpphkkelikdhkaaDoor
