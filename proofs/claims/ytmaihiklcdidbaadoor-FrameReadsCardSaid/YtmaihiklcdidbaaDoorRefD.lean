/-
  The document's own reader of frames: the lines of a head. No memory that was there turns. Conditions: the texts' lengths.
-/
import Derived.Test.YtmaihiklcdidbaaDoorRefA
import Derived.Test.YtmaihiklcdidbaaDoorPartsLaw
namespace Go.Proofs.YtmaihiklcdidbaaDoor
open Go.RowKit

theorem occ_drop (l sub : List UInt8) (f j : Nat) : Lib.occAt (l.drop f) sub j = Lib.occAt l sub (f + j) := by
  unfold Lib.occAt
  rw [List.drop_drop]
theorem split_occ {l : List UInt8} {f i : Nat} (hf : f ≤ i) (ho : Lib.occAt l crlf i = true) (hno : ∀ j, f ≤ j → j < i → Lib.occAt l crlf j = false) (hi : i + 2 ≤ l.length) :
    splitP (l.drop f) = (l.drop f).take (i - f) :: splitP (l.drop (i + 2)) := by
  have hx : Lib.index (l.drop f) crlf = ((i - f : Nat) : Int) := Lib.index_first (by rw [List.length_drop]; omega) (by rw [occ_drop, show f + (i - f) = i by omega]; exact ho) (fun j hj => by rw [occ_drop]; exact hno _ (by omega) (by omega))
  rw [splitP_hit (by omega), hx, Int.toNat_natCast, List.drop_drop, show f + (i - f + 2) = i + 2 by omega]
theorem split_no {l : List UInt8} {f : Nat} (hno : ∀ j, f ≤ j → j < l.length → Lib.occAt l crlf j = false) : splitP (l.drop f) = [l.drop f] := by
  apply splitP_miss
  intro h
  rcases Lib.index_spec (l.drop f) crlf with ⟨h', _⟩ | ⟨k, h1, _, h3, _⟩
  · omega
  · have hr := Lib.occAt_room h3
    rw [List.length_drop] at hr
    rw [occ_drop] at h3
    rcases hr with hr | hr
    · have : crlf.length = 2 := rfl
      rw [hno _ (by omega) (by omega)] at h3
      cases h3
    · cases hr
set_option maxRecDepth 100000 in
set_option maxHeartbeats 2000000 in
theorem lines_any (s : ByteArray) (hs : s.size ≤ 1000000000) (w : World) : Calls Tryd.prog 33 #[.string s] w fun e w' => ∃ v, e = .returned v ∧ SRow w' w.heap.size v (splitP s.data.toList) ∧ Below w.heap.size w w' := by
  obtain ⟨i0, hi0, hz0, hz1, hz2⟩ := info_parts str_info
  have hS0 := Lib.hid (fun (i : Nat) (hi : i ≤ s.size) (W : World) => stands_any s (txt crlf) i hs (by decide) (by decide) (by omega) W)
  have hext := fun f i => ext_list s f i
  obtain ⟨l, hl⟩ : ∃ l, l = s.data.toList := ⟨_, rfl⟩
  have hsl : s.size = l.length := by rw [hl]; exact Lib.size_eq s
  rw [txt_list, ← hl] at hS0
  rw [← hl] at hext ⊢
  have HEX := Lib.hid hext
  have HL := Lib.hid hsl
  clear hl hext hsl
  go_enter Tryd.func33, Tryd.ntmps33
  go_wp2_with fail
  go_loopw [3, 4, 5] (fun v fv n wr => ∃ (i f : Nat) (D : List (List UInt8)) (v0 : Value), v0 = v ∧ fv = .int .i64 (f : Int) ∧ n = .int .i64 (i : Int) ∧ f ≤ i ∧ i ≤ s.size ∧ D.length ≤ i ∧ Hid (SRow wr w.heap.size v0 D) ∧ Hid (Below w.heap.size w wr) ∧ Hid (D ++ splitP (l.drop f) = splitP l) ∧ Hid (∀ j, f ≤ j → j < i → Lib.occAt l crlf j = false)) (fun _ _ n _ => s.size - (intOf n).toNat)
  case atStart => exact ⟨0, 0, [], _, rfl, rfl, rfl, by omega, by omega, by simp, Lib.hid (nil_row _ _), Lib.hid (Below.refl _ _), Lib.hid rfl, Lib.hid (fun j _ h => absurd h (by omega))⟩
  case round =>
    obtain ⟨i, f, D, v0, rfl, rfl, rfl, hf, hi, hDl, hS, hB, hsp, hno⟩ := hrel
    obtain ⟨p0, c0, hv0⟩ := hS.out.shape
    subst hv0
    have HON : Hid (wr.ownsRow w.heap.size 9 1 (.slice p0 D.length c0) D.length (scells D)) := Lib.hid hS.out
    have HB1 : Hid (w.heap.size ≤ wr.heap.size) := Lib.hid hB.out.size
    by_cases hi3 : i < s.size
    · have hisz : (i : Int) < (s.size : Int) := by omega
      have HC := Lib.hid (hS0.out i hi wr)
      by_cases ho : Lib.occAt l crlf i = true
      · have hi2 : i + 2 ≤ s.size := by
          rcases Lib.occAt_room ho with h | h
          · have : crlf.length = 2 := rfl
            have := HL.out
            omega
          · cases h
        have hsx := split_occ hf ho hno.out (by have := HL.out; omega)
        obtain ⟨bb, hbb⟩ : ∃ bb, bb = (l.drop f).take (i - f) := ⟨_, rfl⟩
        rw [← hbb] at hsx
        have HX : Hid (s.extract f i = txt bb) := Lib.hid (by
          apply ba_ext
          rw [HEX.out, txt_list, hbb])
        have HSP : Hid ((D ++ [bb]) ++ splitP (l.drop (i + 2)) = splitP l) := Lib.hid (by rw [← hsp.out, hsx, List.append_assoc]; rfl)
        clear hsx hbb hsp hno
        rw [ho] at HC
        clear ho
        obtain ⟨X, hXX⟩ : ∃ X, X = s.extract f i := ⟨_, rfl⟩
        rw [← hXX] at HX
        have e0 : s.extract f i = X := hXX.symm
        clear hXX
        go_wp2_with fail
        refine HC.out.mono ?_
        rintro e w1 ⟨rfl, rfl⟩
        go_wp2_with (at_builtin; refine wpList_append_own2 _ rfl _ _ 44 rfl w.heap.size 9 i0 (.string ⟨#[]⟩) 1 16 Tryd.underlying44 hi0 hz0 hz1 hz2 rfl (by decide) _ _ _ rfl (HON.out.alloc _) ⟨wr.heap.size, 0, none⟩ 1 1 [.string X] rfl rfl (one_new _ _) ?c2 ?c3 ?c4 ?c5 ?_)
        case c2 => simp [Value.oneCell']
        case c3 => unfold maxLen; omega
        case c4 => omega
        case c5 => have := HB1.out; (try rw [World.size_alloc]); omega
        intro v2 w2 hown2 hgr2 hne2
        have HS2 : Hid (SRow w2 w.heap.size v2 (D ++ [bb])) := Lib.hid (by
          unfold SRow
          rw [List.length_append, show scells (D ++ [bb]) = scells D ++ [.string (txt bb)] by simp [scells], ← HX.out]
          exact hown2)
        have HB2 : Hid (Below w.heap.size w w2) := Lib.hid (((hB.out.trans ((alloc_below wr (.cells #[.string X] 9)).mono HB1.out))).grown hgr2 (by rw [World.size_alloc]; have := HB1.out; omega) (fun k hk => (hS.out.lt hk).2))
        clear hown2 hgr2 hne2 HON hS hB
        go_wp2_with fail
        refine ⟨⟨i + 2, i + 2, D ++ [bb], _, rfl, by go_num, by go_num, by omega, by omega, by rw [List.length_append]; simp; omega, HS2, HB2, HSP, Lib.hid (fun j h1 h2 => absurd h2 (by omega))⟩, ?_⟩
        simp [intOf]
        omega
      · have ho : Lib.occAt l crlf i = false := by simpa using ho
        have HNO : Hid (∀ j, f ≤ j → j < i + 1 → Lib.occAt l crlf j = false) := Lib.hid (fun j h1 h2 => by
          rcases (by omega : j < i ∨ j = i) with h | rfl
          · exact hno.out j h1 h
          · exact ho)
        rw [ho] at HC
        clear ho hno HON HB1
        go_wp2_with fail
        refine HC.out.mono ?_
        rintro e w1 ⟨rfl, rfl⟩
        go_wp2_with fail
        refine ⟨⟨i + 1, f, D, _, rfl, rfl, by go_num, by omega, by omega, by omega, hS, hB, hsp, HNO⟩, ?_⟩
        simp [intOf]
        omega
    · have hisz : ¬ (i : Int) < (s.size : Int) := by omega
      obtain rfl : i = s.size := by omega
      have hsx : splitP (l.drop f) = [l.drop f] := split_no (fun j h1 h2 => hno.out j h1 (by have := HL.out; omega))
      obtain ⟨bb, hbb⟩ : ∃ bb, bb = l.drop f := ⟨_, rfl⟩
      have HX : Hid (s.extract f s.size = txt bb) := Lib.hid (by
        apply ba_ext
        rw [HEX.out, txt_list, hbb, List.take_of_length_le (by rw [List.length_drop, ← HL.out]; omega)])
      have HSP : Hid (D ++ [bb] = splitP l) := Lib.hid (by rw [← hsp.out, hsx, hbb])
      clear hsx hbb hsp hno
      obtain ⟨X, hXX⟩ : ∃ X, X = s.extract f s.size := ⟨_, rfl⟩
      rw [← hXX] at HX
      have e0 : s.extract f s.size = X := hXX.symm
      clear hXX
      go_wp2_with (at_builtin; refine wpList_append_own2 _ rfl _ _ 44 rfl w.heap.size 9 i0 (.string ⟨#[]⟩) 1 16 Tryd.underlying44 hi0 hz0 hz1 hz2 rfl (by decide) _ _ _ rfl (HON.out.alloc _) ⟨wr.heap.size, 0, none⟩ 1 1 [.string X] rfl rfl (one_new _ _) ?c2 ?c3 ?c4 ?c5 ?_)
      case c2 => simp [Value.oneCell']
      case c3 => unfold maxLen; omega
      case c4 => omega
      case c5 => have := HB1.out; (try rw [World.size_alloc]); omega
      intro v2 w2 hown2 hgr2 hne2
      have HS2 : Hid (SRow w2 w.heap.size v2 (D ++ [bb])) := Lib.hid (by
        unfold SRow
        rw [List.length_append, show scells (D ++ [bb]) = scells D ++ [.string (txt bb)] by simp [scells], ← HX.out]
        exact hown2)
      have HB2 : Hid (Below w.heap.size w w2) := Lib.hid (((hB.out.trans ((alloc_below wr (.cells #[.string X] 9)).mono HB1.out))).grown hgr2 (by rw [World.size_alloc]; have := HB1.out; omega) (fun k hk => (hS.out.lt hk).2))
      clear hown2 hgr2 hne2 HON hS hB
      rw [HSP.out] at HS2
      go_wp2_with fail
      go_ret
      exact ⟨_, rfl, HS2.out, HB2.out⟩
end Go.Proofs.YtmaihiklcdidbaaDoor
