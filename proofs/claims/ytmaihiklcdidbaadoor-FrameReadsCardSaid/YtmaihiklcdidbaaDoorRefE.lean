/-
  The document's own reader of frames: what a head says. No memory that was there turns. Conditions: the texts' lengths.
-/
import Derived.Test.YtmaihiklcdidbaaDoorRefB
import Derived.Test.YtmaihiklcdidbaaDoorRefC
import Derived.Test.YtmaihiklcdidbaaDoorRefD
namespace Go.Proofs.YtmaihiklcdidbaaDoor
open Go.RowKit

theorem split_len {l r : List UInt8} (h : r ∈ splitP l) : r.length ≤ l.length := splitF_len _ _ _ h
theorem split_many : ∀ (f : Nat) (l : List UInt8), 2 * (splitF f l).length ≤ l.length + 2
  | 0, l => by simp [splitF]
  | f + 1, l => by
    unfold splitF
    split
    · rename_i h
      have := split_many f (l.drop ((Lib.index l crlf).toNat + 2))
      have h2 := index_len h
      rw [List.length_drop] at this
      have : crlf.length = 2 := rfl
      rw [List.length_cons]
      omega
    · simp
theorem lineN_short {s name v : List UInt8} (h : lineN s name = some v) : v.length ≤ s.length := by
  unfold lineN at h
  split at h
  · injection h with h; rw [← h, List.length_drop]; omega
  · cases h
set_option maxRecDepth 100000 in
set_option maxHeartbeats 2000000 in
theorem Length_any (s : ByteArray) (hs : s.size ≤ 1000000000) (w : World) : Calls Tryd.prog 27 #[.string s] w fun e w' => e = .returned (.int .i64 (intO (headP s.data.toList))) ∧ Below w.heap.size w w' := by
  have HL := Lib.hid (lines_any s hs w)
  have hsl := Lib.size_eq s
  obtain ⟨l, hl⟩ : ∃ l, l = s.data.toList := ⟨_, rfl⟩
  rw [← hl] at HL hsl ⊢
  obtain ⟨Z, hZ⟩ : ∃ Z, Z = intO (headP l) := ⟨_, rfl⟩
  have hq := lenQ_head l
  rw [← hZ] at hq ⊢
  have hlen := fun r h => @split_len l r h
  have hmany : 2 * (splitP l).length ≤ l.length + 2 := split_many _ l
  generalize splitP l = rows at *
  have HQ := Lib.hid hq
  have HLE := Lib.hid (fun r (h : r ∈ rows) => show r.length ≤ 1000000000 by have := hlen r h; omega)
  have hmany : rows.length ≤ 1000000000 := by omega
  clear hl hZ hq hlen hsl
  go_enter Tryd.func27, Tryd.ntmps27
  go_wp2_with fail
  refine HL.out.mono ?_
  rintro e w1 ⟨v, rfl, hS, hB⟩
  obtain ⟨p, c, hv⟩ := hS.shape
  subst hv
  have HS := Lib.hid hS
  have HB := Lib.hid hB
  clear hS hB HL
  go_wp2_with fail
  go_loopw [4, 5, 6, 7] (fun nv lv tv iv wr => ∃ (i L T : Nat) (z : Int), nv = .int .i64 z ∧ lv = .int .i64 (L : Int) ∧ tv = .int .i64 (T : Int) ∧ iv = .int .i64 (i : Int) ∧ i ≤ rows.length ∧ L ≤ i ∧ T ≤ i ∧ wr = w1 ∧ Hid (lenQ (rows.drop i) z L T = Z)) (fun _ _ _ n _ => rows.length - (intOf n).toNat)
  case atStart => exact ⟨0, 0, 0, -1, rfl, rfl, rfl, rfl, by omega, by omega, by omega, rfl, Lib.hid (by rw [List.drop_zero]; exact HQ.out)⟩
  case round =>
    obtain ⟨i, L, T, z, rfl, rfl, rfl, rfl, hi, hL, hT, rfl, hq⟩ := hrel
    by_cases hi3 : i < rows.length
    · have hir : (i : Int) < (rows.length : Int) := by omega
      obtain ⟨r, hr⟩ : ∃ r, rows[i]? = some r := ⟨_, List.getElem?_eq_getElem hi3⟩
      obtain ⟨g, rfl, hcell⟩ := HS.out.cell hr
      have hrl := HLE.out r (List.mem_of_getElem? hr)
      have hrs : (txt r).size ≤ 1000000000 := by rw [Lib.size_eq, txt_list]; exact hrl
      have hdr := Lib.drop_at hr
      have H1 := Lib.hid (named_any (txt r) lenN hrs (by decide) wr)
      have H2 := Lib.hid (named_any (txt r) typN hrs (by decide) wr)
      rw [txt_list] at H1 H2
      cases hln : lineN r lenN with
      | some v =>
        rw [hln] at H1
        have hvl := lineN_short hln
        have H3 := Lib.hid (number_any (txt v) (by rw [Lib.size_eq, txt_list]; omega) wr)
        rw [txt_list] at H3
        have hst : lenQ (rows.drop i) z L T = match numP v with | none => -1 | some m => lenQ (rows.drop (i + 1)) m (L + 1) T := by
          rw [hdr]
          conv => lhs; unfold lenQ
          rw [hln]
          rfl
        rw [hq.out] at hst
        have hV : namedV (some v) = .tuple #[.string (txt v), .bool true] := rfl
        rw [hV] at H1
        generalize txt v = TV at *
        generalize txt r = TR at *
        cases hnp : numP v with
        | none =>
          rw [hnp] at H3 hst
          have HR : Hid (Z = -1) := Lib.hid hst
          have h3 : intO none = -1 := rfl
          rw [h3] at H3
          clear hst hq hln hnp hV hdr hr hrs hvl hrl h3
          go_wp2_with fail
          refine H1.out.mono ?_
          rintro e w2 ⟨rfl, rfl⟩
          go_wp2_with fail
          refine H3.out.mono ?_
          rintro e w2 ⟨rfl, rfl⟩
          go_wp2_with fail
          go_ret
          exact ⟨by rw [HR.out]; rfl, HB.out⟩
        | some m =>
          rw [hnp] at H3 hst
          have HQ2 := Lib.hid hst.symm
          have h3 : intO (some m) = (m : Int) := rfl
          rw [h3] at H3
          clear hst hq hln hnp hV hdr hr hrs hvl hrl h3
          go_wp2_with fail
          refine H1.out.mono ?_
          rintro e w2 ⟨rfl, rfl⟩
          go_wp2_with fail
          refine H3.out.mono ?_
          rintro e w2 ⟨rfl, rfl⟩
          go_wp2_with fail
          refine ⟨⟨i + 1, L + 1, T, m, rfl, by go_num, rfl, by go_num, by omega, by omega, by omega, trivial, HQ2⟩, ?_⟩
          simp [intOf]
          omega
      | none =>
        rw [hln] at H1
        have hV : namedV none = .tuple #[.string (txt []), .bool false] := rfl
        rw [hV] at H1
        cases htn : lineN r typN with
        | none =>
          rw [htn, hV] at H2
          have HR : Hid (Z = -1) := Lib.hid (by
            rw [← hq.out, hdr]
            unfold lenQ
            rw [hln, htn])
          generalize txt r = TR at *
          clear hq hln htn hV hdr hr hrs hrl
          go_wp2_with fail
          refine H1.out.mono ?_
          rintro e w2 ⟨rfl, rfl⟩
          go_wp2_with fail
          refine H2.out.mono ?_
          rintro e w2 ⟨rfl, rfl⟩
          go_wp2_with fail
          go_ret
          exact ⟨by rw [HR.out]; rfl, HB.out⟩
        | some v =>
          rw [htn] at H2
          have hvl := lineN_short htn
          have hvb : v.length ≤ 1000000000 := by omega
          have hst : lenQ (rows.drop i) z L T = if v.all isPr = true then lenQ (rows.drop (i + 1)) z L (T + 1) else -1 := by
            rw [hdr]
            conv => lhs; unfold lenQ
            rw [hln, htn]
          rw [hq.out] at hst
          have HST := Lib.hid hst
          have hV2 : namedV (some v) = .tuple #[.string (txt v), .bool true] := rfl
          rw [hV2] at H2
          have hget := fun i h => Lib.data_getElem? (txt v) i h
          rw [txt_list] at hget
          have HG := Lib.hid hget
          have hvs : (txt v).size = v.length := by rw [Lib.size_eq, txt_list]
          have HV := Lib.hid hvs
          generalize txt v = TV at *
          generalize txt r = TR at *
          clear hq hst hln htn hV hV2 hdr hr hrs hrl hget
          go_wp2_with fail
          refine H1.out.mono ?_
          rintro e w2 ⟨rfl, rfl⟩
          go_wp2_with fail
          refine H2.out.mono ?_
          rintro e w2 ⟨rfl, rfl⟩
          go_wp2_with fail
          go_loopw [10] (fun kv wq => ∃ k : Nat, kv = .int .i64 (k : Int) ∧ k ≤ v.length ∧ wq = wr ∧ Hid ((v.take k).all isPr = true)) (fun kv _ => v.length - (intOf kv).toNat)
          case atStart => exact ⟨0, rfl, by omega, rfl, Lib.hid rfl⟩
          case round =>
            obtain ⟨k, rfl, hk, rfl, hka⟩ := hrel
            by_cases hk3 : k < v.length
            · have hkr : (k : Int) < (v.length : Int) := by omega
              obtain ⟨y, hy⟩ : ∃ y : UInt8, TV[k]'(by omega) = y := ⟨_, rfl⟩
              have Hy := Lib.hid (HG.out k (by omega))
              rw [hy] at Hy
              by_cases hpr : isPr y = true
              · have h1 : 32 ≤ y.toNat ∧ y.toNat ≤ 126 := by
                  unfold isPr at hpr
                  simpa using hpr
                have q1 : ¬ (y.toNat : Int) < 32 := by omega
                have q2 : ¬ (126 : Int) < (y.toNat : Int) := by omega
                have HA : Hid ((v.take (k + 1)).all isPr = true) := Lib.hid (by
                  rw [List.take_add_one, Hy.out, List.all_append, hka.out]
                  simp [hpr])
                clear hpr h1
                go_wp2_with fail
                refine ⟨⟨k + 1, by go_num, by omega, trivial, HA⟩, ?_⟩
                simp [intOf]
                omega
              · have HR : Hid (Z = -1) := Lib.hid (by
                  rw [HST.out, if_neg]
                  intro h
                  exact hpr (List.all_eq_true.1 h y (List.mem_of_getElem? Hy.out)))
                have hq : (y.toNat : Int) < 32 ∨ ¬ (y.toNat : Int) < 32 ∧ (126 : Int) < (y.toNat : Int) := by
                  by_cases h1 : 32 ≤ y.toNat
                  · by_cases h2 : y.toNat ≤ 126
                    · exact absurd (by unfold isPr; simp [h1, h2]) hpr
                    · right; omega
                  · left; omega
                clear hpr
                rcases hq with q1 | ⟨q1, q2⟩
                · go_wp2_with fail
                  go_ret
                  exact ⟨by rw [HR.out]; rfl, HB.out⟩
                · go_wp2_with fail
                  go_ret
                  exact ⟨by rw [HR.out]; rfl, HB.out⟩
            · have hkr : ¬ (k : Int) < (v.length : Int) := by omega
              obtain rfl : k = v.length := by omega
              have HQ2 : Hid (lenQ (rows.drop (i + 1)) z L (T + 1) = Z) := Lib.hid (by
                have := hka.out
                rw [List.take_length] at this
                rw [HST.out, if_pos this])
              clear hka
              go_wp2_with fail
              refine ⟨⟨i + 1, L, T + 1, z, rfl, rfl, by go_num, by go_num, by omega, by omega, by omega, trivial, HQ2⟩, ?_⟩
              simp [intOf]
              omega
    · have hir : ¬ (i : Int) < (rows.length : Int) := by omega
      obtain rfl : i = rows.length := by omega
      have hz : Z = if L ≠ 1 ∨ 1 < T then -1 else z := by
        have := hq.out
        rw [List.drop_length] at this
        rw [← this]
        rfl
      clear hq
      by_cases hL1 : L = 1
      · by_cases hT1 : 1 < T
        · have HR : Hid (Z = -1) := Lib.hid (by rw [hz, if_pos (Or.inr hT1)])
          have h1 : (L : Int) = 1 := by omega
          have h2 : (1 : Int) < (T : Int) := by omega
          clear hz
          go_wp2_with fail
          go_ret
          exact ⟨by rw [HR.out]; rfl, HB.out⟩
        · have HR : Hid (Z = z) := Lib.hid (by rw [hz, if_neg (by omega)])
          have h1 : (L : Int) = 1 := by omega
          have h2 : ¬ (1 : Int) < (T : Int) := by omega
          clear hz
          go_wp2_with fail
          go_ret
          exact ⟨by rw [HR.out]; rfl, HB.out⟩
      · have HR : Hid (Z = -1) := Lib.hid (by rw [hz, if_pos (Or.inl hL1)])
        have h1 : ¬ (L : Int) = 1 := by omega
        clear hz
        go_wp2_with fail
        go_ret
        exact ⟨by rw [HR.out]; rfl, HB.out⟩
end Go.Proofs.YtmaihiklcdidbaaDoor
