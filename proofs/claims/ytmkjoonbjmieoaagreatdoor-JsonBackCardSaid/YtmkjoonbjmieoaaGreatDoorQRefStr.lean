/-
  emendref03.escape and quoted AT EVERY TEXT of at most 1000000 bytes, from every place of it: what they return; no memory that was there turns. Condition: the text's length.
-/
import Derived.Test.YtmkjoonbjmieoaaGreatDoorQRefEsc
namespace Go.Proofs.YtmkjoonbjmieoaaGreatDoor
open Go.RowKit

theorem short_none (x : Nat) (h : x ≠ 34 ∧ x ≠ 92 ∧ x ≠ 47 ∧ x ≠ 98 ∧ x ≠ 102 ∧ x ≠ 110 ∧ x ≠ 114 ∧ x ≠ 116) : short x = none := by
  unfold short
  simp only [h.1, h.2.1, h.2.2.1, h.2.2.2.1, h.2.2.2.2.1, h.2.2.2.2.2.1, h.2.2.2.2.2.2.1, h.2.2.2.2.2.2.2, if_false]
set_option maxRecDepth 100000 in
theorem refEsc_any (s : ByteArray) (i : Nat) (hs : s.size ≤ 1000000) (w : World) : Calls Tryz.prog 132 #[.string s, .int .i64 i] w fun e w' => e = .returned (escS i (escP (rest s i))) ∧ Below w.heap.size w w' := by
  by_cases h : i < s.size
  · obtain ⟨x, hx⟩ : ∃ x, s[i].toNat = x := ⟨_, rfl⟩
    by_cases a1 : x = 34
    · exact refEsc_34 s i h hs (by omega) w
    by_cases a2 : x = 92
    · exact refEsc_92 s i h hs (by omega) w
    by_cases a3 : x = 47
    · exact refEsc_47 s i h hs (by omega) w
    by_cases a4 : x = 98
    · exact refEsc_98 s i h hs (by omega) w
    by_cases a5 : x = 102
    · exact refEsc_102 s i h hs (by omega) w
    by_cases a6 : x = 110
    · exact refEsc_110 s i h hs (by omega) w
    by_cases a7 : x = 114
    · exact refEsc_114 s i h hs (by omega) w
    by_cases a8 : x = 116
    · exact refEsc_116 s i h hs (by omega) w
    · exact refEsc_unit s i h hs x hx (short_none x ⟨a1, a2, a3, a4, a5, a6, a7, a8⟩) ⟨a1, a2, a3, a4, a5, a6, a7, a8⟩ w
  · have e : escP (rest s i) = none := by rw [rest_end s i h]; rfl
    rw [e]
    show Calls _ _ _ _ fun e w' => e = .returned (.tuple #[.string ⟨#[]⟩, .int .i64 0]) ∧ _
    have d0 : decide (s.size ≤ i) = true := by simp; omega
    clear e
    go_enter Tryz.func132, Tryz.ntmps132
    go_wp2_with fail
    go_ret2
    exact ⟨rfl, Below.refl _ _⟩
/-- What quoted hands back. -/
def strS (i : Nat) : Option (List UInt8 × Nat) → Value
  | some (x, n) => .tuple #[.string ⟨x.toArray⟩, .int .i64 ((i + n : Nat) : Int)]
  | none => .tuple #[.string ⟨#[]⟩, .int .i64 0]
theorem cat_bytes (a : List UInt8) (b : List UInt8) : (⟨a.toArray⟩ : ByteArray) ++ ⟨b.toArray⟩ = ⟨(a ++ b).toArray⟩ := by
  apply ByteArray.ext
  simp [ByteArray.data_append]
theorem one_ext (s : ByteArray) (i : Nat) (h : i < s.size) : s.extract i (i + 1) = ⟨[s[i]].toArray⟩ := by
  apply ByteArray.ext
  have e := extract_take s i 1
  rw [rest_cons s i h] at e
  have e3 : (s.extract i (i + 1)).data.toList = [s[i]] := by rw [e]; rfl
  show (s.extract i (i + 1)).data = _
  rw [← e3]
set_option maxRecDepth 100000 in
set_option maxHeartbeats 2000000 in
theorem refQuoted_any (s : ByteArray) (i : Nat) (hi : i < s.size) (hs : s.size ≤ 1000000) (w : World) : Calls Tryz.prog 105 #[.string s, .int .i64 i] w fun e w' => e = .returned (strS (i + 1) (strB (rest s (i + 1)))) ∧ Below w.heap.size w w' := by
  obtain ⟨V, hV⟩ : ∃ V, V = strS (i + 1) (strB (rest s (i + 1))) := ⟨_, rfl⟩
  rw [← hV]
  have HV := Lib.hid hV
  clear hV
  go_enter Tryz.func105, Tryz.ntmps105
  go_wp2_with fail
  go_loopw [1, 6] (fun vi vo wr => ∃ (k : Nat) (acc : List UInt8), i + 1 ≤ k ∧ k ≤ s.size ∧ vi = .int .i64 k ∧ vo = .string ⟨acc.toArray⟩ ∧ Hid (acc.length ≤ 4 * k) ∧ Hid (Below w.heap.size w wr) ∧ Hid (strS (i + 1) (go acc (k - (i + 1)) (strB (rest s k))) = V)) (fun vi _ _ => s.size - (intOf vi).toNat)
  case atStart => exact ⟨i + 1, [], by omega, by omega, rfl, rfl, Lib.hid (by simp), Lib.hid (Below.refl _ _), Lib.hid (by rw [HV.out, Nat.sub_self]; cases strB (rest s (i + 1)) <;> rfl)⟩
  case round =>
    obtain ⟨k, acc, hk1, hk2, rfl, rfl, hacc, hb, hrel⟩ := hrel
    by_cases hlt : k < s.size
    · obtain ⟨x, hx⟩ : ∃ x, s[k].toNat = x := ⟨_, rfl⟩
      have hc := rest_cons s k hlt
      have hr := hrel.out
      rw [hc] at hr
      have hla := hacc.out
      by_cases a1 : x = 34
      · have HR : Hid (V = .tuple #[.string ⟨acc.toArray⟩, .int .i64 ((k : Int) + 1)]) := Lib.hid (by
          rw [← hr, strB_end _ _ (by rw [hx]; exact a1)]
          show Value.tuple #[.string ⟨(acc ++ []).toArray⟩, .int .i64 ((i + 1 + (1 + (k - (i + 1))) : Nat) : Int)] = _
          rw [List.append_nil, show ((i + 1 + (1 + (k - (i + 1))) : Nat) : Int) = (k : Int) + 1 by omega])
        subst a1
        clear hr hrel hc hacc hla
        go_wp2_with fail
        go_ret2
        exact ⟨congrArg Ending.returned HR.out.symm, hb.out⟩
      have q1 : (((x : Nat) : Int) == 34) = false := by simp only [beq_eq_false_iff_ne, ne_eq]; omega
      by_cases a2 : x < 32
      · have HR : Hid (V = .tuple #[.string ⟨#[]⟩, .int .i64 0]) := Lib.hid (by rw [← hr, strB_low _ _ (by rw [hx]; exact a1) (by rw [hx]; exact a2)]; rfl)
        have d1 : decide ((x : Int) < 32) = true := by simp; omega
        clear hr hrel hc hacc hla a1 a2
        go_wp2_with fail
        go_ret2
        exact ⟨congrArg Ending.returned HR.out.symm, hb.out⟩
      have d1 : decide ((x : Int) < 32) = false := by simp; omega
      by_cases a3 : x = 92
      · have he := strB_esc s[k] (rest s (k + 1)) (by rw [hx]; exact a3)
        have HE : Hid (∀ w, Calls Tryz.prog 132 #[.string s, .int .i64 ((k : Int) + 1)] w fun e w' => e = .returned (escS (k + 1) (escP (rest s (k + 1)))) ∧ Below w.heap.size w w') := Lib.hid (fun w => refEsc_any s (k + 1) hs w)
        cases hp : escP (rest s (k + 1)) with
        | none =>
          rw [hp] at he HE
          unfold escS at HE
          have HR : Hid (V = .tuple #[.string ⟨#[]⟩, .int .i64 0]) := Lib.hid (by rw [← hr, he]; rfl)
          subst a3
          clear hr hrel hc hacc hla hp he a1 a2 q1 d1
          go_wp2_with fail
          refine (HE.out _).mono ?_
          rintro e w1 ⟨rfl, hb1⟩
          have HB1 := Lib.hid (hb.out.trans (hb1.mono hb.out.size))
          clear hb1
          go_wp2_with fail
          go_ret2
          exact ⟨congrArg Ending.returned HR.out.symm, HB1.out⟩
        | some y =>
          obtain ⟨p, j⟩ := y
          have hle := escP_le hp
          rw [rest_len] at hle
          have h4 := encL_len p
          rw [hp] at he HE
          have hES : escS (k + 1) (some (p, j)) = .tuple #[.string ⟨(encL p).toArray⟩, .int .i64 ((k + 1 + j : Nat) : Int)] := rfl
          rw [hES] at HE
          simp only [rest_drop] at he
          have HR : Hid (strS (i + 1) (go (acc ++ encL p) (k + 1 + j - (i + 1)) (strB (rest s (k + 1 + j)))) = V) := Lib.hid (by
            rw [← hr, he]
            cases strB (rest s (k + 1 + j)) with
            | none => rfl
            | some z =>
              obtain ⟨z, n⟩ := z
              show Value.tuple #[.string ⟨(acc ++ encL p ++ z).toArray⟩, .int .i64 ((i + 1 + (n + (k + 1 + j - (i + 1))) : Nat) : Int)] = .tuple #[.string ⟨(acc ++ (encL p ++ z)).toArray⟩, .int .i64 ((i + 1 + (n + j + 1 + (k - (i + 1))) : Nat) : Int)]
              rw [List.append_assoc, show i + 1 + (n + (k + 1 + j - (i + 1))) = i + 1 + (n + j + 1 + (k - (i + 1))) by omega])
          have hcat := cat_bytes acc (encL p)
          have HL : Hid ((acc ++ encL p).length ≤ 4 * (k + 1 + j)) := Lib.hid (by rw [List.length_append]; omega)
          have hz1 : (⟨acc.toArray⟩ : ByteArray).size = acc.length := rfl
          have hz2 : (⟨(encL p).toArray⟩ : ByteArray).size = (encL p).length := rfl
          have hsum : ¬ 9223372036854775807 < (⟨acc.toArray⟩ : ByteArray).size + (⟨(encL p).toArray⟩ : ByteArray).size := by rw [hz1, hz2]; omega
          have hne0 : ((((k + 1 + j : Nat) : Nat) : Int) == 0) = false := by simp only [beq_eq_false_iff_ne, ne_eq]; omega
          subst a3
          clear hr hrel hc hacc hp he a1 a2 q1 d1 hES hz1 hz2
          go_wp2_with fail
          refine (HE.out _).mono ?_
          rintro e w1 ⟨rfl, hb1⟩
          have HB1 := Lib.hid (hb.out.trans (hb1.mono hb.out.size))
          clear hb1
          go_wp2_with fail
          refine ⟨⟨k + 1 + j, acc ++ encL p, by omega, by omega, by go_num, rfl, HL, HB1, HR⟩, ?_⟩
          simp [RowKit.intOf]; omega
      · have h1 := strB_one s[k] (rest s (k + 1)) ⟨by rw [hx]; exact a1, by rw [hx]; exact a2, by rw [hx]; exact a3⟩
        have HR : Hid (strS (i + 1) (go (acc ++ [s[k]]) (k + 1 - (i + 1)) (strB (rest s (k + 1)))) = V) := Lib.hid (by
          rw [← hr, h1]
          cases strB (rest s (k + 1)) with
          | none => rfl
          | some z =>
            obtain ⟨z, n⟩ := z
            show Value.tuple #[.string ⟨(acc ++ [s[k]] ++ z).toArray⟩, .int .i64 ((i + 1 + (n + (k + 1 - (i + 1))) : Nat) : Int)] = .tuple #[.string ⟨(acc ++ (s[k] :: z)).toArray⟩, .int .i64 ((i + 1 + (n + 1 + (k - (i + 1))) : Nat) : Int)]
            rw [List.append_assoc, show i + 1 + (n + (k + 1 - (i + 1))) = i + 1 + (n + 1 + (k - (i + 1))) by omega]
            rfl)
        have hcat : (⟨acc.toArray⟩ : ByteArray) ++ s.extract k (k + 1) = ⟨(acc ++ [s[k]]).toArray⟩ := by rw [one_ext s k hlt, cat_bytes]
        have hsz : (s.extract k (k + 1)).size = 1 := by rw [one_ext s k hlt]; rfl
        obtain ⟨c, hcc⟩ : ∃ c, c = s[k] := ⟨_, rfl⟩
        rw [← hcc] at hcat HR
        clear hcc
        have HL : Hid ((acc ++ [c]).length ≤ 4 * (k + 1)) := Lib.hid (by rw [List.length_append]; simp; omega)
        have hz1 : (⟨acc.toArray⟩ : ByteArray).size = acc.length := rfl
        have hsum : ¬ 9223372036854775807 < (⟨acc.toArray⟩ : ByteArray).size + (s.extract k (k + 1)).size := by rw [hz1, hsz]; omega
        have q3 : (((x : Nat) : Int) != 92) = true := by simp; omega
        clear hr hrel hc hacc h1 a1 a2 a3 hz1 hsz
        go_wp2_with fail
        refine ⟨⟨k + 1, acc ++ [c], by omega, by omega, by go_num, rfl, HL, hb, HR⟩, ?_⟩
        simp [RowKit.intOf]; omega
    · have HR : Hid (V = .tuple #[.string ⟨#[]⟩, .int .i64 0]) := Lib.hid (by rw [← hrel.out, rest_end s k hlt]; rfl)
      clear hrel hacc
      go_wp2_with fail
      go_ret2
      exact ⟨congrArg Ending.returned HR.out.symm, hb.out⟩
end Go.Proofs.YtmkjoonbjmieoaaGreatDoor
