/-
  The document's own reader of frames: does a line have a name? No memory turns. Conditions: the texts' lengths.
-/
import Derived.Test.YtmaihiklcdidbaaDoorRefA
namespace Go.Proofs.YtmaihiklcdidbaaDoor
open Go.RowKit

/-- What named hands back. -/
def namedV (o : Option (List UInt8)) : Value := .tuple #[.string (txt (o.getD [])), .bool o.isSome]
theorem low_big {x : UInt8} (h1 : 65 ≤ x.toNat) (h2 : x.toNat ≤ 90) : (low x).toNat = x.toNat + 32 := by
  have key : ∀ x : Fin 256, 65 ≤ (UInt8.ofNat x.val).toNat → (UInt8.ofNat x.val).toNat ≤ 90 → (low (UInt8.ofNat x.val)).toNat = (UInt8.ofNat x.val).toNat + 32 := by decide +kernel
  have := key ⟨x.toNat, x.toNat_lt⟩
  rw [show UInt8.ofNat x.toNat = x from UInt8.ofNat_toNat] at this
  exact this h1 h2
theorem low_not {x : UInt8} (h : ¬ (65 ≤ x.toNat ∧ x.toNat ≤ 90)) : low x = x := by unfold low; rw [if_neg h]
set_option maxRecDepth 100000 in
set_option maxHeartbeats 1000000 in
theorem named_any (s : ByteArray) (name : List UInt8) (hs : s.size ≤ 1000000000) (hn : name.length ≤ 100) (w : World) : Calls Tryd.prog 34 #[.string s, .string (txt name)] w fun e w' => e = .returned (namedV (lineN s.data.toList name)) ∧ w = w' := by
  have hget := fun i h => Lib.data_getElem? s i h
  have hgetn := fun i h => Lib.data_getElem? (txt name) i h
  rw [txt_list] at hgetn
  obtain ⟨l, hl⟩ : ∃ l, l = s.data.toList := ⟨_, rfl⟩
  have hsl : s.size = l.length := by rw [hl]; exact Lib.size_eq s
  have hnl : (txt name).size = name.length := by rw [Lib.size_eq, txt_list]
  have hdp : s.extract (name.length + 1) s.size = txt (l.drop (name.length + 1)) := by
    apply ba_ext
    rw [ext_list, txt_list, ← hl, List.take_of_length_le (by rw [List.length_drop]; omega)]
  rw [← hl] at hget ⊢
  have HG := Lib.hid hget
  have HM := Lib.hid hgetn
  have HL := Lib.hid hsl
  have HP := Lib.hid hdp
  have HT := Lib.hid hnl
  generalize hT : txt name = T at *
  have HU := Lib.hid hT
  clear hl hget hgetn hsl hdp hT
  by_cases h0 : s.size ≤ name.length
  · have h0' : (s.size : Int) ≤ (name.length : Int) := by omega
    have HR : Hid (lineN l name = none) := Lib.hid (by
      unfold lineN
      rw [if_neg]
      rintro ⟨h, _⟩
      have := (List.getElem?_eq_some_iff.1 h).1
      have := HL.out
      omega)
    go_enter Tryd.func34, Tryd.ntmps34
    go_wp2_with fail
    go_ret2
    exact ⟨by rw [HR.out]; rfl, rfl⟩
  · have h0' : ¬ (s.size : Int) ≤ (name.length : Int) := by omega
    obtain ⟨q, hq⟩ : ∃ q : UInt8, s[name.length]'(by omega) = q := ⟨_, rfl⟩
    have Hq := Lib.hid (HG.out name.length (by omega))
    rw [hq] at Hq
    by_cases h58 : q = 58
    · subst h58
      go_enter Tryd.func34, Tryd.ntmps34
      go_wp2_with fail
      go_loopw [6] (fun n wr => ∃ (i : Nat), n = .int .i64 (i : Int) ∧ i ≤ name.length ∧ wr = w ∧ Hid ((l.take i).map low = name.take i)) (fun n _ => name.length - (intOf n).toNat)
      case atStart => exact ⟨0, rfl, by omega, rfl, Lib.hid rfl⟩
      case round =>
        obtain ⟨i, rfl, hi, rfl, hi2⟩ := hrel
        by_cases hi3 : i < name.length
        · have hit : (i : Int) < (name.length : Int) := by omega
          have hisz : (i : Int) < (s.size : Int) := by omega
          obtain ⟨x, hx⟩ : ∃ x : UInt8, s[i]'(by omega) = x := ⟨_, rfl⟩
          obtain ⟨y, hy⟩ : ∃ y : UInt8, T[i]'(by omega) = y := ⟨_, rfl⟩
          have Hx := Lib.hid (HG.out i (by omega))
          have Hy := Lib.hid (HM.out i (by omega))
          rw [hx] at Hx
          rw [hy] at Hy
          by_cases hxy : low x = y
          · have HE : Hid ((l.take (i + 1)).map low = name.take (i + 1)) := Lib.hid (by
              rw [List.take_add_one, List.take_add_one, Hx.out, Hy.out, List.map_append, hi2.out, ← hxy]
              rfl)
            by_cases hup : 65 ≤ x.toNat ∧ x.toNat ≤ 90
            · have hlo := low_big hup.1 hup.2
              rw [hxy] at hlo
              have u1 : (65 : Int) ≤ (x.toNat : Int) := by omega
              have u2 : (x.toNat : Int) ≤ 90 := by omega
              obtain ⟨z, hz⟩ : ∃ z : Nat, x.toNat = 65 + z := ⟨x.toNat - 65, by omega⟩
              have hz2 : z ≤ 25 := by omega
              have hyz : y.toNat = 97 + z := by omega
              clear hlo hup hxy
              go_wp2_with fail
              trace_state
              refine ⟨⟨i + 1, by go_num, by omega, trivial, HE⟩, ?_⟩
              simp [intOf]
              omega
            · rw [low_not hup] at hxy
              subst hxy
              have u1 : ¬ ((65 : Int) ≤ (x.toNat : Int) ∧ (x.toNat : Int) ≤ 90) := by omega
              rcases (by omega : ¬ (65 : Int) ≤ (x.toNat : Int) ∨ ((65 : Int) ≤ (x.toNat : Int) ∧ ¬ (x.toNat : Int) ≤ 90)) with u2 | ⟨u2, u3⟩
              · clear u1 hup
                go_wp2_with fail
                refine ⟨⟨i + 1, by go_num, by omega, trivial, HE⟩, ?_⟩
                simp [intOf]
                omega
              · clear u1 hup
                go_wp2_with fail
                refine ⟨⟨i + 1, by go_num, by omega, trivial, HE⟩, ?_⟩
                simp [intOf]
                omega
          · have HR : Hid (lineN l name = none) := Lib.hid (by
              unfold lineN
              rw [if_neg]
              rintro ⟨_, h⟩
              have h2 := congrArg (fun z => z[i]?) h
              simp only [List.getElem?_map, List.getElem?_take_of_lt hi3, Hx.out, Hy.out, Option.map_some, Option.some.injEq] at h2
              exact hxy h2)
            by_cases hup : 65 ≤ x.toNat ∧ x.toNat ≤ 90
            · have hlo := low_big hup.1 hup.2
              have u1 : (65 : Int) ≤ (x.toNat : Int) := by omega
              have u2 : (x.toNat : Int) ≤ 90 := by omega
              obtain ⟨z, hz⟩ : ∃ z : Nat, x.toNat = 65 + z := ⟨x.toNat - 65, by omega⟩
              have hz2 : z ≤ 25 := by omega
              have hyz : ¬ (97 + (z : Int) = (y.toNat : Int)) := by
                intro h
                apply hxy
                apply UInt8.toNat_inj.1
                omega
              clear hlo hup hxy
              go_wp2_with fail
              trace_state
              go_ret2
              exact ⟨by rw [HR.out]; rfl, rfl⟩
            · rw [low_not hup] at hxy
              have hyz : ¬ ((x.toNat : Int) = (y.toNat : Int)) := by
                intro h
                apply hxy
                apply UInt8.toNat_inj.1
                omega
              rcases (by omega : ¬ (65 : Int) ≤ (x.toNat : Int) ∨ ((65 : Int) ≤ (x.toNat : Int) ∧ ¬ (x.toNat : Int) ≤ 90)) with u2 | ⟨u2, u3⟩
              · clear hup hxy
                go_wp2_with fail
                go_ret2
                exact ⟨by rw [HR.out]; rfl, rfl⟩
              · clear hup hxy
                go_wp2_with fail
                go_ret2
                exact ⟨by rw [HR.out]; rfl, rfl⟩
        · have hit : ¬ (i : Int) < (name.length : Int) := by omega
          obtain rfl : i = name.length := by omega
          have HR : Hid (lineN l name = some (l.drop (name.length + 1))) := Lib.hid (by
            unfold lineN
            rw [if_pos ⟨Hq.out, by rw [hi2.out, List.take_length]⟩])
          have hnl2 : (name.length : Int) + 1 ≤ (s.size : Int) := by omega
          clear hi2
          go_wp2_with fail
          go_ret2
          exact ⟨by rw [HR.out]; show _ = Ending.returned (.tuple #[.string (txt (l.drop (name.length + 1))), .bool true]); rw [← HP.out]; rfl, rfl⟩
    · have h58' : ¬ (q.toNat : Int) = 58 := by
        intro h
        apply h58
        apply UInt8.toNat_inj.1
        show q.toNat = 58
        omega
      have HR : Hid (lineN l name = none) := Lib.hid (by
        unfold lineN
        rw [if_neg]
        rintro ⟨h, _⟩
        rw [Hq.out] at h
        exact h58 (Option.some.inj h))
      go_enter Tryd.func34, Tryd.ntmps34
      go_wp2_with fail
      go_ret2
      exact ⟨by rw [HR.out]; rfl, rfl⟩
end Go.Proofs.YtmaihiklcdidbaaDoor
