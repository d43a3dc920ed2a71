/-
  strconv.ParseUint AT FOUR BYTES, base 16, 16 bits, and jtext's unitAt AT EVERY TEXT of at most 1000000 bytes: what they return; no memory that was there turns. Condition: strconv.ErrSyntax holds an interface value (Facts).
-/
import Derived.Test.YtmkjoonbjmieoaaDoorQWord
import Derived.Lib.AtoiErrMem
import Derived.BigCall
import Derived.BigGuard
import Derived.Laws.Closers25b
import Derived.Laws.Strings3
import Derived.Deep.QuietTactic
import Derived.BigQuiet
namespace Go.Proofs.YtmkjoonbjmieoaaDoor
open Go.RowKit

/-- What a world says of the package-level variables that the walks read. -/
structure Facts (W : World) : Prop where
  tabs : Lib.Utf8Tabs 0 1 W
  syn : ∃ ev, W.cell? ⟨3, 0, none⟩ = some ev ∧ (ev = .nilIface ∨ ∃ te pe, ev = .iface te pe)
theorem cell_keep {W W' : World} {a : Nat} {v : Value} (hb : Below W.heap.size W W') (h : W.cell? ⟨a, 0, none⟩ = some v) : W'.cell? ⟨a, 0, none⟩ = some v := by
  have hlt : a < W.heap.size := by
    rcases Nat.lt_or_ge a W.heap.size with h' | h'
    · exact h'
    · simp [World.cell?, Array.getElem?_eq_none h'] at h
  rw [hb.cell (p := ⟨a, 0, none⟩) hlt]; exact h
theorem Facts.below {W W' : World} (h : Facts W) (hb : Below W.heap.size W W') : Facts W' :=
  ⟨Go.Proofs.Utf8Tabs_below h.tabs hb, by obtain ⟨ev, h1, h2⟩ := h.syn; exact ⟨ev, cell_keep hb h1, h2⟩⟩

def lowI (c : Nat) : Int := bits .or .u8 (c : Int) 32
theorem low_hex : ∀ c : Fin 256, (hexD (UInt8.ofNat c.val)).all (fun (d : Nat) => decide (48 ≤ c.val ∧ c.val ≤ 57) || (decide (97 ≤ lowI c.val) && decide (lowI c.val ≤ 122) && decide (lowI c.val - 97 + 10 = (d : Int)))) = true := by decide +kernel
theorem low_non : ∀ c : Fin 256, (hexD (UInt8.ofNat c.val)).isSome || (!(decide (48 ≤ c.val) && decide (c.val ≤ 57)) && (decide (lowI c.val < 97) || decide (122 < lowI c.val) || decide (16 ≤ lowI c.val - 97 + 10))) = true := by decide +kernel
theorem low_yes (c : UInt8) (d : Nat) (h : hexD c = some d) (hn : ¬ (48 ≤ c.toNat ∧ c.toNat ≤ 57)) : 97 ≤ lowI c.toNat ∧ lowI c.toNat ≤ 122 ∧ lowI c.toNat - 97 + 10 = (d : Int) := by
  have := low_hex ⟨c.toNat, c.toNat_lt⟩
  simp only [UInt8.ofNat_toNat, h, Option.all_some, decide_eq_false hn, Bool.false_or, Bool.and_eq_true, decide_eq_true_eq] at this
  exact ⟨this.1.1, this.1.2, this.2⟩
theorem low_no (c : UInt8) (h : hexD c = none) : ¬ (48 ≤ c.toNat ∧ c.toNat ≤ 57) ∧ (lowI c.toNat < 97 ∨ 122 < lowI c.toNat ∨ 16 ≤ lowI c.toNat - 97 + 10) := by
  have := low_non ⟨c.toNat, c.toNat_lt⟩
  simp only [UInt8.ofNat_toNat, h, Option.isSome_none, Bool.false_or, Bool.and_eq_true, Bool.not_eq_true', Bool.and_eq_false_iff, decide_eq_false_iff_not, Bool.or_eq_true, decide_eq_true_eq] at this
  omega
theorem lower_any (c : Nat) (w : World) : Calls Tryd.prog 78 #[.int .u8 (c : Int)] w fun e w' => e = .returned (.int .u8 (lowI c)) ∧ w = w' :=
  (Tryd.internal_strconv_lower (c : Int) w).mono fun _ _ ⟨h, k⟩ => ⟨h, k.symm⟩
theorem pow16 (k : Nat) (h : k < 4) : 16 ^ k ≤ 4096 := by
  have : k = 0 ∨ k = 1 ∨ k = 2 ∨ k = 3 := by omega
  rcases this with rfl | rfl | rfl | rfl <;> decide
theorem hexN_cons_some {c : UInt8} {d : Nat} (h : hexD c = some d) (n : Nat) (l : List UInt8) : hexN n (c :: l) = hexN (16 * n + d) l := by rw [hexN, h]
theorem hexN_cons_none {c : UInt8} (h : hexD c = none) (n : Nat) (l : List UInt8) : hexN n (c :: l) = none := by rw [hexN, h]
/-- What the inner ParseUint hands back. -/
def innerV : Option Nat → Value
  | some n => .tuple #[.int .u64 (n : Int), .nilIface]
  | none => .tuple #[.int .u64 0, .iface 116 (.int .i64 2)]
set_option maxHeartbeats 32000000 in
set_option maxRecDepth 100000 in
theorem inner_any (t : ByteArray) (h4 : t.size = 4) (w : World) :
    Calls Tryd.prog 76 #[.string t, .int .i64 16, .int .i64 16] w fun e w' => e = .returned (innerV (hexN 0 t.data.toList)) ∧ Below w.heap.size w w' := by
  have hemp : t.toList.isEmpty = false := by
    rw [Lib.toList_data]
    cases hl : t.data.toList with
    | nil => exfalso; rw [Lib.size_eq, hl] at h4; simp at h4
    | cons a l => rfl
  have hcv := Lib.run_convert_string_bytes (P := Tryd.prog) w 9 35 5 t (u := .string) Tryd.underlying9 Tryd.underlying35 Tryd.underlying5
  have HB : Hid (Below w.heap.size w (Lib.bytesWorld w 5 t)) := Lib.hid (Lib.bytesWorld_below w 5 t)
  have HC : Hid (∀ j, j < t.size → (Lib.bytesWorld w 5 t).cell? ⟨w.heap.size, j, none⟩ = some (.int .u8 (t.data.toList.getD j 0).toNat)) := Lib.hid (fun j hj => Lib.bytesWorld_cell w 5 t j hj)
  generalize Lib.bytesWorld w 5 t = W1 at *
  obtain ⟨bs, hL⟩ : ∃ bs, bs = t.data.toList := ⟨_, rfl⟩
  have HLn : Hid (bs.length = 4) := Lib.hid (by rw [hL, ← Lib.size_eq, h4])
  rw [← hL] at HC ⊢
  clear hL
  rw [h4] at hcv HC
  have hmv : IntKind.u64.wrap (IntKind.u64.wrap 65536 - 1) = 65535 := by
    rw [IntKind.wrap_u64, IntKind.wrap_u64]
    decide
  have H4 := Lib.hid h4
  clear h4
  go_enter Tryd.func76, Tryd.ntmps76
  go_wp2
  go_loop [12, 13, 101] (fun vu vn vi => ∃ (k acc : Nat) (a : Int), vu = .bool false ∧ vn = .int .u64 a ∧ vi = .int .i64 k ∧ k ≤ 4 ∧ Hid (a = (acc : Int) ∧ acc < 16 ^ k) ∧ Hid (hexN 0 bs = hexN acc (bs.drop k))) (fun _ _ vi => 4 - (intOf vi).toNat)
  case atStart => exact ⟨0, 0, 0, rfl, rfl, rfl, by omega, Lib.hid ⟨rfl, by decide⟩, Lib.hid rfl⟩
  case round =>
    obtain ⟨k, acc, a, rfl, rfl, rfl, hk, hacc, hrel⟩ := hrel
    by_cases hkn : k < 4
    · have hc := HC.out k hkn
      obtain ⟨hp1, hp⟩ := hacc.out
      have hp2 := pow16 k hkn
      have ha0 : 0 ≤ a := by omega
      have ha1 : a ≤ 4095 := by omega
      have hlt : k < bs.length := by rw [HLn.out]; exact hkn
      have hr := hrel.out
      rw [List.drop_eq_getElem_cons hlt] at hr
      have hget : bs.getD k 0 = bs[k] := by simp [List.getD, List.getElem?_eq_getElem hlt]
      rw [hget] at hc
      generalize bs[k] = c at hc hr
      have hc256 : c.toNat < 256 := c.toNat_lt
      clear hrel hget hlt
      cases hx : hexD c with
      | none =>
        obtain ⟨hnd, hlow⟩ := low_no c hx
        rw [hexN_cons_none hx] at hr
        have HR := Lib.hid hr
        have hl0 : 0 ≤ lowI c.toNat := bits_lo_u8 .or (c.toNat : Int) 32
        have hl1 : lowI c.toNat ≤ 255 := bits_hi_u8 .or (c.toNat : Int) 32
        clear hr hp hp1 hp2 hacc HC
        by_cases h95 : c.toNat = 95
        · obtain rfl : c = 95 := UInt8.toNat_inj.1 h95
          have HL : Hid (∀ w, Calls Tryd.prog 78 #[.int .u8 95] w fun e w' => e = .returned (.int .u8 127) ∧ w = w') := Lib.hid (fun w => lower_any 95 w)
          have hc2 : W1.cell? ⟨w.heap.size, k, none⟩ = some (.int .u8 95) := hc
          clear hc hx hnd hlow hl0 hl1 h95 hc256
          go_wp2_with (go_at_call 78; refine (HL.out _).mono ?_; rintro e w' ⟨rfl, rfl⟩)
          go_ret2
          exact ⟨by rw [HR.out]; rfl, HB.out⟩
        · have b95 : (((c.toNat : Nat) : Int) == 95) = false := by simp only [beq_eq_false_iff_ne, ne_eq]; omega
          have HL := Lib.hid (fun w => lower_any c.toNat w)
          clear hx h95
          generalize lowI c.toNat = x at *
          generalize hcn : c.toNat = cn at *
          clear hcn
          rcases hlow with hlow | hlow | hlow
          all_goals
            go_wp2_with (go_at_call 78; refine (HL.out _).mono ?_; rintro e w' ⟨rfl, rfl⟩)
            all_goals go_ret2
            all_goals exact ⟨by rw [HR.out]; rfl, HB.out⟩
      | some d =>
        rw [hexN_cons_some hx] at hr
        have HR := Lib.hid hr
        have hd := (hexD_lt hx).1
        have b95 : (((c.toNat : Nat) : Int) == 95) = false := by
          simp only [beq_eq_false_iff_ne, ne_eq]; intro h
          have : c = 95 := UInt8.toNat_inj.1 (by show c.toNat = 95; omega)
          subst this
          have h2 : hexD 95 = none := by decide
          rw [h2] at hx; cases hx
        have HA : Hid (a * 16 + d = ((16 * acc + d : Nat) : Int) ∧ 16 * acc + d < 16 ^ (k + 1)) := Lib.hid ⟨by omega, by rw [Nat.pow_succ]; omega⟩
        clear hr hp hp1 hp2 hacc HC
        by_cases hdig : 48 ≤ c.toNat ∧ c.toNat ≤ 57
        · obtain ⟨hd0, hd1⟩ := hdig
          have HD : Hid ((d : Int) = (c.toNat : Int) - 48) := Lib.hid (by unfold hexD at hx; rw [if_pos ⟨hd0, hd1⟩] at hx; have := Option.some.inj hx; omega)
          clear hx hd
          generalize hcn : c.toNat = cn at *
          clear hcn
          go_wp2
          go_round
          case rel => exact ⟨k + 1, 16 * acc + d, a * 16 + d, rfl, by rw [HD.out], by go_num, by omega, HA, HR⟩
          case measure => simp [intOf]; omega
        · obtain ⟨l0, l1, l2⟩ := low_yes c d hx hdig
          have HL := Lib.hid (fun w => lower_any c.toNat w)
          have HD : Hid ((d : Int) = lowI c.toNat - 97 + 10) := Lib.hid (by omega)
          have l3 : lowI c.toNat - 97 + 10 ≤ 15 := by omega
          clear hx l2
          generalize lowI c.toNat = x at *
          generalize hcn : c.toNat = cn at *
          clear hcn hd
          by_cases hlo : 48 ≤ cn
          · have hhi : 57 < cn := by omega
            go_wp2_with (go_at_call 78; refine (HL.out _).mono ?_; rintro e w' ⟨rfl, rfl⟩)
            go_round
            case rel => exact ⟨k + 1, 16 * acc + d, a * 16 + d, rfl, by rw [HD.out], by go_num, by omega, HA, HR⟩
            case measure => simp [intOf]; omega
          · go_wp2_with (go_at_call 78; refine (HL.out _).mono ?_; rintro e w' ⟨rfl, rfl⟩)
            go_round
            case rel => exact ⟨k + 1, 16 * acc + d, a * 16 + d, rfl, by rw [HD.out], by go_num, by omega, HA, HR⟩
            case measure => simp [intOf]; omega
    · have hk4 : k = 4 := by omega
      subst hk4
      have HR : Hid (hexN 0 bs = some acc) := Lib.hid (by rw [hrel.out, List.drop_eq_nil_of_le (by rw [HLn.out]; omega)]; rfl)
      have HP : Hid (a = (acc : Int)) := Lib.hid hacc.out.1
      clear hrel hacc hkn hk HC
      go_wp2
      go_ret2
      exact ⟨by rw [HR.out, HP.out]; rfl, HB.out⟩
end Go.Proofs.YtmkjoonbjmieoaaDoor
