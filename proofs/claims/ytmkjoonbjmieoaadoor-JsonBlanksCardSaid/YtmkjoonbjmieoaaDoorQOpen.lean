/-
  json's isOpenBeyond AT EVERY ROW OF TOKENS of at most 1000000: whether more marks than a bound are open somewhere; nothing that was there turns. Condition: the row's length.
-/
import Derived.Test.YtmkjoonbjmieoaaDoorQValue
namespace Go.Proofs.YtmkjoonbjmieoaaDoor
open Go.RowKit

def opn (t : Tok) (n : Nat) : Nat := if isMk 91 [t] || isMk 123 [t] then n + 1 else if isMk 93 [t] || isMk 125 [t] then n - 1 else n
/-- Are more marks than a bound open somewhere? -/
def beyond (m : Nat) : Nat → List Tok → Bool
  | _, [] => false
  | n, t :: ts => if m < opn t n then true else beyond m (opn t n) ts
theorem isMB_mk (c : UInt8) (t : Tok) : isMB ⟨#[c]⟩ t = isMk c [t] := isMB_one c ⟨#[c]⟩ rfl t []
theorem tok_cells {W : World} {N : Nat} {a b c d : Value} {T : TypeId} (h : W.heap[N]? = some (.cells #[a, b, c, d] T (0, 0))) : W.cell? ⟨N, 0, none⟩ = some a ∧ W.cell? ⟨N, 1, none⟩ = some b ∧ W.cell? ⟨N, 2, none⟩ = some c ∧ W.cell? ⟨N, 3, none⟩ = some d := by
  refine ⟨?_, ?_, ?_, ?_⟩ <;> (rw [cell_at h]; rfl)
set_option maxRecDepth 100000 in
set_option maxHeartbeats 4000000 in
theorem open_any (A : Option Addr) (cap m : Nat) (ts : List Tok) (hts : ts.length ≤ 1000000) (hm : m ≤ 1000000) (w : World) (hr : TReads w A ts) :
    Calls Tryd.prog 14 #[.slice A ts.length cap, .int .i64 m] w fun e w' => e = .returned (.bool (beyond m 0 ts)) ∧ Below w.heap.size w w' := by
  obtain ⟨RES, hRES⟩ : ∃ r, r = beyond m 0 ts := ⟨_, rfl⟩
  rw [← hRES]
  have HP : Hid (beyond m 0 (ts.drop 0) = RES) := Lib.hid hRES.symm
  obtain ⟨n, hn⟩ : ∃ n, n = ts.length := ⟨_, rfl⟩
  rw [← hn] at hts ⊢
  have HN := Lib.hid hn
  have HR := Lib.hid hr
  clear hRES hn hr
  go_enter Tryd.func14, Tryd.ntmps14
  go_wp2_with fail
  go_loopw [5, 10] (fun vo vi wr => ∃ (i o : Nat), i ≤ n ∧ o ≤ i ∧ vo = .int .i64 o ∧ vi = .int .i64 i ∧ Hid (beyond m o (ts.drop i) = RES) ∧ Hid (Below w.heap.size w wr)) (fun _ vi _ => n - (intOf vi).toNat)
  case atStart => exact ⟨0, 0, Nat.zero_le _, Nat.le_refl _, rfl, rfl, HP, Lib.hid (Below.refl _ _)⟩
  case round =>
    clear HP
    obtain ⟨i, o, hi, ho, rfl, rfl, hp, hb⟩ := hrel
    by_cases hlt : i < n
    · have hip : i < ts.length := by rw [← HN.out]; exact hlt
      obtain ⟨g, rfl, hc⟩ := (treads_keep HR.out hb.out) (by omega)
      obtain ⟨a0, a1, a2, a3⟩ := hc i _ (List.getElem?_eq_getElem hip)
      have hpe := hp.out
      rw [List.drop_eq_getElem_cons hip] at hpe
      generalize ts[i] = t at a0 a1 a2 a3 hpe
      rw [beyond] at hpe
      have H1 := Lib.hid (fun w => isMark_any t ⟨#[91]⟩ w)
      have H2 := Lib.hid (fun w => isMark_any t ⟨#[123]⟩ w)
      have H3 := Lib.hid (fun w => isMark_any t ⟨#[93]⟩ w)
      have H4 := Lib.hid (fun w => isMark_any t ⟨#[125]⟩ w)
      rw [isMB_mk] at H1 H2 H3 H4
      unfold opn at hpe
      have HPE := Lib.hid hpe
      obtain ⟨q, x, a, b⟩ := t
      unfold tokA at H1 H2 H3 H4
      simp only at a0 a1 a2 a3
      generalize isMk 91 [(q, x, a, b)] = b1 at *
      generalize isMk 123 [(q, x, a, b)] = b2 at *
      generalize isMk 93 [(q, x, a, b)] = b3 at *
      generalize isMk 125 [(q, x, a, b)] = b4 at *
      clear hpe hp hc hip
      cases b1 with
      | true =>
        have hpe : (if m < o + 1 then true else beyond m (o + 1) (ts.drop (i + 1))) = RES := HPE.out
        by_cases hgt : m < o + 1
        · rw [if_pos hgt] at hpe
          have HRES := Lib.hid hpe
          clear hpe HPE
          go_wp2_with fail
          have HT0 := Lib.hid (alloc_top wr #[.int .i64 (q : Int), .string (txt x), .int .i64 (a : Int), .int .i64 (b : Int)] 61)
          have HB0 := Lib.hid (hb.out.alloc hb.out.size (.cells #[.int .i64 (q : Int), .string (txt x), .int .i64 (a : Int), .int .i64 (b : Int)] 61))
          generalize wr.alloc (.cells #[.int .i64 (q : Int), .string (txt x), .int .i64 (a : Int), .int .i64 (b : Int)] 61) = w0 at *
          refine (H1.out _).mono ?_
          rintro e w1 ⟨rfl, hb1⟩
          have HT1 := Lib.hid (heap_keep hb1 HT0.out)
          have HB1 := Lib.hid (HB0.out.trans (hb1.mono HB0.out.size))
          obtain ⟨c10, c11, c12, c13⟩ := tok_cells HT1.out
          clear hb1
          go_wp2_with fail
          go_ret
          exact ⟨by rw [← HRES.out]; rfl, HB1.out⟩
        · rw [if_neg hgt] at hpe
          have HRES := Lib.hid hpe
          clear hpe HPE
          go_wp2_with fail
          have HT0 := Lib.hid (alloc_top wr #[.int .i64 (q : Int), .string (txt x), .int .i64 (a : Int), .int .i64 (b : Int)] 61)
          have HB0 := Lib.hid (hb.out.alloc hb.out.size (.cells #[.int .i64 (q : Int), .string (txt x), .int .i64 (a : Int), .int .i64 (b : Int)] 61))
          generalize wr.alloc (.cells #[.int .i64 (q : Int), .string (txt x), .int .i64 (a : Int), .int .i64 (b : Int)] 61) = w0 at *
          refine (H1.out _).mono ?_
          rintro e w1 ⟨rfl, hb1⟩
          have HT1 := Lib.hid (heap_keep hb1 HT0.out)
          have HB1 := Lib.hid (HB0.out.trans (hb1.mono HB0.out.size))
          obtain ⟨c10, c11, c12, c13⟩ := tok_cells HT1.out
          clear hb1
          go_wp2_with fail
          go_roundw
          case rel => exact ⟨i + 1, o + 1, by omega, by omega, by go_num, by go_num, HRES, HB1⟩
          case measure => simp [intOf]; omega
      | false =>
        cases b2 with
        | true =>
          have hpe : (if m < o + 1 then true else beyond m (o + 1) (ts.drop (i + 1))) = RES := HPE.out
          by_cases hgt : m < o + 1
          · rw [if_pos hgt] at hpe
            have HRES := Lib.hid hpe
            clear hpe HPE
            go_wp2_with fail
            have HT0 := Lib.hid (alloc_top wr #[.int .i64 (q : Int), .string (txt x), .int .i64 (a : Int), .int .i64 (b : Int)] 61)
            have HB0 := Lib.hid (hb.out.alloc hb.out.size (.cells #[.int .i64 (q : Int), .string (txt x), .int .i64 (a : Int), .int .i64 (b : Int)] 61))
            generalize wr.alloc (.cells #[.int .i64 (q : Int), .string (txt x), .int .i64 (a : Int), .int .i64 (b : Int)] 61) = w0 at *
            refine (H1.out _).mono ?_
            rintro e w1 ⟨rfl, hb1⟩
            have HT1 := Lib.hid (heap_keep hb1 HT0.out)
            have HB1 := Lib.hid (HB0.out.trans (hb1.mono HB0.out.size))
            obtain ⟨c10, c11, c12, c13⟩ := tok_cells HT1.out
            clear hb1
            go_wp2_with fail
            refine (H2.out _).mono ?_
            rintro e w2 ⟨rfl, hb2⟩
            have HT2 := Lib.hid (heap_keep hb2 HT1.out)
            have HB2 := Lib.hid (HB1.out.trans (hb2.mono HB1.out.size))
            obtain ⟨c20, c21, c22, c23⟩ := tok_cells HT2.out
            clear hb2
            go_wp2_with fail
            go_ret
            exact ⟨by rw [← HRES.out]; rfl, HB2.out⟩
          · rw [if_neg hgt] at hpe
            have HRES := Lib.hid hpe
            clear hpe HPE
            go_wp2_with fail
            have HT0 := Lib.hid (alloc_top wr #[.int .i64 (q : Int), .string (txt x), .int .i64 (a : Int), .int .i64 (b : Int)] 61)
            have HB0 := Lib.hid (hb.out.alloc hb.out.size (.cells #[.int .i64 (q : Int), .string (txt x), .int .i64 (a : Int), .int .i64 (b : Int)] 61))
            generalize wr.alloc (.cells #[.int .i64 (q : Int), .string (txt x), .int .i64 (a : Int), .int .i64 (b : Int)] 61) = w0 at *
            refine (H1.out _).mono ?_
            rintro e w1 ⟨rfl, hb1⟩
            have HT1 := Lib.hid (heap_keep hb1 HT0.out)
            have HB1 := Lib.hid (HB0.out.trans (hb1.mono HB0.out.size))
            obtain ⟨c10, c11, c12, c13⟩ := tok_cells HT1.out
            clear hb1
            go_wp2_with fail
            refine (H2.out _).mono ?_
            rintro e w2 ⟨rfl, hb2⟩
            have HT2 := Lib.hid (heap_keep hb2 HT1.out)
            have HB2 := Lib.hid (HB1.out.trans (hb2.mono HB1.out.size))
            obtain ⟨c20, c21, c22, c23⟩ := tok_cells HT2.out
            clear hb2
            go_wp2_with fail
            go_roundw
            case rel => exact ⟨i + 1, o + 1, by omega, by omega, by go_num, by go_num, HRES, HB2⟩
            case measure => simp [intOf]; omega
        | false =>
          cases b3 with
          | true =>
            have hpe : (if m < o - 1 then true else beyond m (o - 1) (ts.drop (i + 1))) = RES := HPE.out
            have hmx : max ((o : Int) - 1) 0 = ((o - 1 : Nat) : Int) := by omega
            by_cases hgt : m < o - 1
            · rw [if_pos hgt] at hpe
              have HRES := Lib.hid hpe
              clear hpe HPE
              go_wp2_with fail
              have HT0 := Lib.hid (alloc_top wr #[.int .i64 (q : Int), .string (txt x), .int .i64 (a : Int), .int .i64 (b : Int)] 61)
              have HB0 := Lib.hid (hb.out.alloc hb.out.size (.cells #[.int .i64 (q : Int), .string (txt x), .int .i64 (a : Int), .int .i64 (b : Int)] 61))
              generalize wr.alloc (.cells #[.int .i64 (q : Int), .string (txt x), .int .i64 (a : Int), .int .i64 (b : Int)] 61) = w0 at *
              refine (H1.out _).mono ?_
              rintro e w1 ⟨rfl, hb1⟩
              have HT1 := Lib.hid (heap_keep hb1 HT0.out)
              have HB1 := Lib.hid (HB0.out.trans (hb1.mono HB0.out.size))
              obtain ⟨c10, c11, c12, c13⟩ := tok_cells HT1.out
              clear hb1
              go_wp2_with fail
              refine (H2.out _).mono ?_
              rintro e w2 ⟨rfl, hb2⟩
              have HT2 := Lib.hid (heap_keep hb2 HT1.out)
              have HB2 := Lib.hid (HB1.out.trans (hb2.mono HB1.out.size))
              obtain ⟨c20, c21, c22, c23⟩ := tok_cells HT2.out
              clear hb2
              go_wp2_with fail
              refine (H3.out _).mono ?_
              rintro e w3 ⟨rfl, hb3⟩
              have HT3 := Lib.hid (heap_keep hb3 HT2.out)
              have HB3 := Lib.hid (HB2.out.trans (hb3.mono HB2.out.size))
              obtain ⟨c30, c31, c32, c33⟩ := tok_cells HT3.out
              clear hb3
              go_wp2_with fail
              go_ret
              exact ⟨by rw [← HRES.out]; rfl, HB3.out⟩
            · rw [if_neg hgt] at hpe
              have HRES := Lib.hid hpe
              clear hpe HPE
              go_wp2_with fail
              have HT0 := Lib.hid (alloc_top wr #[.int .i64 (q : Int), .string (txt x), .int .i64 (a : Int), .int .i64 (b : Int)] 61)
              have HB0 := Lib.hid (hb.out.alloc hb.out.size (.cells #[.int .i64 (q : Int), .string (txt x), .int .i64 (a : Int), .int .i64 (b : Int)] 61))
              generalize wr.alloc (.cells #[.int .i64 (q : Int), .string (txt x), .int .i64 (a : Int), .int .i64 (b : Int)] 61) = w0 at *
              refine (H1.out _).mono ?_
              rintro e w1 ⟨rfl, hb1⟩
              have HT1 := Lib.hid (heap_keep hb1 HT0.out)
              have HB1 := Lib.hid (HB0.out.trans (hb1.mono HB0.out.size))
              obtain ⟨c10, c11, c12, c13⟩ := tok_cells HT1.out
              clear hb1
              go_wp2_with fail
              refine (H2.out _).mono ?_
              rintro e w2 ⟨rfl, hb2⟩
              have HT2 := Lib.hid (heap_keep hb2 HT1.out)
              have HB2 := Lib.hid (HB1.out.trans (hb2.mono HB1.out.size))
              obtain ⟨c20, c21, c22, c23⟩ := tok_cells HT2.out
              clear hb2
              go_wp2_with fail
              refine (H3.out _).mono ?_
              rintro e w3 ⟨rfl, hb3⟩
              have HT3 := Lib.hid (heap_keep hb3 HT2.out)
              have HB3 := Lib.hid (HB2.out.trans (hb3.mono HB2.out.size))
              obtain ⟨c30, c31, c32, c33⟩ := tok_cells HT3.out
              clear hb3
              go_wp2_with fail
              go_roundw
              case rel => exact ⟨i + 1, o - 1, by omega, by omega, by go_num, by go_num, HRES, HB3⟩
              case measure => simp [intOf]; omega
          | false =>
            cases b4 with
            | true =>
              have hpe : (if m < o - 1 then true else beyond m (o - 1) (ts.drop (i + 1))) = RES := HPE.out
              have hmx : max ((o : Int) - 1) 0 = ((o - 1 : Nat) : Int) := by omega
              by_cases hgt : m < o - 1
              · rw [if_pos hgt] at hpe
                have HRES := Lib.hid hpe
                clear hpe HPE
                go_wp2_with fail
                have HT0 := Lib.hid (alloc_top wr #[.int .i64 (q : Int), .string (txt x), .int .i64 (a : Int), .int .i64 (b : Int)] 61)
                have HB0 := Lib.hid (hb.out.alloc hb.out.size (.cells #[.int .i64 (q : Int), .string (txt x), .int .i64 (a : Int), .int .i64 (b : Int)] 61))
                generalize wr.alloc (.cells #[.int .i64 (q : Int), .string (txt x), .int .i64 (a : Int), .int .i64 (b : Int)] 61) = w0 at *
                refine (H1.out _).mono ?_
                rintro e w1 ⟨rfl, hb1⟩
                have HT1 := Lib.hid (heap_keep hb1 HT0.out)
                have HB1 := Lib.hid (HB0.out.trans (hb1.mono HB0.out.size))
                obtain ⟨c10, c11, c12, c13⟩ := tok_cells HT1.out
                clear hb1
                go_wp2_with fail
                refine (H2.out _).mono ?_
                rintro e w2 ⟨rfl, hb2⟩
                have HT2 := Lib.hid (heap_keep hb2 HT1.out)
                have HB2 := Lib.hid (HB1.out.trans (hb2.mono HB1.out.size))
                obtain ⟨c20, c21, c22, c23⟩ := tok_cells HT2.out
                clear hb2
                go_wp2_with fail
                refine (H3.out _).mono ?_
                rintro e w3 ⟨rfl, hb3⟩
                have HT3 := Lib.hid (heap_keep hb3 HT2.out)
                have HB3 := Lib.hid (HB2.out.trans (hb3.mono HB2.out.size))
                obtain ⟨c30, c31, c32, c33⟩ := tok_cells HT3.out
                clear hb3
                go_wp2_with fail
                refine (H4.out _).mono ?_
                rintro e w4 ⟨rfl, hb4⟩
                have HT4 := Lib.hid (heap_keep hb4 HT3.out)
                have HB4 := Lib.hid (HB3.out.trans (hb4.mono HB3.out.size))
                obtain ⟨c40, c41, c42, c43⟩ := tok_cells HT4.out
                clear hb4
                go_wp2_with fail
                go_ret
                exact ⟨by rw [← HRES.out]; rfl, HB4.out⟩
              · rw [if_neg hgt] at hpe
                have HRES := Lib.hid hpe
                clear hpe HPE
                go_wp2_with fail
                have HT0 := Lib.hid (alloc_top wr #[.int .i64 (q : Int), .string (txt x), .int .i64 (a : Int), .int .i64 (b : Int)] 61)
                have HB0 := Lib.hid (hb.out.alloc hb.out.size (.cells #[.int .i64 (q : Int), .string (txt x), .int .i64 (a : Int), .int .i64 (b : Int)] 61))
                generalize wr.alloc (.cells #[.int .i64 (q : Int), .string (txt x), .int .i64 (a : Int), .int .i64 (b : Int)] 61) = w0 at *
                refine (H1.out _).mono ?_
                rintro e w1 ⟨rfl, hb1⟩
                have HT1 := Lib.hid (heap_keep hb1 HT0.out)
                have HB1 := Lib.hid (HB0.out.trans (hb1.mono HB0.out.size))
                obtain ⟨c10, c11, c12, c13⟩ := tok_cells HT1.out
                clear hb1
                go_wp2_with fail
                refine (H2.out _).mono ?_
                rintro e w2 ⟨rfl, hb2⟩
                have HT2 := Lib.hid (heap_keep hb2 HT1.out)
                have HB2 := Lib.hid (HB1.out.trans (hb2.mono HB1.out.size))
                obtain ⟨c20, c21, c22, c23⟩ := tok_cells HT2.out
                clear hb2
                go_wp2_with fail
                refine (H3.out _).mono ?_
                rintro e w3 ⟨rfl, hb3⟩
                have HT3 := Lib.hid (heap_keep hb3 HT2.out)
                have HB3 := Lib.hid (HB2.out.trans (hb3.mono HB2.out.size))
                obtain ⟨c30, c31, c32, c33⟩ := tok_cells HT3.out
                clear hb3
                go_wp2_with fail
                refine (H4.out _).mono ?_
                rintro e w4 ⟨rfl, hb4⟩
                have HT4 := Lib.hid (heap_keep hb4 HT3.out)
                have HB4 := Lib.hid (HB3.out.trans (hb4.mono HB3.out.size))
                obtain ⟨c40, c41, c42, c43⟩ := tok_cells HT4.out
                clear hb4
                go_wp2_with fail
                go_roundw
                case rel => exact ⟨i + 1, o - 1, by omega, by omega, by go_num, by go_num, HRES, HB4⟩
                case measure => simp [intOf]; omega
            | false =>
              have hpe : (if m < o then true else beyond m (o) (ts.drop (i + 1))) = RES := HPE.out
              by_cases hgt : m < o
              · rw [if_pos hgt] at hpe
                have HRES := Lib.hid hpe
                clear hpe HPE
                go_wp2_with fail
                have HT0 := Lib.hid (alloc_top wr #[.int .i64 (q : Int), .string (txt x), .int .i64 (a : Int), .int .i64 (b : Int)] 61)
                have HB0 := Lib.hid (hb.out.alloc hb.out.size (.cells #[.int .i64 (q : Int), .string (txt x), .int .i64 (a : Int), .int .i64 (b : Int)] 61))
                generalize wr.alloc (.cells #[.int .i64 (q : Int), .string (txt x), .int .i64 (a : Int), .int .i64 (b : Int)] 61) = w0 at *
                refine (H1.out _).mono ?_
                rintro e w1 ⟨rfl, hb1⟩
                have HT1 := Lib.hid (heap_keep hb1 HT0.out)
                have HB1 := Lib.hid (HB0.out.trans (hb1.mono HB0.out.size))
                obtain ⟨c10, c11, c12, c13⟩ := tok_cells HT1.out
                clear hb1
                go_wp2_with fail
                refine (H2.out _).mono ?_
                rintro e w2 ⟨rfl, hb2⟩
                have HT2 := Lib.hid (heap_keep hb2 HT1.out)
                have HB2 := Lib.hid (HB1.out.trans (hb2.mono HB1.out.size))
                obtain ⟨c20, c21, c22, c23⟩ := tok_cells HT2.out
                clear hb2
                go_wp2_with fail
                refine (H3.out _).mono ?_
                rintro e w3 ⟨rfl, hb3⟩
                have HT3 := Lib.hid (heap_keep hb3 HT2.out)
                have HB3 := Lib.hid (HB2.out.trans (hb3.mono HB2.out.size))
                obtain ⟨c30, c31, c32, c33⟩ := tok_cells HT3.out
                clear hb3
                go_wp2_with fail
                refine (H4.out _).mono ?_
                rintro e w4 ⟨rfl, hb4⟩
                have HT4 := Lib.hid (heap_keep hb4 HT3.out)
                have HB4 := Lib.hid (HB3.out.trans (hb4.mono HB3.out.size))
                obtain ⟨c40, c41, c42, c43⟩ := tok_cells HT4.out
                clear hb4
                go_wp2_with fail
                go_ret
                exact ⟨by rw [← HRES.out]; rfl, HB4.out⟩
              · rw [if_neg hgt] at hpe
                have HRES := Lib.hid hpe
                clear hpe HPE
                go_wp2_with fail
                have HT0 := Lib.hid (alloc_top wr #[.int .i64 (q : Int), .string (txt x), .int .i64 (a : Int), .int .i64 (b : Int)] 61)
                have HB0 := Lib.hid (hb.out.alloc hb.out.size (.cells #[.int .i64 (q : Int), .string (txt x), .int .i64 (a : Int), .int .i64 (b : Int)] 61))
                generalize wr.alloc (.cells #[.int .i64 (q : Int), .string (txt x), .int .i64 (a : Int), .int .i64 (b : Int)] 61) = w0 at *
                refine (H1.out _).mono ?_
                rintro e w1 ⟨rfl, hb1⟩
                have HT1 := Lib.hid (heap_keep hb1 HT0.out)
                have HB1 := Lib.hid (HB0.out.trans (hb1.mono HB0.out.size))
                obtain ⟨c10, c11, c12, c13⟩ := tok_cells HT1.out
                clear hb1
                go_wp2_with fail
                refine (H2.out _).mono ?_
                rintro e w2 ⟨rfl, hb2⟩
                have HT2 := Lib.hid (heap_keep hb2 HT1.out)
                have HB2 := Lib.hid (HB1.out.trans (hb2.mono HB1.out.size))
                obtain ⟨c20, c21, c22, c23⟩ := tok_cells HT2.out
                clear hb2
                go_wp2_with fail
                refine (H3.out _).mono ?_
                rintro e w3 ⟨rfl, hb3⟩
                have HT3 := Lib.hid (heap_keep hb3 HT2.out)
                have HB3 := Lib.hid (HB2.out.trans (hb3.mono HB2.out.size))
                obtain ⟨c30, c31, c32, c33⟩ := tok_cells HT3.out
                clear hb3
                go_wp2_with fail
                refine (H4.out _).mono ?_
                rintro e w4 ⟨rfl, hb4⟩
                have HT4 := Lib.hid (heap_keep hb4 HT3.out)
                have HB4 := Lib.hid (HB3.out.trans (hb4.mono HB3.out.size))
                obtain ⟨c40, c41, c42, c43⟩ := tok_cells HT4.out
                clear hb4
                go_wp2_with fail
                go_roundw
                case rel => exact ⟨i + 1, o, by omega, by omega, by go_num, by go_num, HRES, HB4⟩
                case measure => simp [intOf]; omega
    · have HV : Hid (RES = false) := Lib.hid (by rw [← hp.out, List.drop_eq_nil_of_le (by rw [← HN.out]; omega)]; rfl)
      clear hp
      go_wp2_with fail
      go_ret
      exact ⟨by rw [HV.out]; rfl, hb.out⟩
end Go.Proofs.YtmkjoonbjmieoaaDoor
