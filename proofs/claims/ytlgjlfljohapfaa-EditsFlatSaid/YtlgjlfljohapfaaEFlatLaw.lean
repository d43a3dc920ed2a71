/-
  THE WALK OF emendlaw07.EditsFlat: at every text and every list of cuts it returns true; no memory that was there turns. Condition: what can be read at all.
-/
import Derived.Test.YtlgjlfljohapfaaECuts
import Derived.Test.YtlgjlfljohapfaaERefFlat
import Derived.Test.YtlgjlfljohapfaaEAwake
namespace Go.Proofs.Ytlgjlfljohapfaa
open Go.RowKit

def inC (C : List Ct) : Prop := ∀ x ∈ C, ∀ p ∈ x.p, p.s.size ≤ maxLen
theorem pieces_lim (T : ByteArray) (hT : T.size ≤ 1500) (C : List Ct) : LimC T (piecesL C) := by
  refine ⟨by omega, by unfold piecesL; rw [List.length_map, List.length_take]; omega, fun x hx => ?_⟩
  obtain ⟨y, _, rfl⟩ := List.mem_map.1 hx
  refine ⟨by omega, by unfold trC; simp only [List.length_map, List.length_take]; omega, fun p hp => ?_⟩
  unfold trC at hp
  obtain ⟨z, _, rfl⟩ := List.mem_map.1 hp
  have := cutS_le 300 z.s
  unfold trP
  simp only
  omega
theorem flatE_of (text : ByteArray) (C : List Ct) : flatE text C = 0 ∨ flatE text C ≠ 0 := by omega
set_option maxRecDepth 100000 in
set_option maxHeartbeats 4000000 in
theorem editsFlat_walk (text : ByteArray) (A : Option Addr) (C : List Ct) (c : Nat) (w : World) (hT : text.size ≤ maxLen) (hS : CR w A C) (hC : inC C) :
    Calls Try.prog 5 #[.string text, .slice A C.length c] w fun e w' => e = .returned (.bool true) ∧ Below w.heap.size w w' := by
  have HP := Lib.hid (fun W (hb : Below w.heap.size w W) => cuts_any A C c hC W (hS.keep hb))
  have HCU := Lib.hid (cut_any text hT w)
  have ht := cutS_le 1500 text
  generalize cutS 1500 text = T at *
  have hlim := pieces_lim T ht C
  unfold CutsEnd at HP
  have hlen : (piecesL C).length ≤ 20 := by unfold piecesL; rw [List.length_map, List.length_take]; omega
  generalize piecesL C = D at *
  have HF := Lib.hid (fun A c W h => flat_any T A D c hlim W h)
  have HG := Lib.hid (fun A c W h => refFlat_any T A D c hlim W h)
  unfold FlatEnd at HF HG
  have HW := Lib.hid awake_any
  have hfl : (flatL T D).length = D.length := by unfold flatL; rw [List.length_map]
  have HSM := Lib.hid (fun A B c d W h1 h2 => same_yes A B (flatL T D) c d (by omega) W h1 h2)
  have HS0 : Hid (∀ W, Calls Try.prog 18 #[.slice none 0 0, .slice none 0 0] W fun e w' => e = .returned (.bool true) ∧ Below W.heap.size W w') := Lib.hid (fun W => same_yes none none [] 0 0 (by simp) W (fun h => absurd h (by simp)) (fun h => absurd h (by simp)))
  generalize flatL T D = L at *
  generalize flatE T D = E at *
  have HFL := Lib.hid hfl
  clear hfl hlim ht hC hS hT
  by_cases h0 : E = 0
  · subst h0
    go_enter Try.func5, Try.ntmps5
    go_wp2_with fail
    refine HCU.out.mono ?_
    rintro e w' ⟨rfl, rfl⟩
    go_wp2_with fail
    refine (HP.out _ (Below.refl _ _)).mono ?_
    rintro e w1 ⟨A1, c1, rfl, hr1, hb1⟩
    have HR1 := Lib.hid hr1
    have HB1 := Lib.hid hb1
    clear hr1 hb1 HCU
    go_wp2_with fail
    refine (HF.out _ _ _ HR1.out).mono ?_
    rintro e w2 ⟨v2, rfl, hb2, ho2, _⟩
    obtain ⟨A2, c2, rfl, hr2⟩ := (ho2 (by simp)).reads
    have HR2 := Lib.hid hr2
    have HB2 := Lib.hid (HB1.out.trans (hb2.mono HB1.out.size))
    clear ho2 hr2 hb2 HB1 HR1
    go_wp2_with fail
    refine (HP.out _ HB2.out).mono ?_
    rintro e w3 ⟨A3, c3, rfl, hr3, hb3⟩
    have HR3 := Lib.hid hr3
    have HR2' := Lib.hid (HR2.out.keep hb3)
    have HB3 := Lib.hid (HB2.out.trans (hb3.mono HB2.out.size))
    clear hr3 hb3 HB2 HR2
    go_wp2_with fail
    refine (HG.out _ _ _ HR3.out).mono ?_
    rintro e w4 ⟨v4, rfl, hb4, ho4, _⟩
    obtain ⟨A4, c4, rfl, hr4⟩ := (ho4 (by simp)).reads
    have HR4 := Lib.hid hr4
    have HR2 := Lib.hid (HR2'.out.keep hb4)
    have HB4 := Lib.hid (HB3.out.trans (hb4.mono HB3.out.size))
    clear ho4 hr4 hb4 HB3 HR3 HR2'
    go_wp2_with fail
    refine (HSM.out _ _ _ _ _ HR2.out HR4.out).mono ?_
    rintro e w5 ⟨rfl, hb5⟩
    have HB5 := Lib.hid (HB4.out.trans (hb5.mono HB4.out.size))
    clear hb5 HB4 HR4 HR2
    go_wp2_with fail
    refine (HW.out _).mono ?_
    rintro e w6 ⟨rfl, hb6⟩
    have HB6 := Lib.hid (HB5.out.trans (hb6.mono HB5.out.size))
    clear hb6 HB5
    go_wp2_with fail
    go_ret
    exact ⟨rfl, HB6.out⟩
  · have H0 := Lib.hid h0
    have e1 : (E == E) = true := by simp
    clear h0
    go_enter Try.func5, Try.ntmps5
    go_wp2_with fail
    refine HCU.out.mono ?_
    rintro e w' ⟨rfl, rfl⟩
    go_wp2_with fail
    refine (HP.out _ (Below.refl _ _)).mono ?_
    rintro e w1 ⟨A1, c1, rfl, hr1, hb1⟩
    have HR1 := Lib.hid hr1
    have HB1 := Lib.hid hb1
    clear hr1 hb1 HCU
    go_wp2_with fail
    refine (HF.out _ _ _ HR1.out).mono ?_
    rintro e w2 ⟨v2, rfl, hb2, _, hv2⟩
    obtain rfl := hv2 H0.out
    have HB2 := Lib.hid (HB1.out.trans (hb2.mono HB1.out.size))
    clear hv2 hb2 HB1 HR1
    go_wp2_with fail
    refine (HP.out _ HB2.out).mono ?_
    rintro e w3 ⟨A3, c3, rfl, hr3, hb3⟩
    have HR3 := Lib.hid hr3
    have HB3 := Lib.hid (HB2.out.trans (hb3.mono HB2.out.size))
    clear hr3 hb3 HB2
    go_wp2_with fail
    refine (HG.out _ _ _ HR3.out).mono ?_
    rintro e w4 ⟨v4, rfl, hb4, _, hv4⟩
    obtain rfl := hv4 H0.out
    have HB4 := Lib.hid (HB3.out.trans (hb4.mono HB3.out.size))
    clear hv4 hb4 HB3 HR3
    go_wp2_with fail
    refine (HS0.out _).mono ?_
    rintro e w5 ⟨rfl, hb5⟩
    have HB5 := Lib.hid (HB4.out.trans (hb5.mono HB4.out.size))
    clear hb5 HB4
    go_wp2_with fail
    refine (HW.out _).mono ?_
    rintro e w6 ⟨rfl, hb6⟩
    have HB6 := Lib.hid (HB5.out.trans (hb6.mono HB5.out.size))
    clear hb6 HB5
    go_wp2_with fail
    go_ret
    exact ⟨rfl, HB6.out⟩
end Go.Proofs.Ytlgjlfljohapfaa
