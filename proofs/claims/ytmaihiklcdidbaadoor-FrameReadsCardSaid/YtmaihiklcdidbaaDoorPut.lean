/-
  frame's Put, the document's Put, the laws' cut and awake: what they return. No memory that was there turns. Conditions: a body's length; what the variables that are read hold (Facts).
-/
import Derived.Test.YtmaihiklcdidbaaDoorNext
import Derived.Lib.AppendIntMem
namespace Go.Proofs.YtmaihiklcdidbaaDoor
open Go.RowKit

theorem txt_data (b : ByteArray) : txt b.data.toList = b := rfl
theorem txt_list (l : List UInt8) : (txt l).data.toList = l := rfl
theorem ba_ext {a b : ByteArray} (h : a.data.toList = b.data.toList) : a = b := by
  apply ByteArray.ext
  apply Array.ext'
  exact h
theorem data_app (a b : ByteArray) : (a ++ b).data.toList = a.data.toList ++ b.data.toList := by
  rw [ByteArray.data_append, Array.toList_append]
theorem cut_any (s : ByteArray) (hs : s.size ≤ 9223372036854775807) (w : World) : Calls Tryd.prog 9 #[.string s] w fun e w' => e = .returned (.string (txt (s.data.toList.take 3000))) ∧ w = w' := by
  have he : s.extract 0 (min (s.size : Int) 3000).toNat = txt (s.data.toList.take 3000) := by
    apply ba_ext
    rw [ext_list, txt_list, List.drop_zero, Nat.sub_zero]
    rcases Nat.le_total s.size 3000 with h | h
    · rw [List.take_of_length_le (by rw [← Lib.size_eq]; omega), List.take_of_length_le (by rw [← Lib.size_eq]; exact h)]
    · rw [show (min (s.size : Int) 3000).toNat = 3000 by omega]
  have hm : ¬ ((s.size : Int) < min (s.size : Int) 3000) := by omega
  go_enter Tryd.func9, Tryd.ntmps9
  go_wp2_with fail
  go_ret
  exact ⟨rfl, rfl⟩
set_option maxRecDepth 100000 in
theorem put_any (b : ByteArray) (hb : b.size ≤ 1000000000) (w : World) (hF : Facts w) : Calls Tryd.prog 17 #[.string b] w fun e w' => e = .returned (.string (txt (putP b.data.toList))) ∧ Below w.heap.size w w' := by
  have HI := Lib.hid (Tryd.strconv_Itoa (b.size : Int) (by omega) (by omega) w hF.pow)
  rw [Lib.itoa_nonneg] at HI
  have hdl := dec_len b.size (by omega)
  have hp : txt (putP b.data.toList) = txt putN ++ txt (Lib.decDigits b.size) ++ txt hend ++ b := by
    apply ba_ext
    rw [data_app, data_app, data_app, txt_list, txt_list, txt_list, txt_list]
    rfl
  rw [hp]
  generalize hds : Lib.decDigits b.size = ds at *
  have d1 : ¬ 9223372036854775807 < 16 + ds.length := by omega
  have d2 : ¬ 9223372036854775807 < 16 + ds.length + 4 := by omega
  have d3 : ¬ 9223372036854775807 < 16 + ds.length + 4 + b.size := by omega
  clear hds
  go_enter Tryd.func17, Tryd.ntmps17
  go_wp2_with fail
  refine HI.out.mono ?_
  rintro e w1 ⟨rfl, q, os, hw1⟩
  have HB := Lib.hid (Lib.below_grow w.heap.size w (Nat.le_refl _) q os)
  go_wp2_with fail
  go_ret
  exact ⟨rfl, HB.out⟩
theorem conv_one (c : UInt8) (W : World) : (convert 42 9 (.slice (some ⟨W.heap.size, 0, none⟩) 1 1)).run Tryd.prog (W.alloc (.cells #[.int .u8 (c.toNat : Int)] 5)) = .ok (.string (txt [c])) (W.alloc (.cells #[.int .u8 (c.toNat : Int)] 5)) := by
  have hB : Lib.BytesIn (W.alloc (.cells #[.int .u8 (c.toNat : Int)] 5)) (some ⟨W.heap.size, 0, none⟩) 1 (nums [c]) := by
    intro _
    refine ⟨W.heap.size, 0, rfl, fun i hi => ?_⟩
    obtain rfl : i = 0 := by omega
    rw [cell_at (alloc_top W _ _)]
    rfl
  have := hB.convert rfl 1 42 5 9 Tryd.underlying42 Tryd.underlying5 Tryd.underlying9
  rw [str_nums] at this
  exact this
set_option maxRecDepth 100000 in
set_option maxHeartbeats 1000000 in
theorem refPut_any (b : ByteArray) (hb : b.size ≤ 1000000000) (w : World) : Calls Tryd.prog 18 #[.string b] w fun e w' => e = .returned (.string (txt (putP b.data.toList))) ∧ Below w.heap.size w w' := by
  have hdl := dec_len b.size (by omega)
  have hp : txt (putP b.data.toList) = txt putN ++ txt (Lib.decDigits b.size) ++ txt hend ++ b := by
    apply ba_ext
    rw [data_app, data_app, data_app, txt_list, txt_list, txt_list, txt_list]
    rfl
  rw [hp]
  generalize hds : Lib.decDigits b.size = ds at *
  go_enter Tryd.func18, Tryd.ntmps18
  go_wp2_with fail
  go_loopw [3, 4] (fun n d wr => ∃ (k : Nat) (t : List UInt8), n = .int .i64 (k : Int) ∧ d = .string (txt t) ∧ k ≤ b.size ∧ t.length ≤ 18 ∧ Lib.decDigits k ++ t = ds ∧ Hid (Below w.heap.size w wr)) (fun n _ _ => (intOf n).toNat)
  case atStart => exact ⟨b.size, [], rfl, rfl, Nat.le_refl _, by simp, by simp [hds], Lib.hid (Below.refl _ _)⟩
  case round =>
    obtain ⟨k, t, rfl, rfl, hk, ht, hkt, hB⟩ := hrel
    have hc : (((UInt8.ofNat (48 + k % 10)).toNat : Nat) : Int) = 48 + (k : Int) % 10 := by
      rw [dig_val (Nat.mod_lt _ (by omega))]
      omega
    have hcv := conv_one (UInt8.ofNat (48 + k % 10)) wr
    rw [hc] at hcv
    have d1 : ¬ 9223372036854775807 < 1 + t.length := by omega
    have hB2 := Lib.hid (hB.out.trans ((alloc_below wr (.cells #[.int .u8 (48 + (k : Int) % 10)] 5)).mono hB.out.size))
    have happ : txt [UInt8.ofNat (48 + k % 10)] ++ txt t = txt (UInt8.ofNat (48 + k % 10) :: t) := by
      apply ba_ext
      rw [data_app, txt_list, txt_list, txt_list]
      rfl
    have hstep : ¬ k < 10 → Lib.decDigits (k / 10) ++ UInt8.ofNat (48 + k % 10) :: t = ds := fun h => by
      rw [← hkt, Lib.decDigits.eq_def k, dif_neg h]
      simp
    have hlast : k < 10 → UInt8.ofNat (48 + k % 10) :: t = ds := fun h => by rw [← hkt, Lib.decDigits_one h, Nat.mod_eq_of_lt h]; rfl
    generalize UInt8.ofNat (48 + k % 10) = c at *
    by_cases h10 : k < 10
    · have hq : (k : Int) / 10 = 0 := by omega
      have hl2 := hlast h10
      rw [hl2] at happ
      have hz : (txt ds).size = ds.length := by show ds.toArray.size = _; simp
      have d2 : ¬ 9223372036854775807 < 16 + (txt ds).size := by omega
      have d3 : ¬ 9223372036854775807 < 16 + (txt ds).size + 4 := by omega
      have d4 : ¬ 9223372036854775807 < 16 + (txt ds).size + 4 + b.size := by omega
      clear hz hl2 hlast hstep hkt hds hp
      generalize hD : txt ds = D at *
      have HD := Lib.hid hD
      clear hD
      go_wp2_with fail
      go_ret
      exact ⟨by rw [HD.out]; rfl, hB2.out⟩
    · have hz : (txt [c] ++ txt t) = txt (c :: t) := happ
      have hq : ((k : Int) / 10 = 0) = False := by simp; omega
      have hs := hstep h10
      have htl : (c :: t).length ≤ 18 := by
        have h1 := congrArg List.length hs
        rw [List.length_append] at h1
        have := dec_pos (k / 10)
        omega
      clear hstep hlast hds hp hkt
      go_wp2_with fail
      refine ⟨⟨k / 10, c :: t, by rw [Int.natCast_ediv]; rfl, rfl, by omega, htl, hs, hB2⟩, ?_⟩
      simp [intOf]
      omega
/-- The chapter's own frame. -/
def askT : ByteArray := ⟨#[67, 111, 110, 116, 101, 110, 116, 45, 76, 101, 110, 103, 116, 104, 58, 32, 50, 13, 10, 13, 10, 104, 105]⟩
theorem ask_put : askT.data.toList = putP [104, 105] := by
  unfold putP
  rw [show ([104, 105] : List UInt8).length = 2 from rfl, Lib.decDigits_one (by decide)]
  rfl
theorem ask_next : nextE (.live ([] ++ askT.data.toList)) = ⟨[104, 105], true, 0⟩ ∧ nextR (.live ([] ++ askT.data.toList)) = .live [] := by
  have hn : nextP ([] ++ askT.data.toList) = .body 21 2 := by
    have := next_putP [104, 105] [] (by simp)
    rw [List.append_nil] at this
    rw [List.nil_append, ask_put, this, show ([104, 105] : List UInt8).length = 2 from rfl, Lib.decDigits_one (by decide)]
    rfl
  unfold nextE nextR
  simp only [hn]
  exact ⟨rfl, rfl⟩
/-- A reader that was made since a world. -/
def Mine (w W : World) (R : Nat) (r : RS) : Prop := Below w.heap.size w W ∧ w.heap.size ≤ R ∧ ∃ g, (∀ k, g = some k → w.heap.size ≤ k) ∧ RdIn W R g r
theorem Mine.step {w W W' : World} {R : Nat} {r' : RS} (hb : Below w.heap.size w W) (hR : w.heap.size ≤ R) {g : Option Nat} (hg : ∀ k, g = some k → w.heap.size ≤ k) (e : RdEnd W R g r' W') : Mine w W' R r' := by
  obtain ⟨g', h1, h2, h3⟩ := e
  refine ⟨hb.trans (h3.to_below hb.size (fun k hk => by
    rcases hk with hk | hk
    · omega
    · exact hg k hk)), hR, g', fun k hk => ?_, h2⟩
  rcases h1 k hk with h | h
  · exact hg k h
  · exact Nat.le_trans hb.size h
theorem Mine.more {w W W' : World} {R : Nat} {r : RS} (h : Mine w W R r) (hb : Below W.heap.size W W') : Mine w W' R r := by
  obtain ⟨h1, h2, g, h3, h4⟩ := h
  exact ⟨h1.trans (hb.mono h1.size), h2, g, h3, h4.below hb⟩
theorem new_mine (w W : World) (hb : Below w.heap.size w W) : Calls Tryd.prog 8 #[] W fun e w' => e = .returned (.pointer (some ⟨W.heap.size, 0, none⟩)) ∧ Mine w w' W.heap.size (.live []) :=
  (new_any W).mono fun e w' ⟨h1, h2, h3, _⟩ => ⟨h1, hb.trans (h3.mono hb.size), hb.size, none, (fun k hk => by cases hk), h2⟩
theorem push_mine (w W : World) (R : Nat) (l : List UInt8) (s : ByteArray) (hs : l.length + s.size ≤ 100000000) (h : Mine w W R (.live l)) :
    Calls Tryd.prog 10 #[.pointer (some ⟨R, 0, none⟩), .string s] W fun e w' => e = .returned (.int .i64 0) ∧ Mine w w' R (.live (l ++ s.data.toList)) := by
  obtain ⟨h1, h2, g, h3, h4⟩ := h
  exact (push_live R g l s hs W h4).mono fun e w' ⟨a, b⟩ => ⟨a, Mine.step h1 h2 h3 b⟩
theorem push_deadM (w W : World) (R n : Nat) (s : ByteArray) (h : Mine w W R (.dead n)) :
    Calls Tryd.prog 10 #[.pointer (some ⟨R, 0, none⟩), .string s] W fun e w' => e = .returned (.int .i64 4) ∧ Mine w w' R (.dead n) := by
  obtain ⟨h1, h2, g, h3, h4⟩ := h
  exact (push_dead R n g s W h4).mono fun e w' ⟨a, b⟩ => by subst b; exact ⟨a, h1, h2, g, h3, h4⟩
theorem next_mine (w W : World) (R : Nat) (r : RS) (h : Mine w W R r) (hF : Facts w) :
    Calls Tryd.prog 12 #[.pointer (some ⟨R, 0, none⟩)] W fun e w' => e = .returned (nextV (nextE r)) ∧ Mine w w' R (nextR r) := by
  obtain ⟨h1, h2, g, h3, h4⟩ := h
  exact (next_any R g r W h4 (hF.below h1)).mono fun e w' ⟨a, b⟩ => ⟨a, Mine.step h1 h2 h3 b⟩
theorem held_mine (w W : World) (R : Nat) (r : RS) (h : Mine w W R r) :
    Calls Tryd.prog 14 #[.pointer (some ⟨R, 0, none⟩)] W fun e w' => e = .returned (.int .i64 (r.held : Int)) ∧ W = w' := by
  obtain ⟨h1, h2, g, h3, h4⟩ := h
  exact held_any R g r W h4
theorem broken_mine (w W : World) (R : Nat) (r : RS) (h : Mine w W R r) :
    Calls Tryd.prog 15 #[.pointer (some ⟨R, 0, none⟩)] W fun e w' => e = .returned (.bool r.isDead) ∧ W = w' := by
  obtain ⟨h1, h2, g, h3, h4⟩ := h
  exact broken_any R g r W h4
set_option maxRecDepth 100000 in
set_option maxHeartbeats 1000000 in
theorem awake_any (w : World) (hF : Facts w) : Calls Tryd.prog 16 #[] w fun e w' => e = .returned (.bool true) ∧ Below w.heap.size w w' := by
  have hN := Lib.hid (new_mine w w (Below.refl _ _))
  have hask : askT.size = 23 := rfl
  obtain ⟨he, hr⟩ := ask_next
  obtain ⟨T, hT⟩ : ∃ T, T = askT := ⟨_, rfl⟩
  have HT := Lib.hid hT
  rw [← hT] at he hr hask
  have HF := Lib.hid hF
  have HX : Hid (∀ W R, Mine w W R (.live ([] ++ T.data.toList)) → Calls Tryd.prog 12 #[.pointer (some ⟨R, 0, none⟩)] W fun e w' => e = .returned (.tuple #[.string ⟨#[104, 105]⟩, .bool true, .int .i64 0]) ∧ Mine w w' R (.live [])) := Lib.hid (fun W R h => by
    have := next_mine w W R _ h hF
    rw [he, hr] at this
    exact this)
  clear hT hF he hr
  go_enter Tryd.func16, Tryd.ntmps16
  go_wp2_with fail
  refine hN.out.mono ?_
  rintro e w1 ⟨rfl, hm1⟩
  have HP := Lib.hid (push_mine w w1 w.heap.size [] T (by rw [hask]; decide) hm1)
  clear hm1 hN
  go_wp2_with fail
  rw [HT.out] at HP
  refine HP.out.mono ?_
  rintro e w2 ⟨rfl, hm2⟩
  rw [← HT.out] at hm2
  have hm2 := Lib.hid hm2
  clear HP
  go_wp2_with fail
  refine (HX.out _ _ hm2.out).mono ?_
  rintro e w3 ⟨rfl, hm3⟩
  have HM := Lib.hid hm3
  have HH := Lib.hid (held_mine w w3 w.heap.size _ hm3)
  clear hm3 hm2
  go_wp2_with fail
  refine HH.out.mono ?_
  rintro e w4 ⟨rfl, rfl⟩
  go_wp2_with fail
  go_ret
  exact ⟨rfl, HM.out.1⟩
end Go.Proofs.YtmaihiklcdidbaaDoor
