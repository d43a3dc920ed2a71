/-
  emendlaw08's uri, cut, opened, is, works: what they return; no memory that was there turns. Condition: what the variables that are read hold (Fx).
-/
import Derived.Test.YtpphkkelikdhkaaDoorOClosed
namespace Go.Proofs.YtpphkkelikdhkaaDoor
open Go.RowKit Go.Maps

theorem lawUri_any (w : World) : Calls Tryd.prog 14 #[] w fun e w' => e = .returned (.string uriB) ∧ w' = w := by
  go_enter Tryd.func14, Tryd.ntmps14
  go_wp2_with fail
  go_ret
  exact ⟨rfl, rfl⟩
theorem lawCut_any (a b : Int) (t : ByteArray) (w : World) : Calls Tryd.prog 23 #[.int .i64 a, .int .i64 b, .string t] w fun e w' => e = .returned (.agg #[.bool false, .int .i64 0, .int .i64 a, .int .i64 0, .int .i64 b, .string t]) ∧ w' = w.alloc (.cells #[.bool false, .int .i64 0, .int .i64 a, .int .i64 0, .int .i64 b, .string t] 54) := by
  go_enter Tryd.func23, Tryd.ntmps23
  go_wp2_with fail
  exact bodyPost_ret (v := .agg #[.bool false, .int .i64 0, .int .i64 a, .int .i64 0, .int .i64 b, .string t]) (by simp [results, Tryd.results23, go_sem]) rfl ⟨rfl, rfl⟩
set_option maxHeartbeats 1000000 in
theorem opened_any (w : World) (hF : Fx w) : Calls Tryd.prog 21 #[] w fun e w' => ∃ b mb, w.heap.size ≤ mb ∧ e = .returned (.pointer (some ⟨b, 0, none⟩)) ∧ DocsAt w' b mb [d5] ∧ Below w.heap.size w w' ∧ Fx w' := by
  have HF := Lib.hid hF
  clear hF
  go_enter Tryd.func21, Tryd.ntmps21
  go_wp2_with fail
  refine (new_any _).mono ?_
  rintro e w1 ⟨rfl, hd, hb⟩
  have hx := HF.out.keep hb
  have HO := Lib.hid (open_any _ _ _ uriB xyB 5 (by decide) (by decide) w1 hd hx)
  rw [open5, open5L] at HO
  have HB := Lib.hid hb
  clear hd hb hx
  go_wp2_with fail
  refine (lawUri_any _).mono ?_
  rintro e w2 ⟨rfl, rfl⟩
  go_wp2_with fail
  refine HO.out.mono ?_
  rintro e w2 ⟨rfl, hd, hf, hx⟩
  have HD := Lib.hid hd
  have HX := Lib.hid hx
  have HB2 := Lib.hid (HB.out.trans (hf.to_below HB.out.size (fun k hk => by omega)))
  clear hd hf hx
  go_wp2_with fail
  go_ret
  exact ⟨_, _, Nat.le_refl _, rfl, HD.out, HB2.out, HX.out⟩
set_option maxHeartbeats 1000000 in
theorem is_yes (b mb : Nat) (l : List Dc) (t : ByteArray) (v : Int) (hh : hasD l uriB.data.toList = true) (hd : docOr l uriB.data.toList = ⟨uriB, t, v⟩) (w : World) (h : DocsAt w b mb l) :
    Calls Tryd.prog 24 #[.pointer (some ⟨b, 0, none⟩), .string t, .int .i64 v] w fun e w' => e = .returned (.bool true) ∧ Below w.heap.size w w' := by
  have HG := Lib.hid (get_any b mb l uriB (by decide) w h)
  rw [hh, hd] at HG
  unfold docV at HG
  clear h hh hd
  go_enter Tryd.func24, Tryd.ntmps24
  go_wp2_with fail
  refine (lawUri_any _).mono ?_
  rintro e w2 ⟨rfl, rfl⟩
  go_wp2_with fail
  refine HG.out.mono ?_
  rintro e w2 ⟨rfl, hb⟩
  have HB := Lib.hid hb
  clear hb
  go_wp2_with fail
  go_quiet (first | exact Calls.quiet_of_same (lawUri_any _))
  go_wp2_with fail
  go_ret
  exact ⟨rfl, drewN_below (HB.out.alloc HB.out.size _) _⟩
/-- The two changes of the chapter's example, in memory. -/
def twoV : Array Value := #[.bool false, .int .i64 0, .int .i64 1, .int .i64 0, .int .i64 2, .string zB, .bool false, .int .i64 0, .int .i64 0, .int .i64 0, .int .i64 0, .string wB]
theorem two_reads {W : World} {N : Nat} (h : W.heap[N]? = some (.cells twoV 54 (0, 0))) : CR W (some ⟨N, 0, none⟩) [cz, cw] := fun _ => by
  refine ⟨N, 0, rfl, fun j x hx => ?_⟩
  rcases j with _ | _ | j
  · obtain rfl : cz = x := by simpa using hx
    exact ⟨cell_at h, cell_at h, cell_at h, cell_at h, cell_at h, cell_at h⟩
  · obtain rfl : cw = x := by simpa using hx
    exact ⟨cell_at h, cell_at h, cell_at h, cell_at h, cell_at h, cell_at h⟩
  · simp at hx
set_option maxRecDepth 100000 in
set_option maxHeartbeats 2000000 in
theorem works_any (w : World) (hF : Fx w) : Calls Tryd.prog 7 #[] w fun e w' => e = .returned (.bool true) ∧ Below w.heap.size w w' := by
  have HF := Lib.hid hF
  clear hF
  go_enter Tryd.func7, Tryd.ntmps7
  go_wp2_with fail
  refine (opened_any _ HF.out).mono ?_
  rintro e w1 ⟨b, mb, hm, rfl, hd, hb, hx⟩
  have HD := Lib.hid hd
  have HB := Lib.hid hb
  have HX := Lib.hid hx
  have HM := Lib.hid hm
  clear hd hb hx hm HF
  go_wp2_with fail
  refine (is_yes b mb [d5] xyB 5 has5 doc5 _ HD.out).mono ?_
  rintro e w2 ⟨rfl, hb⟩
  have HD2 := Lib.hid (HD.out.below hb)
  have HX2 := Lib.hid (HX.out.keep hb)
  have HB2 := Lib.hid (HB.out.trans (hb.mono HB.out.size))
  clear hb HD HX HB
  go_wp2_with fail
  refine (lawUri_any _).mono ?_
  rintro e w3 ⟨rfl, rfl⟩
  have HO := Lib.hid (open_any b mb [d5] uriB ⟨#[]⟩ 6 (by decide) (by decide) w3 HD2.out HX2.out)
  rw [again5, openL_bad (again5 _) (by decide)] at HO
  go_wp2_with fail
  refine HO.out.mono ?_
  rintro e w4 ⟨rfl, hd, hf, hx⟩
  have HD3 := Lib.hid hd
  have HX3 := Lib.hid hx
  have HB3 := Lib.hid (HB2.out.trans (hf.to_below HB2.out.size (fun k hk => by have := HM.out; omega)))
  clear hd hf hx HO HD2 HX2 HB2
  go_wp2_with fail
  refine (lawUri_any _).mono ?_
  rintro e w5 ⟨rfl, rfl⟩
  go_wp2_with fail
  refine (lawCut_any _ _ _ _).mono ?_
  rintro e w6 ⟨rfl, rfl⟩
  go_wp2_with fail
  refine (lawCut_any _ _ _ _).mono ?_
  rintro e w6 ⟨rfl, rfl⟩
  go_wp2_with fail
  have HT : Hid ((((w5.alloc (.cells #[.bool false, .int .i64 0, .int .i64 1, .int .i64 0, .int .i64 2, .string zB] 54)).alloc (.cells #[.bool false, .int .i64 0, .int .i64 0, .int .i64 0, .int .i64 0, .string wB] 54)).alloc (.cells twoV 54)).heap[w5.heap.size + 1 + 1]? = some (.cells twoV 54 (0, 0))) := Lib.hid (by
    have := alloc_top ((w5.alloc (.cells #[.bool false, .int .i64 0, .int .i64 1, .int .i64 0, .int .i64 2, .string zB] 54)).alloc (.cells #[.bool false, .int .i64 0, .int .i64 0, .int .i64 0, .int .i64 0, .string wB] 54)) twoV 54
    rw [World.size_alloc, World.size_alloc] at this
    exact this)
  have HN : Hid (Below w5.heap.size w5 (((w5.alloc (.cells #[.bool false, .int .i64 0, .int .i64 1, .int .i64 0, .int .i64 2, .string zB] 54)).alloc (.cells #[.bool false, .int .i64 0, .int .i64 0, .int .i64 0, .int .i64 0, .string wB] 54)).alloc (.cells twoV 54))) := Lib.hid ((((Below.refl _ _).alloc (Nat.le_refl _) _).alloc (by simp) _).alloc (by simp; omega) _)
  unfold twoV zB wB at HT HN
  generalize hW : (((w5.alloc (.cells #[.bool false, .int .i64 0, .int .i64 1, .int .i64 0, .int .i64 2, .string ⟨#[122]⟩] 54)).alloc (.cells #[.bool false, .int .i64 0, .int .i64 0, .int .i64 0, .int .i64 0, .string ⟨#[119]⟩] 54)).alloc (.cells #[.bool false, .int .i64 0, .int .i64 1, .int .i64 0, .int .i64 2, .string ⟨#[122]⟩, .bool false, .int .i64 0, .int .i64 0, .int .i64 0, .int .i64 0, .string ⟨#[119]⟩] 54)) = W at *
  clear hW
  have HO := Lib.hid (change_any b mb [d5] uriB 6 (some ⟨w5.heap.size + 1 + 1, 0, none⟩) [cz, cw] 2 (by decide) (by decide) (by decide) W (HD3.out.below HN.out) (HX3.out.keep HN.out) (two_reads HT.out))
  rw [change5, change5L] at HO
  refine HO.out.mono ?_
  rintro e w6 ⟨rfl, hd, hf, hx⟩
  have HD4 := Lib.hid hd
  have HX4 := Lib.hid hx
  have HB4 := Lib.hid ((HB3.out.trans (HN.out.mono HB3.out.size)).trans (hf.to_below (Nat.le_trans HB3.out.size HN.out.size) (fun k hk => by have := HM.out; omega)))
  clear hd hf hx HO HD3 HX3 HB3 HT HN
  go_wp2_with fail
  refine (is_yes b mb [d6] wxzB 6 has6 doc6 _ HD4.out).mono ?_
  rintro e w7 ⟨rfl, hb⟩
  have HB5 := Lib.hid (HB4.out.trans (hb.mono HB4.out.size))
  clear hb
  go_wp2_with fail
  go_ret
  exact ⟨rfl, HB5.out⟩
end Go.Proofs.YtpphkkelikdhkaaDoor
