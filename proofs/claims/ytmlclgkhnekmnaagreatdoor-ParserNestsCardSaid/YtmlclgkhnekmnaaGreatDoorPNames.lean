/- The parser's nameStands: whether a name is next, and a mark behind it. -/
import Derived.Test.YtmlclgkhnekmnaaGreatDoorPLeaf3
namespace Go.Proofs.YtmlclgkhnekmnaaGreatDoor
open Go.RowKit
theorem PSt.drew {p : PC} {W : World} {s : Ps} (h : PSt p W s) : PSt p W.drew s := h.keep rfl rfl
theorem drew_below {w w' : World} (h : Below w.drew.heap.size w.drew w') : Below w.heap.size w w' := ⟨h.os, h.tape, h.output, h.size, h.block⟩
set_option maxRecDepth 100000 in
set_option maxHeartbeats 2000000 in
theorem pnames_yes (p : PC) (m : List UInt8) (s : Ps) (w : World) (h : PSt p w s) (hk : kdB p.ts s 1 = true) : Calls Tryz.prog 167 #[.pointer (some ⟨p.R, 0, none⟩), .string (txt m)] w fun e w' => e = .returned (.bool (nxB p.ts s m)) ∧ Below w.heap.size w w' := by
 have hm := h.more_kd (k := 1) (by decide) hk
 have hat : p.ts[s.i + 1]? = some ((p.ts[s.i + 1]?).getD zT) := by rw [List.getElem?_eq_getElem hm]; rfl
 obtain ⟨r0, r1, -, -⟩ := h.cells
 obtain ⟨-, t1, -, -⟩ := h.row _ _ hat
 have hE : nxB p.ts s m = ((txt ((p.ts[s.i + 1]?).getD zT).2.1).toList == (txt m).toList) := by unfold nxB; rw [hk, Bool.true_and, txt_list, txt_list]
 have HE := Lib.hid hE
 have HC := Lib.hid (fun W (hW : PSt p W s) => (pkind_any p 1 s W hW).mono (fun e w' (h : e = .returned (.bool (kdB p.ts s 1)) ∧ Below W.heap.size W w') => (show e = .returned (.bool true) ∧ Below W.heap.size W w' by rw [← hk]; exact h)))
 have HS := Lib.hid h
 have hltz : (s.i : Int) + 1 < (p.ts.length : Int) := by omega
 have hge : (0 : Int) ≤ (s.i : Int) + 1 := by omega
 have hln := h.ok.len
 have hw : wrap64 ((s.i : Int) + 1) = (s.i : Int) + 1 := by unfold wrap64; omega
 have hw2 : IntKind.i64.wrap ((s.i : Int) + 1) = (s.i : Int) + 1 := by rw [Go.IntWalk.i64_left]; exact hw
 have hn : ((s.i : Int) + 1).toNat = s.i + 1 := by omega
 generalize txt ((p.ts[s.i + 1]?).getD zT).2.1 = x at *
 have HS0 : Hid (w.cell? ⟨p.R, 0, none⟩ = some (.slice (some ⟨p.G, 0, none⟩) p.ts.length p.c) ∧ w.cell? ⟨p.R, 1, none⟩ = some (.int .i64 (s.i : Int)) ∧ w.cell? ⟨p.G, (s.i + 1) * 4 + 1, none⟩ = some (.string x)) := Lib.hid ⟨r0, r1, t1⟩
 have HK : Hid (∀ w', Below w.heap.size w w' → w'.cell? ⟨p.R, 0, none⟩ = some (.slice (some ⟨p.G, 0, none⟩) p.ts.length p.c) ∧ w'.cell? ⟨p.R, 1, none⟩ = some (.int .i64 (s.i : Int)) ∧ w'.cell? ⟨p.G, (s.i + 1) * 4 + 1, none⟩ = some (.string x)) := Lib.hid (fun w' hb => ⟨cell_keep2 hb r0, cell_keep2 hb r1, cell_keep2 hb t1⟩)
 clear h hk hat hE r0 r1 t1
 go_enter Tryz.func167, Tryz.ntmps167
 go_wp2_with fail
 go_region_held3 (fun w' => w'.cell? ⟨p.R, 0, none⟩ = some (.slice (some ⟨p.G, 0, none⟩) p.ts.length p.c) ∧ w'.cell? ⟨p.R, 1, none⟩ = some (.int .i64 (s.i : Int)) ∧ w'.cell? ⟨p.G, (s.i + 1) * 4 + 1, none⟩ = some (.string x)) (first | exact HS0.out | exact HK.out _ (drew_below kq)) (first | (go_at_call 92; refine (HC.out _ HS.out.drew).mono ?_; rintro e w' ⟨rfl, kq⟩))
 have HB := Lib.hid (drew_below kq)
 clear kq HS0
 go_wp2_with fail
 go_ret
 exact ⟨by rw [HE.out]; rfl, HB.out⟩
set_option maxRecDepth 100000 in
set_option maxHeartbeats 2000000 in
theorem pnames_no (p : PC) (m : List UInt8) (s : Ps) (w : World) (h : PSt p w s) (hk : kdB p.ts s 1 = false) : Calls Tryz.prog 167 #[.pointer (some ⟨p.R, 0, none⟩), .string (txt m)] w fun e w' => e = .returned (.bool (nxB p.ts s m)) ∧ Below w.heap.size w w' := by
 have hE : nxB p.ts s m = false := by unfold nxB; rw [hk]; rfl
 have HC := Lib.hid (fun W (hW : PSt p W s) => (pkind_any p 1 s W hW).mono (fun e w' (h : e = .returned (.bool (kdB p.ts s 1)) ∧ Below W.heap.size W w') => (show e = .returned (.bool false) ∧ Below W.heap.size W w' by rw [← hk]; exact h)))
 have HS := Lib.hid h
 rw [hE]
 clear h hk hE
 go_enter Tryz.func167, Tryz.ntmps167
 go_wp2_with fail
 refine wp_region_held_drew (S := fun _ => True) (by kernel_rfl) trivial (fun hHeld => ?_)
 refine wpAnyH_take (i := 0) (oi := ⟨some 5, _, _, _, _, _⟩) (v := ?_) rfl (by kernel_rfl) (by kernel_rfl) (by kernel_rfl) (fun _ _ _ h => h) (Or.inl ⟨by rfl, ?_⟩) hHeld ?_
 rotate_left
 · (intro W hSW; (try dsimp only at hSW); go_simp; first | done | with_reducible rfl)
 try simp only [Act.put, List.setIfInBounds_toArray, List.set_cons_zero, List.set_cons_succ]
 refine wpAnyH_ready (rs := [1]) (by kernel_rfl) (by simp) ?_
 refine AllReadyH.cons (o := ⟨some 6, _, _, _, _, _⟩) rfl (fun K hK => ?_) AllReadyH.nil
 go_simp
 refine (HC.out _ HS.out.drew).mono ?_
 rintro e w' ⟨rfl, kq⟩
 refine hK.out _ _ trivial (fun hHeld2 => ?_)
 have hHeld := hHeld2
 clear hK K hHeld2
 try simp only [Act.put, List.setIfInBounds_toArray, List.set_cons_zero, List.set_cons_succ]
 refine wpAnyH_take (i := 2) (oi := ⟨some 7, _, _, _, _, _⟩) (v := ?_) rfl (by kernel_rfl) (by kernel_rfl) (by kernel_rfl) (fun _ _ _ h => h) (Or.inl ⟨by rfl, ?_⟩) hHeld ?_
 rotate_left
 · (intro W hSW; (try dsimp only at hSW); go_simp; first | done | with_reducible rfl)
 try simp only [Act.put, List.setIfInBounds_toArray, List.set_cons_zero, List.set_cons_succ]
 refine wpAnyH_take (i := 3) (oi := ⟨some 8, _, _, _, _, _⟩) (v := undef) rfl (by kernel_rfl) (by kernel_rfl) (by kernel_rfl) (fun _ _ _ h => h) (Or.inr ⟨by rfl, rfl⟩) hHeld ?_
 try simp only [Act.put, List.setIfInBounds_toArray, List.set_cons_zero, List.set_cons_succ]
 refine wpAnyH_take (i := 4) (oi := ⟨some 9, _, _, _, _, _⟩) (v := undef) rfl (by kernel_rfl) (by kernel_rfl) (by kernel_rfl) (fun _ _ _ h => h) (Or.inr ⟨by rfl, rfl⟩) hHeld ?_
 try simp only [Act.put, List.setIfInBounds_toArray, List.set_cons_zero, List.set_cons_succ]
 refine wpAnyH_take (i := 5) (oi := ⟨some 10, _, _, _, _, _⟩) (v := undef) rfl (by kernel_rfl) (by kernel_rfl) (by kernel_rfl) (fun _ _ _ h => h) (Or.inr ⟨by rfl, rfl⟩) hHeld ?_
 try simp only [Act.put, List.setIfInBounds_toArray, List.set_cons_zero, List.set_cons_succ]
 refine wpAnyH_take (i := 6) (oi := ⟨some 11, _, _, _, _, _⟩) (v := undef) rfl (by kernel_rfl) (by kernel_rfl) (by kernel_rfl) (fun _ _ _ h => h) (Or.inr ⟨by rfl, rfl⟩) hHeld ?_
 try simp only [Act.put, List.setIfInBounds_toArray, List.set_cons_zero, List.set_cons_succ]
 refine wpAnyH_take (i := 7) (oi := ⟨some 12, _, _, _, _, _⟩) (v := undef) rfl (by kernel_rfl) (by kernel_rfl) (by kernel_rfl) (fun _ _ _ h => h) (Or.inr ⟨by rfl, rfl⟩) hHeld ?_
 try simp only [Act.put, List.setIfInBounds_toArray, List.set_cons_zero, List.set_cons_succ]
 refine wpAnyH_take (i := 8) (oi := ⟨some 13, _, _, _, _, _⟩) (v := undef) rfl (by kernel_rfl) (by kernel_rfl) (by kernel_rfl) (fun _ _ _ h => h) (Or.inr ⟨by rfl, rfl⟩) hHeld ?_
 try simp only [Act.put, List.setIfInBounds_toArray, List.set_cons_zero, List.set_cons_succ]
 refine wpAnyH_take (i := 9) (oi := ⟨some 14, _, _, _, _, _⟩) (v := undef) rfl (by kernel_rfl) (by kernel_rfl) (by kernel_rfl) (fun _ _ _ h => h) (Or.inr ⟨by rfl, rfl⟩) hHeld ?_
 try simp only [Act.put, List.setIfInBounds_toArray, List.set_cons_zero, List.set_cons_succ]
 refine wpAnyH_take (i := 10) (oi := ⟨some 15, _, _, _, _, _⟩) (v := undef) rfl (by kernel_rfl) (by kernel_rfl) (by kernel_rfl) (fun _ _ _ h => h) (Or.inr ⟨by rfl, rfl⟩) hHeld ?_
 try simp only [Act.put, List.setIfInBounds_toArray, List.set_cons_zero, List.set_cons_succ]
 refine wpAnyH_take (i := 11) (oi := ⟨some 16, _, _, _, _, _⟩) (v := undef) rfl (by kernel_rfl) (by kernel_rfl) (by kernel_rfl) (fun _ _ _ h => h) (Or.inr ⟨by rfl, rfl⟩) hHeld ?_
 try simp only [Act.put, List.setIfInBounds_toArray, List.set_cons_zero, List.set_cons_succ]
 refine wpAnyH_take (i := 12) (oi := ⟨some 17, _, _, _, _, _⟩) (v := undef) rfl (by kernel_rfl) (by kernel_rfl) (by kernel_rfl) (fun _ _ _ h => h) (Or.inr ⟨by rfl, rfl⟩) hHeld ?_
 try simp only [Act.put, List.setIfInBounds_toArray, List.set_cons_zero, List.set_cons_succ]
 refine wpAnyH_take (i := 13) (oi := ⟨some 18, _, _, _, _, _⟩) (v := undef) rfl (by kernel_rfl) (by kernel_rfl) (by kernel_rfl) (fun _ _ _ h => h) (Or.inr ⟨by rfl, rfl⟩) hHeld ?_
 try simp only [Act.put, List.setIfInBounds_toArray, List.set_cons_zero, List.set_cons_succ]
 refine wpAnyH_take (i := 14) (oi := ⟨some 19, _, _, _, _, _⟩) (v := undef) rfl (by kernel_rfl) (by kernel_rfl) (by kernel_rfl) (fun _ _ _ h => h) (Or.inr ⟨by rfl, rfl⟩) hHeld ?_
 try simp only [Act.put, List.setIfInBounds_toArray, List.set_cons_zero, List.set_cons_succ]
 refine wpAnyH_take (i := 15) (oi := ⟨some 20, _, _, _, _, _⟩) (v := undef) rfl (by kernel_rfl) (by kernel_rfl) (by kernel_rfl) (fun _ _ _ h => h) (Or.inr ⟨by rfl, rfl⟩) hHeld ?_
 try simp only [Act.put, List.setIfInBounds_toArray, List.set_cons_zero, List.set_cons_succ]
 refine wpAnyH_take (i := 16) (oi := ⟨some 21, _, _, _, _, _⟩) (v := undef) rfl (by kernel_rfl) (by kernel_rfl) (by kernel_rfl) (fun _ _ _ h => h) (Or.inr ⟨by rfl, rfl⟩) hHeld ?_
 try simp only [Act.put, List.setIfInBounds_toArray, List.set_cons_zero, List.set_cons_succ]
 refine wpAnyH_take (i := 17) (oi := ⟨some 22, _, _, _, _, _⟩) (v := ?_) rfl (by kernel_rfl) (by kernel_rfl) (by kernel_rfl) (fun _ _ _ h => h) (Or.inl ⟨by rfl, ?_⟩) hHeld ?_
 rotate_left
 · (intro W hSW; (try dsimp only at hSW); go_simp; first | done | with_reducible rfl)
 try simp only [Act.put, List.setIfInBounds_toArray, List.set_cons_zero, List.set_cons_succ]
 refine wpAnyH_take (i := 18) (oi := ⟨some 4, _, _, _, _, _⟩) (v := ?_) rfl (by kernel_rfl) (by kernel_rfl) (by kernel_rfl) (fun _ _ _ h => h) (Or.inl ⟨by rfl, ?_⟩) hHeld ?_
 rotate_left
 · (intro W hSW; (try dsimp only at hSW); go_simp; first | done | with_reducible rfl)
 try simp only [Act.put, List.setIfInBounds_toArray, List.set_cons_zero, List.set_cons_succ]
 refine wpAnyH_done (by kernel_rfl) ?_ _
 clear hHeld
 have HB := Lib.hid (drew_below kq)
 clear kq
 go_wp2_with fail
 go_ret
 exact ⟨rfl, HB.out⟩
theorem pnames_any (p : PC) (m : List UInt8) (s : Ps) (w : World) (h : PSt p w s) : Calls Tryz.prog 167 #[.pointer (some ⟨p.R, 0, none⟩), .string (txt m)] w fun e w' => e = .returned (.bool (nxB p.ts s m)) ∧ Below w.heap.size w w' := by
 cases hk : kdB p.ts s 1 with
 | true => exact pnames_yes p m s w h hk
 | false => exact pnames_no p m s w h hk
end Go.Proofs.YtmlclgkhnekmnaaGreatDoor
