/- Part of a proof. -/
import Derived.Test.YtmlclgkhnekmnaaGreatDoorPNst5
import Derived.Test.YtmlclgkhnekmnaaGreatDoorPKnown
import Derived.Test.YtmlclgkhnekmnaaGreatDoorLFactsK
import Derived.Test.YtmlclgkhnekmnaaGreatDoorDFacts
namespace Go.Proofs.YtmlclgkhnekmnaaGreatDoor
open Go.RowKit
theorem drewN_belowS (w : World) (n : Nat) : Below w.heap.size w (w.drewN n) := ⟨rfl, rfl, rfl, Nat.le_refl _, fun _ _ => rfl⟩
theorem extract_list (x : List UInt8) (a b : Nat) : ((txt x).extract a b).data.toList = (x.drop a).take (b - a) := by
 rw [ByteArray.data_extract, Array.toList_extract]
 show List.extract x a b = _
 rw [List.extract_eq_take_drop]
theorem sn_open {x : List UInt8} {n : Nd} (h : Sn x n) (h0 : n.kind ≠ 0) : 0 ≤ n.fro ∧ n.fro < n.till ∧ n.till ≤ x.length ∧ n.fro ≤ n.at' ∧ n.at' < n.till ∧ (n.kind ≠ 2 → n.at' + n.name.size ≤ n.till ∧ (x.drop n.at'.toNat).take n.name.size = n.name.data.toList) ∧ Sl x n.fro n.till n.kids := by
 cases n with
 | mk k f t a s l =>
  have h0' : ¬ k = 0 := h0
  rw [Sn, if_neg h0'] at h
  exact h
theorem sn_none {x : List UInt8} {n : Nd} (h : Sn x n) (h0 : n.kind = 0) : n.fro = 0 ∧ n.till = 0 ∧ n.at' = 0 ∧ n.name = ⟨#[]⟩ ∧ n.kids = [] := by
 cases n with
 | mk k f t a s l =>
  have h0' : k = 0 := h0
  rw [Sn, if_pos h0'] at h
  exact h
set_option maxRecDepth 100000 in
set_option maxHeartbeats 4000000 in
theorem pstandsN_any (x : List UInt8) (hx : x.length ≤ 100000) : ∀ (f : Nat) (n : Nd) (P : Nat → Prop) (A : Option Addr) (c : Nat) (w : World), sz n ≤ f → sz n ≤ 1000000 → Sn x n → n.kids.length ≤ c → SIn w P n.kids A →
 Calls Tryz.prog 18 #[.string (txt x), .agg #[.int .i64 n.kind, .int .i64 n.fro, .int .i64 n.till, .int .i64 n.at', .string n.name, .slice A n.kids.length c]] w (YesEnd w) := by
 intro f
 induction f with
 | zero => intro n _ _ _ _ h; have := sz_pos n; omega
 | succ f ih =>
  intro n P A c w hf ha hn hc hk
  have HK := Lib.hid (fun (W : World) (hb : Below w.heap.size w W) => hk.below hb)
  have HIH := Lib.hid ih
  have HSZ := Lib.hid (And.intro hf ha)
  have hsz := sz_eq n
  have hal : n.kids.length ≤ 1000000 := by have := szL_len n.kids; omega
  have hB0 := Lib.hid (alloc_below w (.cells #[.int .i64 n.kind, .int .i64 n.fro, .int .i64 n.till, .int .i64 n.at', .string n.name, .slice A n.kids.length c] 24))
  have hTop := Lib.hid (alloc_top w #[.int .i64 n.kind, .int .i64 n.fro, .int .i64 n.till, .int .i64 n.at', .string n.name, .slice A n.kids.length c] 24)
  clear ih hk
  by_cases h0 : n.kind = 0
  · obtain ⟨g1, g2, g3, g4, g5⟩ := sn_none hn h0
    have g6 : n.kids.length = 0 := by rw [g5]; rfl
    rw [h0, g1, g2, g3, g4, g6] at hB0 hTop ⊢
    clear hn hf ha hsz
    go_enter Tryz.func18, Tryz.ntmps18
    go_wp2_with fail
    go_ret
    exact ⟨rfl, hB0.out⟩
  · obtain ⟨g1, g2, g3, g4, g5, g6, g7⟩ := sn_open hn h0
    have HS := Lib.hid g7
    have hzb : (n.kind == 0) = false := by simpa using h0
    have e1 : ¬ n.fro < 0 := by omega
    have e2 : ¬ n.till ≤ n.fro := by omega
    have e3 : ¬ ((txt x).size : Int) < n.till := by show ¬ (x.length : Int) < n.till; omega
    have e4 : ¬ n.at' < n.fro := by omega
    have e5 : ¬ n.till ≤ n.at' := by omega
    have e6 : wrap64 (n.at' + (n.name.size : Int)) = n.at' + (n.name.size : Int) := by unfold wrap64; omega
    clear hn hf ha hsz g7
    go_enter Tryz.func18, Tryz.ntmps18
    go_wp2_with fail
    obtain ⟨W0, hW0⟩ : ∃ W, W = w.alloc (.cells #[.int .i64 n.kind, .int .i64 n.fro, .int .i64 n.till, .int .i64 n.at', .string n.name, .slice A n.kids.length c] 24) := ⟨_, rfl⟩
    rw [← hW0] at hB0 hTop
    have HW0 := Lib.hid hW0
    have hs0 : W0.heap.size = w.heap.size + 1 := by rw [hW0]; exact World.size_alloc ..
    have HS0 := Lib.hid hs0
    clear hW0 hs0
    by_cases h2 : n.kind = 2
    · rw [h2]
      go_quiet (fail)
      go_wp2_with fail
      go_loopg [6, 7] n.kids.length (fun gg u6 u7 wr => ∃ (k : Nat) (at0 : Int), k ≤ n.kids.length ∧ n.kids.length - k ≤ gg ∧ u6 = .int .i64 at0 ∧ u7 = .int .i64 (k : Int) ∧ Hid (Sl x at0 n.till (n.kids.drop k)) ∧ Hid (Below W0.heap.size W0 wr))
      case atStart => exact ⟨0, n.fro, Nat.zero_le _, by omega, rfl, rfl, HS, Lib.hid (by rw [HW0.out, h2]; exact drewN_belowS _ _)⟩
      case round =>
       obtain ⟨k, at0, hk, hg, rfl, rfl, HL, HB⟩ := hrel
       obtain ⟨z0, z1, z2, z3, z4, z5⟩ := six_cells (blk_below hTop.out HB.out)
       have HBW := Lib.hid (hB0.out.trans (HB.out.mono (by have := HS0.out; omega)))
       by_cases hlt : k < n.kids.length
       · have hltz : (k : Int) < (n.kids.length : Int) := by omega
         obtain ⟨y, hx⟩ : ∃ t, n.kids[k]? = some t := ⟨_, List.getElem?_eq_getElem hlt⟩
         obtain ⟨g, o, rfl, -, hrow⟩ := HK.out wr HBW.out (by omega)
         obtain ⟨xa, xc, d0, d1, d2, d3, d4, d5, hic, hkk⟩ := hrow.row hx
         have hsx := sz_kid hx
         have hdr : n.kids.drop k = y :: n.kids.drop (k + 1) := by
          rw [List.drop_eq_getElem_cons hlt]
          rw [show n.kids[k] = y from by rw [List.getElem?_eq_getElem hlt] at hx; exact Option.some.inj hx]
         have hl := HL.out
         rw [hdr, Sl] at hl
         obtain ⟨l1, l2, l3⟩ := hl
         have HC : Hid (∀ W, Below wr.heap.size wr W → Calls Tryz.prog 18 #[.string (txt x), .agg #[.int .i64 y.kind, .int .i64 y.fro, .int .i64 y.till, .int .i64 y.at', .string y.name, .slice xa y.kids.length xc]] W (YesEnd W)) := Lib.hid (fun W hW => HIH.out y P xa xc W (by have := HSZ.out; omega) (by have := HSZ.out; omega) l1 hic (hkk.below hW))
         have hgl := ncell_lt d0
         have HB2 := Lib.hid (HB.out.trans ((alloc_below wr (.cells #[.int .i64 y.kind, .int .i64 y.fro, .int .i64 y.till, .int .i64 y.at', .string y.name, .slice xa y.kids.length xc] 24)).mono HB.out.size))
         have HT2 := Lib.hid (alloc_top wr #[.int .i64 y.kind, .int .i64 y.fro, .int .i64 y.till, .int .i64 y.at', .string y.name, .slice xa y.kids.length xc] 24)
         have HSZW : Hid (w.heap.size + 1 ≤ wr.heap.size) := Lib.hid (by rw [← HS0.out]; exact HB.out.size)
         clear hrow hic hkk hsx hx hdr HL l1
         go_wp2_with fail
         clear d0 d1 d2 d3 d4 d5
         refine (HC.out _ (alloc_below wr (.cells #[.int .i64 y.kind, .int .i64 y.fro, .int .i64 y.till, .int .i64 y.at', .string y.name, .slice xa y.kids.length xc] 24))).mono ?_
         rintro ee w2 ⟨rfl, hb2⟩
         have HB3 := Lib.hid (HB2.out.trans (hb2.mono HB2.out.size))
         obtain ⟨p0, p1, p2, p3, p4, p5⟩ := six_cells (blk_below HT2.out hb2)
         obtain ⟨z0, z1, z2, z3, z4, z5⟩ := six_cells (blk_below hTop.out HB3.out)
         have hne : ¬ w.heap.size = wr.heap.size := by have := HSZW.out; omega
         have hne2 : ¬ wr.heap.size = w.heap.size := by have := HSZW.out; omega
         clear hb2
         by_cases hz0 : y.kind = 0
         · have hyb : (y.kind == 0) = true := by rw [hz0]; rfl
           have L3 : Hid (Sl x at0 n.till (n.kids.drop (k + 1))) := Lib.hid (by rw [if_pos hz0] at l3; exact l3)
           clear l2 l3
           go_wp2_with fail
           go_roundg (n.kids.length - (k + 1))
           case measure => omega
           case rel => exact ⟨k + 1, at0, by omega, Nat.le_refl _, rfl, by go_num, L3, HB3⟩
         · have hyb : (y.kind == 0) = false := by simpa using hz0
           obtain ⟨q1, q2⟩ := l2 hz0
           have f1 : ¬ y.fro < at0 := by omega
           have f2 : ¬ n.till < y.till := by omega
           have L3 : Hid (Sl x y.till n.till (n.kids.drop (k + 1))) := Lib.hid (by rw [if_neg hz0] at l3; exact l3)
           clear l3
           go_wp2_with fail
           go_roundg (n.kids.length - (k + 1))
           case measure => omega
           case rel => exact ⟨k + 1, y.till, by omega, Nat.le_refl _, rfl, by go_num, L3, HB3⟩
       · have hltz : ¬ (k : Int) < (n.kids.length : Int) := by omega
         clear hk hg
         go_wp2_with fail
         go_ret
         exact ⟨rfl, HBW.out⟩
    · have hz2 : (n.kind != 2) = true := by simpa using h2
      obtain ⟨g8, g9⟩ := g6 h2
      have e7 : ¬ n.till < n.at' + (n.name.size : Int) := by omega
      have hcmp : (((txt x).extract n.at'.toNat (n.at' + (n.name.size : Int)).toNat).toList == n.name.toList) = true := by
       rw [beq_iff_eq, ByteArray.toList_eq, ByteArray.toList_eq, extract_list]
       rw [show (n.at' + (n.name.size : Int)).toNat - n.at'.toNat = n.name.size by omega]
       exact g9
      go_quiet (fail)
      go_wp2_with fail
      go_loopg [6, 7] n.kids.length (fun gg u6 u7 wr => ∃ (k : Nat) (at0 : Int), k ≤ n.kids.length ∧ n.kids.length - k ≤ gg ∧ u6 = .int .i64 at0 ∧ u7 = .int .i64 (k : Int) ∧ Hid (Sl x at0 n.till (n.kids.drop k)) ∧ Hid (Below W0.heap.size W0 wr))
      case atStart => exact ⟨0, n.fro, Nat.zero_le _, by omega, rfl, rfl, HS, Lib.hid (by rw [HW0.out]; exact drewN_belowS _ _)⟩
      case round =>
       obtain ⟨k, at0, hk, hg, rfl, rfl, HL, HB⟩ := hrel
       obtain ⟨z0, z1, z2, z3, z4, z5⟩ := six_cells (blk_below hTop.out HB.out)
       have HBW := Lib.hid (hB0.out.trans (HB.out.mono (by have := HS0.out; omega)))
       by_cases hlt : k < n.kids.length
       · have hltz : (k : Int) < (n.kids.length : Int) := by omega
         obtain ⟨y, hx⟩ : ∃ t, n.kids[k]? = some t := ⟨_, List.getElem?_eq_getElem hlt⟩
         obtain ⟨g, o, rfl, -, hrow⟩ := HK.out wr HBW.out (by omega)
         obtain ⟨xa, xc, d0, d1, d2, d3, d4, d5, hic, hkk⟩ := hrow.row hx
         have hsx := sz_kid hx
         have hdr : n.kids.drop k = y :: n.kids.drop (k + 1) := by
          rw [List.drop_eq_getElem_cons hlt]
          rw [show n.kids[k] = y from by rw [List.getElem?_eq_getElem hlt] at hx; exact Option.some.inj hx]
         have hl := HL.out
         rw [hdr, Sl] at hl
         obtain ⟨l1, l2, l3⟩ := hl
         have HC : Hid (∀ W, Below wr.heap.size wr W → Calls Tryz.prog 18 #[.string (txt x), .agg #[.int .i64 y.kind, .int .i64 y.fro, .int .i64 y.till, .int .i64 y.at', .string y.name, .slice xa y.kids.length xc]] W (YesEnd W)) := Lib.hid (fun W hW => HIH.out y P xa xc W (by have := HSZ.out; omega) (by have := HSZ.out; omega) l1 hic (hkk.below hW))
         have hgl := ncell_lt d0
         have HB2 := Lib.hid (HB.out.trans ((alloc_below wr (.cells #[.int .i64 y.kind, .int .i64 y.fro, .int .i64 y.till, .int .i64 y.at', .string y.name, .slice xa y.kids.length xc] 24)).mono HB.out.size))
         have HT2 := Lib.hid (alloc_top wr #[.int .i64 y.kind, .int .i64 y.fro, .int .i64 y.till, .int .i64 y.at', .string y.name, .slice xa y.kids.length xc] 24)
         have HSZW : Hid (w.heap.size + 1 ≤ wr.heap.size) := Lib.hid (by rw [← HS0.out]; exact HB.out.size)
         clear hrow hic hkk hsx hx hdr HL l1
         go_wp2_with fail
         clear d0 d1 d2 d3 d4 d5
         refine (HC.out _ (alloc_below wr (.cells #[.int .i64 y.kind, .int .i64 y.fro, .int .i64 y.till, .int .i64 y.at', .string y.name, .slice xa y.kids.length xc] 24))).mono ?_
         rintro ee w2 ⟨rfl, hb2⟩
         have HB3 := Lib.hid (HB2.out.trans (hb2.mono HB2.out.size))
         obtain ⟨p0, p1, p2, p3, p4, p5⟩ := six_cells (blk_below HT2.out hb2)
         obtain ⟨z0, z1, z2, z3, z4, z5⟩ := six_cells (blk_below hTop.out HB3.out)
         have hne : ¬ w.heap.size = wr.heap.size := by have := HSZW.out; omega
         have hne2 : ¬ wr.heap.size = w.heap.size := by have := HSZW.out; omega
         clear hb2
         by_cases hz0 : y.kind = 0
         · have hyb : (y.kind == 0) = true := by rw [hz0]; rfl
           have L3 : Hid (Sl x at0 n.till (n.kids.drop (k + 1))) := Lib.hid (by rw [if_pos hz0] at l3; exact l3)
           clear l2 l3
           go_wp2_with fail
           go_roundg (n.kids.length - (k + 1))
           case measure => omega
           case rel => exact ⟨k + 1, at0, by omega, Nat.le_refl _, rfl, by go_num, L3, HB3⟩
         · have hyb : (y.kind == 0) = false := by simpa using hz0
           obtain ⟨q1, q2⟩ := l2 hz0
           have f1 : ¬ y.fro < at0 := by omega
           have f2 : ¬ n.till < y.till := by omega
           have L3 : Hid (Sl x y.till n.till (n.kids.drop (k + 1))) := Lib.hid (by rw [if_neg hz0] at l3; exact l3)
           clear l3
           go_wp2_with fail
           go_roundg (n.kids.length - (k + 1))
           case measure => omega
           case rel => exact ⟨k + 1, y.till, by omega, Nat.le_refl _, rfl, by go_num, L3, HB3⟩
       · have hltz : ¬ (k : Int) < (n.kids.length : Int) := by omega
         clear hk hg
         go_wp2_with fail
         go_ret
         exact ⟨rfl, HBW.out⟩
end Go.Proofs.YtmlclgkhnekmnaaGreatDoor
namespace Go.Proofs.YtmlclgkhnekmnaaGreatDoor
open Go.RowKit
theorem take_txt (s : ByteArray) (n : Nat) : s.extract 0 n = txt (s.data.toList.take n) := by
 apply ByteArray.ext
 apply Array.toList_inj.1
 rw [ByteArray.data_extract, Array.toList_extract, List.extract_eq_take_drop]
 simp [txt]
theorem takeK_i {ts : List Tok} {k : Nat} {s s' : Ps} {t : Tok} (hk : k ≠ 0) (h : takeKP ts k s = some (.ok t s')) : s'.i ≤ ts.length := by
 unfold takeKP at h
 split at h
 · rename_i hc
   obtain ⟨-, rfl⟩ := some_ok h
   exact lt_of_kd hk hc
 · cases h
theorem importsL_i {ts : List Tok} : ∀ (f : Nat) (l : List Nd) (s : Ps) (l' : List Nd) (s' : Ps), s.i ≤ ts.length → importsL ts f l s = some (.ok l' s') → s'.i ≤ ts.length
 | 0, _, _, _, _, _, h => by cases h
 | f + 1, l, s, l', s', hi, h => by
  unfold importsL at h
  split at h
  · obtain ⟨n, s1, _, h⟩ := bind_done h
    obtain ⟨t, s2, ht, h⟩ := bind_done h
    exact importsL_i f _ s2 l' s' (takeK_i (by decide) ht) h
  · obtain ⟨rfl, rfl⟩ := some_ok h
    exact hi
theorem declsL_i {ts : List Tok} {f0 : Nat} : ∀ (f : Nat) (l : List Nd) (s : Ps) (l' : List Nd) (s' : Ps), s.i ≤ ts.length → declsL ts f0 f l s = some (.ok l' s') → s'.i ≤ ts.length
 | 0, _, _, _, _, _, h => by cases h
 | f + 1, l, s, l', s', hi, h => by
  unfold declsL at h
  split at h
  · obtain ⟨rfl, rfl⟩ := some_ok h
    exact hi
  · obtain ⟨n, s1, _, h⟩ := bind_done h
    obtain ⟨t, s2, ht, h⟩ := bind_done h
    exact declsL_i f _ s2 l' s' (takeK_i (by decide) ht) h
theorem file_in {ts : List Tok} {f : Nat} {s s' : Ps} {n : Nd} (h : fileP ts f s = some (.ok n s')) : s'.i ≤ ts.length := by
 unfold fileP at h
 obtain ⟨v, s1, _, h⟩ := bind_done h
 obtain ⟨t, s2, _, h⟩ := bind_done h
 obtain ⟨u, s3, hu, h⟩ := bind_done h
 obtain ⟨l1, s4, h1, h⟩ := bind_done h
 obtain ⟨l2, s5, h2, h⟩ := bind_done h
 obtain ⟨-, rfl⟩ := some_ok h
 exact declsL_i f l1 s4 l2 s5 (importsL_i f [] s3 l1 s4 (takeK_i (by decide) hu) h1) h2
theorem file_size2 {ff : List UInt8 → Nat} {x : List UInt8} {l : List Tok} {n : Nd} {s : Ps} (h : tokensL ff x = .ok l) (hz : fileP (l ++ [endTok x]) (fuelOf l) ⟨0, 0, 0⟩ = some (.ok n s)) (hi : s.i ≤ (l ++ [endTok x]).length) : sz n ≤ 900000 := by
 have h1 := file_w (l ++ [endTok x]) (fuelOf l) ⟨0, 0, 0⟩ n s hz
 have h2 := wt_all (l ++ [endTok x]) s.i
 have h3 := (tokens_WF ff x l h).2
 have h4 := tokens_small h
 have h5 := agn_length l
 have h6 := again_len ff x l h
 have h7 : sumX ((l ++ [endTok x]).take s.i) + sumX ((l ++ [endTok x]).drop s.i) = sumX (l ++ [endTok x]) := by rw [← sumX_append, List.take_append_drop]
 have h8 : sumX (l ++ [endTok x]) = sumX l + 0 := by rw [sumX_append]; rfl
 have h9 : wt (l ++ [endTok x]) 0 = 0 := rfl
 rw [List.length_append, List.length_singleton] at hi
 change wt (l ++ [endTok x]) 0 + sz n ≤ _ at h1
 omega
theorem parsR_size {ff : List UInt8 → Nat} {x : List UInt8} {n : Nd} (h : parsR ff x = .ok n) : sz n ≤ 900000 := by
 unfold parsR at h
 split at h
 · cases h
 · rename_i l hl
   unfold deepR at h
   split at h
   · cases h
   · cases h
   · rename_i m s hz
     split at h
     · cases h
     · injection h with h
       subst h
       exact file_size2 hl hz (file_in hz)
set_option maxRecDepth 100000 in
set_option maxHeartbeats 1000000 in
theorem pcut_any (s : ByteArray) (w : World) : Calls Tryz.prog 12 #[.string s] w fun e w' => e = .returned (.string (txt (s.data.toList.take 3000))) ∧ w = w' := by
 by_cases h : s.size ≤ 3000
 · have h1 : min (s.size : Int) 3000 = (s.size : Int) := by omega
   have h2 : s.extract 0 s.size = txt (s.data.toList.take 3000) := by
    rw [take_txt, List.take_of_length_le (show s.data.toList.length ≤ s.size from Nat.le_refl _), List.take_of_length_le (show s.data.toList.length ≤ 3000 from h)]
   go_enter Tryz.func12, Tryz.ntmps12
   go_wp2_with fail
   go_ret
   exact ⟨rfl, rfl⟩
 · have h1 : min (s.size : Int) 3000 = 3000 := by omega
   have h2 : s.extract 0 3000 = txt (s.data.toList.take 3000) := take_txt s 3000
   go_enter Tryz.func12, Tryz.ntmps12
   go_wp2_with fail
   go_ret
   exact ⟨rfl, rfl⟩
set_option maxRecDepth 100000 in
set_option maxHeartbeats 4000000 in
theorem pnests_any {FW : World → Prop} {ff : List UInt8 → Nat} (hS : FSpec FW ff (fun _ => True)) (s : ByteArray) (w : World) (hw : PW FW w) : Calls Tryz.prog 5 #[.string s] w (YesEnd w) := by
 obtain ⟨x, hx⟩ : ∃ x, x = s.data.toList.take 3000 := ⟨_, rfl⟩
 have hl : x.length ≤ 3000 := by rw [hx, List.length_take]; omega
 have HC := Lib.hid (pcut_any s)
 rw [← hx] at HC
 have HP := Lib.hid (parse_any hS x (by omega) (fun _ _ _ => trivial) w hw.f hw.w)
 have HA : Hid (∀ W, Below w.heap.size w W → Calls Tryz.prog 14 #[] W (YesEnd W)) := Lib.hid (fun W hb => pawake_any hS W (hw.below hS hb))
 have HSZ : Hid (∀ n, parsR ff x = .ok n → sz n ≤ 900000) := Lib.hid (fun n h => parsR_size h)
 obtain ⟨R, hR⟩ : ∃ R, parsR ff x = R := ⟨_, rfl⟩
 rw [hR] at HP HSZ
 clear hx hw hS
 go_enter Tryz.func5, Tryz.ntmps5
 go_wp2_with fail
 refine (HC.out w).mono ?_
 rintro ee wq ⟨rfl, rfl⟩
 go_wp2_with fail
 refine HP.out.mono ?_
 rintro ee w1 ⟨v, rfl, hn, hb⟩
 have HB := Lib.hid hb
 cases R with
 | error pe =>
  obtain ⟨k, e⟩ := pe
  obtain ⟨b1, b2, b3⟩ := zh8 hR
  have hn : NIn w1 (fun b => w.heap.size ≤ b) noTree v := hn
  obtain ⟨ja, jc, rfl, -, -⟩ := hn.open
  rw [show placeOf (Except.error (k, e) : Except (Int × Nat) Nd) = k from rfl, show faultOf (Except.error (k, e) : Except (Int × Nat) Nd) = e from rfl, show noTree.kind = 0 from rfl]
  have hz : ((e : Int) == 0) = false := by simpa using b3
  have b4 : k ≤ ((txt x).size : Int) := b2
  clear hn hb b2 b3
  go_wp2_with fail
  refine (HA.out _ (HB.out.trans ((alloc_below _ _).mono HB.out.size))).mono ?_
  rintro ee w2 ⟨rfl, hb2⟩
  have HB2 := Lib.hid ((HB.out.trans ((alloc_below _ _).mono HB.out.size)).trans (hb2.mono (HB.out.trans ((alloc_below _ _).mono HB.out.size)).size))
  clear hb2
  go_wp2_with fail
  go_ret
  exact ⟨rfl, HB2.out⟩
 | ok n =>
  obtain ⟨b1, b2, b3⟩ := zi6 hR
  have hn : NIn w1 (fun b => w.heap.size ≤ b) n v := hn
  obtain ⟨ja, jc, rfl, hjc, hj⟩ := hn.open
  have hsz := HSZ.out n rfl
  have HN : Hid (∀ W, Below w1.heap.size w1 W → Calls Tryz.prog 18 #[.string (txt x), .agg #[.int .i64 1, .int .i64 n.fro, .int .i64 ((txt x).size : Int), .int .i64 n.at', .string n.name, .slice ja n.kids.length jc]] W (YesEnd W)) := Lib.hid (fun W hW => by
   have h := pstandsN_any x (by omega) (sz n) n _ ja jc W (Nat.le_refl _) (by omega) b1 hjc (hj.below hW)
   rw [b2, b3] at h
   exact h)
  rw [show placeOf (Except.ok n : Except (Int × Nat) Nd) = 0 from rfl, show faultOf (Except.ok n : Except (Int × Nat) Nd) = 0 from rfl, b2, b3]
  rw [show (x.length : Int) = ((txt x).size : Int) from rfl]
  clear hn hb hj hjc b1 b2 b3 hsz
  go_wp2_with fail
  refine (HN.out _ (alloc_below _ _)).mono ?_
  rintro ee w2 ⟨rfl, hb2⟩
  have HB2 := Lib.hid ((HB.out.trans ((alloc_below _ _).mono HB.out.size)).trans (hb2.mono (HB.out.trans ((alloc_below _ _).mono HB.out.size)).size))
  clear hb2
  go_wp2_with fail
  refine (HA.out _ HB2.out).mono ?_
  rintro ee w3 ⟨rfl, hb3⟩
  have HB3 := Lib.hid (HB2.out.trans (hb3.mono HB2.out.size))
  clear hb3
  go_wp2_with fail
  go_ret
  exact ⟨rfl, HB3.out⟩
end Go.Proofs.YtmlclgkhnekmnaaGreatDoor
namespace Go.Proofs.YtmlclgkhnekmnaaGreatDoor
open Go.RowKit Go.ChangeShapes Go.WideShapes Go.ChangeAt
theorem Wit.facts3_of {W : World} (h : laidMet Tryz.prog Rows.parserNestsRow.laid W) (hs : W.ShapedOpen Tryz.prog) : Facts W ∧ FW W :=
 ⟨Wit.facts_of h hs, ⟨Wit.flt_of h, Wit.pow_of h, (Wit.facts_of h hs).rng⟩, Wit.slow_of h⟩
theorem parserNests_law (s : ByteArray) (w : World) (h : Facts w ∧ FW w) : Calls Tryz.prog 5 #[.string s] w fun e w' => e = .returned (.bool true) ∧ Below w.heap.size w w' := pnests_any float_spec s w ⟨h.1, h.2⟩
end Go.Proofs.YtmlclgkhnekmnaaGreatDoor
