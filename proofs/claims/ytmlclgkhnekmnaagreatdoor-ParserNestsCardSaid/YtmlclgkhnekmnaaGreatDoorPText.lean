/- The parser's firstDeep: where the first of those nodes stands that are too deep. emendlaw11.text: a tree as a text (textN). Conditions: the tree's kinds are from 0 to 99. -/
import Derived.Test.YtmlclgkhnekmnaaGreatDoorPFl
import Derived.Test.YtmlclgkhnekmnaaGreatDoorLCardKit
namespace Go.Proofs.YtmlclgkhnekmnaaGreatDoor
open Go.RowKit
def dA (b : Option Int) : Int := b.getD 0
def dStep (d : Nat) (b : Option Int) (n : Nd) : Option Int := if n.kind = 0 then b else dMix (deepN d n) b
theorem deepL_cons (d : Nat) (b : Option Int) (n : Nd) (l : List Nd) : deepL d b (n :: l) = deepL d (dStep d b n) l := by rw [deepL]; rfl
theorem deepL_nil (d : Nat) (b : Option Int) : deepL d b [] = b := by rw [deepL]
theorem deepN_eq (d : Nat) (n : Nd) : deepN d n = deepL (d + 1) (if 64 < d then some n.at' else none) n.kids := by cases n; rw [deepN]; rfl
def DpEnd (r : Option Int) (w : World) (e : Ending) (w' : World) : Prop := e = .returned (.tuple #[.int .i64 (dA r), .bool r.isSome]) ∧ Below w.heap.size w w'
set_option maxRecDepth 100000 in
set_option maxHeartbeats 4000000 in
theorem pfirstDeep_any : ∀ (f : Nat) (n : Nd) (d : Nat) (P : Nat → Prop) (A : Option Addr) (c : Nat) (w : World), sz n ≤ f → sz n ≤ 1000000 → d + sz n ≤ 2000000 → n.kids.length ≤ c → SIn w P n.kids A →
 Calls Tryz.prog 43 #[.agg #[.int .i64 n.kind, .int .i64 n.fro, .int .i64 n.till, .int .i64 n.at', .string n.name, .slice A n.kids.length c], .int .i64 (d : Int)] w (DpEnd (deepN d n) w) := by
 intro f
 induction f with
 | zero => intro n _ _ _ _ _ h; have := sz_pos n; omega
 | succ f ih =>
  intro n d P A c w hf ha hd hc hk
  have HK := Lib.hid (fun (W : World) (hb : Below w.heap.size w W) => hk.below hb)
  have HIH := Lib.hid ih
  have HSZ := Lib.hid (And.intro hf (And.intro ha hd))
  have hal : n.kids.length ≤ 1000000 := by have := szL_len n.kids; have := sz_eq n; omega
  have hB0 := Lib.hid (alloc_below w (.cells #[.int .i64 n.kind, .int .i64 n.fro, .int .i64 n.till, .int .i64 n.at', .string n.name, .slice A n.kids.length c] 24))
  obtain ⟨RES, hRES⟩ : ∃ R, R = deepN d n := ⟨_, rfl⟩
  rw [← hRES]
  have HR0 : Hid (deepL (d + 1) (if 64 < d then some n.at' else none) n.kids = RES) := Lib.hid (by rw [hRES, deepN_eq])
  have hw1 : wrap64 ((d : Int) + 1) = ((d + 1 : Nat) : Int) := by have := sz_pos n; unfold wrap64; omega
  have HW1 := Lib.hid hw1
  clear ih hf ha hd hk hRES hw1
  by_cases h64 : 64 < d
  · have hz : (64 : Int) < (d : Int) := by omega
    have HR : Hid (deepL (d + 1) (some n.at') n.kids = RES) := Lib.hid (by have := HR0.out; rw [if_pos h64] at this; exact this)
    clear HR0 h64
    go_enter Tryz.func43, Tryz.ntmps43
    go_wp2_with fail
    go_loopg [4, 5, 17] n.kids.length (fun gg u4 u5 u17 wr => ∃ (k : Nat) (b : Option Int), k ≤ n.kids.length ∧ n.kids.length - k ≤ gg ∧ u4 = .int .i64 (dA b) ∧ u5 = .bool b.isSome ∧ u17 = .int .i64 (k : Int) ∧ Hid (deepL (d + 1) b (n.kids.drop k) = RES) ∧ Hid (Below w.heap.size w wr))
    case atStart => exact ⟨0, some n.at', Nat.zero_le _, by omega, rfl, rfl, rfl, HR, hB0⟩
    case round =>
     clear HR
     obtain ⟨k, b, hk, hg, rfl, rfl, rfl, HL, HB⟩ := hrel
     by_cases hlt : k < n.kids.length
     · have hltz : (k : Int) < (n.kids.length : Int) := by omega
       obtain ⟨x, hx⟩ : ∃ t, n.kids[k]? = some t := ⟨_, List.getElem?_eq_getElem hlt⟩
       obtain ⟨g, o, rfl, -, hrow⟩ := HK.out wr HB.out (by omega)
       obtain ⟨xa, xc, d0, d1, d2, d3, d4, d5, hic, hkk⟩ := hrow.row hx
       have hsx := sz_kid hx
       have HL2 : Hid (deepL (d + 1) (dStep (d + 1) b x) (n.kids.drop (k + 1)) = RES) := Lib.hid (by
        have h1 := HL.out
        rw [List.drop_eq_getElem_cons hlt, deepL_cons] at h1
        rw [show n.kids[k] = x from by rw [List.getElem?_eq_getElem hlt] at hx; exact Option.some.inj hx] at h1
        exact h1)
       have HB2 := Lib.hid (HB.out.trans ((alloc_below wr (.cells #[.int .i64 x.kind, .int .i64 x.fro, .int .i64 x.till, .int .i64 x.at', .string x.name, .slice xa x.kids.length xc] 24)).mono HB.out.size))
       have hgl := ncell_lt d0
       by_cases hz0 : x.kind = 0
       · have hzb : (x.kind == 0) = true := by rw [hz0]; rfl
         have HS : Hid (dStep (d + 1) b x = b) := Lib.hid (by unfold dStep; rw [if_pos hz0])
         have HZ := Lib.hid hz0
         clear hz0 hrow hic hkk hsx hx
         go_wp2_with fail
         go_roundg (n.kids.length - (k + 1))
         case measure => omega
         case rel => exact ⟨k + 1, b, by omega, Nat.le_refl _, rfl, rfl, by go_num, Lib.hid (by rw [← HS.out]; exact HL2.out), HB2⟩
       · have hzb : (x.kind == 0) = false := by simpa using hz0
         have HC : Hid (∀ W, Below wr.heap.size wr W → Calls Tryz.prog 43 #[.agg #[.int .i64 x.kind, .int .i64 x.fro, .int .i64 x.till, .int .i64 x.at', .string x.name, .slice xa x.kids.length xc], .int .i64 ((d + 1 : Nat) : Int)] W (DpEnd (deepN (d + 1) x) W)) := Lib.hid (fun W hW => HIH.out x (d + 1) P xa xc W (by have := HSZ.out; omega) (by have := HSZ.out; omega) (by have := HSZ.out; omega) hic (hkk.below hW))
         have HS : Hid (dStep (d + 1) b x = dMix (deepN (d + 1) x) b) := Lib.hid (by unfold dStep; rw [if_neg hz0])
         obtain ⟨y, hy⟩ : ∃ y, deepN (d + 1) x = y := ⟨_, rfl⟩
         rw [hy] at HC HS
         obtain ⟨q, hq⟩ : ∃ q : Int, q = ((d + 1 : Nat) : Int) := ⟨_, rfl⟩
         have hw1 : wrap64 ((d : Int) + 1) = q := by rw [hq]; exact HW1.out
         rw [← hq] at HC
         clear hz0 hrow hic hkk hsx hx hy hq
         go_wp2_with fail
         clear d0 d1 d2 d3 d4 d5
         refine (HC.out (wr.alloc (.cells #[.int .i64 x.kind, .int .i64 x.fro, .int .i64 x.till, .int .i64 x.at', .string x.name, .slice xa x.kids.length xc] 24)) (alloc_below _ _)).mono ?_
         rintro ee w2 ⟨rfl, hb⟩
         have HB3 := Lib.hid (HB2.out.trans (hb.mono HB2.out.size))
         clear hb
         cases y with
         | none =>
          have HS2 : Hid (dStep (d + 1) b x = b) := Lib.hid HS.out
          simp only [Option.isSome_none]
          go_wp2_with fail
          go_roundg (n.kids.length - (k + 1))
          case measure => omega
          case rel => exact ⟨k + 1, b, by omega, Nat.le_refl _, rfl, rfl, by go_num, Lib.hid (by rw [← HS2.out]; exact HL2.out), HB3⟩
         | some y =>
          cases b with
          | none =>
           have HS2 : Hid (dStep (d + 1) none x = some y) := Lib.hid HS.out
           simp only [Option.isSome_none, Option.isSome_some]
           go_wp2_with fail
           go_roundg (n.kids.length - (k + 1))
           case measure => omega
           case rel => exact ⟨k + 1, some y, by omega, Nat.le_refl _, rfl, rfl, by go_num, Lib.hid (by rw [← HS2.out]; exact HL2.out), HB3⟩
          | some z =>
           simp only [Option.isSome_some]
           rw [show dA (some y) = y from rfl, show dA (some z) = z from rfl]
           by_cases hyz : y < z
           · have HS2 : Hid (dStep (d + 1) (some z) x = some y) := Lib.hid (by rw [HS.out]; show (if y < z then some y else some z) = _; rw [if_pos hyz])
             go_wp2_with fail
             go_roundg (n.kids.length - (k + 1))
             case measure => omega
             case rel => exact ⟨k + 1, some y, by omega, Nat.le_refl _, rfl, rfl, by go_num, Lib.hid (by rw [← HS2.out]; exact HL2.out), HB3⟩
           · have HS2 : Hid (dStep (d + 1) (some z) x = some z) := Lib.hid (by rw [HS.out]; show (if y < z then some y else some z) = _; rw [if_neg hyz])
             go_wp2_with fail
             go_roundg (n.kids.length - (k + 1))
             case measure => omega
             case rel => exact ⟨k + 1, some z, by omega, Nat.le_refl _, rfl, rfl, by go_num, Lib.hid (by rw [← HS2.out]; exact HL2.out), HB3⟩
     · have hltz : ¬ (k : Int) < (n.kids.length : Int) := by omega
       have hke : k = n.kids.length := by omega
       have HE : Hid (b = RES) := Lib.hid (by have h1 := HL.out; rw [hke, List.drop_length, deepL_nil] at h1; exact h1)
       clear hke hk hg
       go_wp2_with fail
       go_ret2
       exact ⟨by rw [← HE.out]; rfl, HB.out⟩
  · have hz : ¬ (64 : Int) < (d : Int) := by omega
    have HR : Hid (deepL (d + 1) none n.kids = RES) := Lib.hid (by have := HR0.out; rw [if_neg h64] at this; exact this)
    clear HR0 h64
    go_enter Tryz.func43, Tryz.ntmps43
    go_wp2_with fail
    go_loopg [4, 5, 17] n.kids.length (fun gg u4 u5 u17 wr => ∃ (k : Nat) (b : Option Int), k ≤ n.kids.length ∧ n.kids.length - k ≤ gg ∧ u4 = .int .i64 (dA b) ∧ u5 = .bool b.isSome ∧ u17 = .int .i64 (k : Int) ∧ Hid (deepL (d + 1) b (n.kids.drop k) = RES) ∧ Hid (Below w.heap.size w wr))
    case atStart => exact ⟨0, none, Nat.zero_le _, by omega, rfl, rfl, rfl, HR, hB0⟩
    case round =>
     clear HR
     obtain ⟨k, b, hk, hg, rfl, rfl, rfl, HL, HB⟩ := hrel
     by_cases hlt : k < n.kids.length
     · have hltz : (k : Int) < (n.kids.length : Int) := by omega
       obtain ⟨x, hx⟩ : ∃ t, n.kids[k]? = some t := ⟨_, List.getElem?_eq_getElem hlt⟩
       obtain ⟨g, o, rfl, -, hrow⟩ := HK.out wr HB.out (by omega)
       obtain ⟨xa, xc, d0, d1, d2, d3, d4, d5, hic, hkk⟩ := hrow.row hx
       have hsx := sz_kid hx
       have HL2 : Hid (deepL (d + 1) (dStep (d + 1) b x) (n.kids.drop (k + 1)) = RES) := Lib.hid (by
        have h1 := HL.out
        rw [List.drop_eq_getElem_cons hlt, deepL_cons] at h1
        rw [show n.kids[k] = x from by rw [List.getElem?_eq_getElem hlt] at hx; exact Option.some.inj hx] at h1
        exact h1)
       have HB2 := Lib.hid (HB.out.trans ((alloc_below wr (.cells #[.int .i64 x.kind, .int .i64 x.fro, .int .i64 x.till, .int .i64 x.at', .string x.name, .slice xa x.kids.length xc] 24)).mono HB.out.size))
       have hgl := ncell_lt d0
       by_cases hz0 : x.kind = 0
       · have hzb : (x.kind == 0) = true := by rw [hz0]; rfl
         have HS : Hid (dStep (d + 1) b x = b) := Lib.hid (by unfold dStep; rw [if_pos hz0])
         have HZ := Lib.hid hz0
         clear hz0 hrow hic hkk hsx hx
         go_wp2_with fail
         go_roundg (n.kids.length - (k + 1))
         case measure => omega
         case rel => exact ⟨k + 1, b, by omega, Nat.le_refl _, rfl, rfl, by go_num, Lib.hid (by rw [← HS.out]; exact HL2.out), HB2⟩
       · have hzb : (x.kind == 0) = false := by simpa using hz0
         have HC : Hid (∀ W, Below wr.heap.size wr W → Calls Tryz.prog 43 #[.agg #[.int .i64 x.kind, .int .i64 x.fro, .int .i64 x.till, .int .i64 x.at', .string x.name, .slice xa x.kids.length xc], .int .i64 ((d : Int) + 1)] W (DpEnd (deepN (d + 1) x) W)) := Lib.hid (fun W hW => by rw [show (d : Int) + 1 = ((d + 1 : Nat) : Int) from by omega]; exact HIH.out x (d + 1) P xa xc W (by have := HSZ.out; omega) (by have := HSZ.out; omega) (by have := HSZ.out; omega) hic (hkk.below hW))
         have HS : Hid (dStep (d + 1) b x = dMix (deepN (d + 1) x) b) := Lib.hid (by unfold dStep; rw [if_neg hz0])
         obtain ⟨y, hy⟩ : ∃ y, deepN (d + 1) x = y := ⟨_, rfl⟩
         rw [hy] at HC HS
         clear hz0 hrow hic hkk hsx hx hy
         go_wp2_with fail
         clear d0 d1 d2 d3 d4 d5
         refine (HC.out (wr.alloc (.cells #[.int .i64 x.kind, .int .i64 x.fro, .int .i64 x.till, .int .i64 x.at', .string x.name, .slice xa x.kids.length xc] 24)) (alloc_below _ _)).mono ?_
         rintro ee w2 ⟨rfl, hb⟩
         have HB3 := Lib.hid (HB2.out.trans (hb.mono HB2.out.size))
         clear hb
         cases y with
         | none =>
          have HS2 : Hid (dStep (d + 1) b x = b) := Lib.hid HS.out
          simp only [Option.isSome_none]
          go_wp2_with fail
          go_roundg (n.kids.length - (k + 1))
          case measure => omega
          case rel => exact ⟨k + 1, b, by omega, Nat.le_refl _, rfl, rfl, by go_num, Lib.hid (by rw [← HS2.out]; exact HL2.out), HB3⟩
         | some y =>
          cases b with
          | none =>
           have HS2 : Hid (dStep (d + 1) none x = some y) := Lib.hid HS.out
           simp only [Option.isSome_none, Option.isSome_some]
           go_wp2_with fail
           go_roundg (n.kids.length - (k + 1))
           case measure => omega
           case rel => exact ⟨k + 1, some y, by omega, Nat.le_refl _, rfl, rfl, by go_num, Lib.hid (by rw [← HS2.out]; exact HL2.out), HB3⟩
          | some z =>
           simp only [Option.isSome_some]
           rw [show dA (some y) = y from rfl, show dA (some z) = z from rfl]
           by_cases hyz : y < z
           · have HS2 : Hid (dStep (d + 1) (some z) x = some y) := Lib.hid (by rw [HS.out]; show (if y < z then some y else some z) = _; rw [if_pos hyz])
             go_wp2_with fail
             go_roundg (n.kids.length - (k + 1))
             case measure => omega
             case rel => exact ⟨k + 1, some y, by omega, Nat.le_refl _, rfl, rfl, by go_num, Lib.hid (by rw [← HS2.out]; exact HL2.out), HB3⟩
           · have HS2 : Hid (dStep (d + 1) (some z) x = some z) := Lib.hid (by rw [HS.out]; show (if y < z then some y else some z) = _; rw [if_neg hyz])
             go_wp2_with fail
             go_roundg (n.kids.length - (k + 1))
             case measure => omega
             case rel => exact ⟨k + 1, some z, by omega, Nat.le_refl _, rfl, rfl, by go_num, Lib.hid (by rw [← HS2.out]; exact HL2.out), HB3⟩
     · have hltz : ¬ (k : Int) < (n.kids.length : Int) := by omega
       have hke : k = n.kids.length := by omega
       have HE : Hid (b = RES) := Lib.hid (by have h1 := HL.out; rw [hke, List.drop_length, deepL_nil] at h1; exact h1)
       clear hke hk hg
       go_wp2_with fail
       go_ret2
       exact ⟨by rw [← HE.out]; rfl, HB.out⟩
end Go.Proofs.YtmlclgkhnekmnaaGreatDoor
namespace Go.Proofs.YtmlclgkhnekmnaaGreatDoor
open Go.RowKit
theorem ptxt_app (a b : List UInt8) : txt a ++ txt b = txt (a ++ b) := by
 apply ByteArray.ext
 rw [ByteArray.data_append]
 simp [txt]
theorem txt_back (x : ByteArray) : txt x.data.toList = x := by
 apply ByteArray.ext
 simp [txt]
def digB (k : Int) : UInt8 := UInt8.ofNat (48 + (k % 10).toNat)
def numH (k : Int) : List UInt8 := [digB (k / 10), digB k]
mutual
def textN : Nd → List UInt8
 | .mk k _ _ _ x l => numH k ++ (x.data.toList ++ (if l.isEmpty then [] else 40 :: (textR true l ++ [41])))
def textR : Bool → List Nd → List UInt8
 | _, [] => []
 | b, n :: l => (if b then [] else [32]) ++ (textN n ++ textR false l)
end
theorem textN_eq (n : Nd) : textN n = numH n.kind ++ (n.name.data.toList ++ (if n.kids.isEmpty then [] else 40 :: (textR true n.kids ++ [41]))) := by cases n; rw [textN]; rfl
theorem textR_nil (b : Bool) : textR b [] = [] := by rw [textR]
theorem textR_cons (b : Bool) (n : Nd) (l : List Nd) : textR b (n :: l) = (if b then [] else [32]) ++ (textN n ++ textR false l) := by rw [textR]
mutual
def kindB : Nd → Bool
 | .mk k _ _ _ _ l => decide (0 ≤ k) && (decide (k ≤ 99) && kindL l)
def kindL : List Nd → Bool
 | [] => true
 | n :: l => kindB n && kindL l
end
theorem kindB_eq (n : Nd) : kindB n = (decide (0 ≤ n.kind) && (decide (n.kind ≤ 99) && kindL n.kids)) := by cases n; rw [kindB]; rfl
theorem kindL_at : ∀ {l : List Nd} {i : Nat} {n : Nd}, kindL l = true → l[i]? = some n → kindB n = true
 | [], _, _, _, h => by simp at h
 | m :: l, 0, n, hk, h => by
  rw [kindL, Bool.and_eq_true] at hk
  obtain rfl : m = n := by simpa using h
  exact hk.1
 | m :: l, i + 1, n, hk, h => by
  rw [kindL, Bool.and_eq_true] at hk
  exact kindL_at hk.2 (i := i) (by simpa using h)
mutual
theorem textN_len : ∀ n : Nd, (textN n).length + 1 ≤ 5 * sz n
 | .mk k f t a x l => by
  rw [textN, sz]
  have h := textR_len true l
  have e : x.data.toList.length = x.size := rfl
  have e2 : (numH k).length = 2 := rfl
  split
  · rw [List.length_append, List.length_append, e, e2, List.length_nil]; omega
  · rw [List.length_append, List.length_append, List.length_cons, List.length_append, e, e2, List.length_singleton]
    omega
theorem textR_len : ∀ (b : Bool) (l : List Nd), (textR b l).length ≤ 5 * szL l
 | _, [] => by rw [textR]; exact Nat.zero_le _
 | b, n :: l => by
  rw [textR, szL]
  have h := textN_len n
  have h2 := textR_len false l
  have h3 : (if b then [] else [32] : List UInt8).length ≤ 1 := by cases b <;> simp
  rw [List.length_append, List.length_append]
  omega
end
theorem digB_nat (k : Int) : (((digB k).toNat : Nat) : Int) = 48 + k % 10 := by
 unfold digB
 have h1 : (k % 10).toNat < 10 := by omega
 have h2 : (UInt8.ofNat (48 + (k % 10).toNat)).toNat = 48 + (k % 10).toNat := by
  rw [UInt8.toNat_ofNat']
  exact Nat.mod_eq_of_lt (by omega)
 rw [h2]; omega
theorem num_conv {W : World} {g : Nat} {k : Int} (h : W.heap[g]? = some (.cells #[.int .u8 (48 + k / 10 % 10), .int .u8 (48 + k % 10)] 5 (0, 0))) : (convert 109 9 (.slice (some ⟨g, 0, none⟩) 2 2)).run Tryz.prog W = .ok (.string (txt (numH k))) W := by
 refine str_conv (B := g) (l := numH k) ⟨rfl, .inr ⟨g, 2, _, rfl, Nat.le_refl _, h, Nat.le_refl _, by unfold maxLen; omega, rfl, ?_⟩⟩
 show [Value.int .u8 (48 + k / 10 % 10), .int .u8 (48 + k % 10)] = bcells (numH k)
 rw [show bcells (numH k) = [Value.int .u8 ((digB (k / 10)).toNat : Int), .int .u8 ((digB k).toNat : Int)] from rfl, digB_nat, digB_nat]
def TxEnd (x : List UInt8) (w : World) (e : Ending) (w' : World) : Prop := e = .returned (.string (txt x)) ∧ Below w.heap.size w w'
set_option maxRecDepth 100000 in
set_option maxHeartbeats 4000000 in
theorem ptext_any : ∀ (f : Nat) (n : Nd) (P : Nat → Prop) (A : Option Addr) (c : Nat) (w : World), sz n ≤ f → sz n ≤ 1000000 → kindB n = true → n.kids.length ≤ c → SIn w P n.kids A →
 Calls Tryz.prog 69 #[.agg #[.int .i64 n.kind, .int .i64 n.fro, .int .i64 n.till, .int .i64 n.at', .string n.name, .slice A n.kids.length c]] w (TxEnd (textN n) w) := by
 intro f
 induction f with
 | zero => intro n _ _ _ _ h; have := sz_pos n; omega
 | succ f ih =>
  intro n P A c w hf ha hb hc hk
  have HK := Lib.hid (fun (W : World) (hb : Below w.heap.size w W) => hk.below hb)
  have HIH := Lib.hid ih
  have HSZ := Lib.hid (And.intro hf ha)
  have hal : n.kids.length ≤ 1000000 := by have := szL_len n.kids; have := sz_eq n; omega
  rw [kindB_eq, Bool.and_eq_true, Bool.and_eq_true] at hb
  have h0 := of_decide_eq_true hb.1
  have h99 := of_decide_eq_true hb.2.1
  have HKL := Lib.hid hb.2.2
  have hB0 := Lib.hid (alloc_below w (.cells #[.int .i64 n.kind, .int .i64 n.fro, .int .i64 n.till, .int .i64 n.at', .string n.name, .slice A n.kids.length c] 24))
  have hcv := num_conv (W := (w.alloc (.cells #[.int .i64 n.kind, .int .i64 n.fro, .int .i64 n.till, .int .i64 n.at', .string n.name, .slice A n.kids.length c] 24)).alloc (.cells #[.int .u8 (48 + n.kind / 10 % 10), .int .u8 (48 + n.kind % 10)] 5)) (k := n.kind) (alloc_top2 w _ _ _)
  have hB1 := Lib.hid (alloc_below (w.alloc (.cells #[.int .i64 n.kind, .int .i64 n.fro, .int .i64 n.till, .int .i64 n.at', .string n.name, .slice A n.kids.length c] 24)) (.cells #[.int .u8 (48 + n.kind / 10 % 10), .int .u8 (48 + n.kind % 10)] 5))
  have hTop := Lib.hid (alloc_top w #[.int .i64 n.kind, .int .i64 n.fro, .int .i64 n.till, .int .i64 n.at', .string n.name, .slice A n.kids.length c] 24)
  have hsz0 : (w.alloc (.cells #[.int .i64 n.kind, .int .i64 n.fro, .int .i64 n.till, .int .i64 n.at', .string n.name, .slice A n.kids.length c] 24)).heap.size = w.heap.size + 1 := World.size_alloc ..
  have hW : Hid (∃ W0, W0 = w.alloc (.cells #[.int .i64 n.kind, .int .i64 n.fro, .int .i64 n.till, .int .i64 n.at', .string n.name, .slice A n.kids.length c] 24)) := Lib.hid ⟨_, rfl⟩
  obtain ⟨TOT, hT⟩ : ∃ T, T = textN n := ⟨_, rfl⟩
  rw [← hT]
  have hT0 := hT
  rw [textN_eq] at hT
  have a1 : ∀ a b : List UInt8, txt a ++ txt b = txt (a ++ b) := ptxt_app
  have hnm : txt (numH n.kind) ++ n.name = txt (numH n.kind ++ n.name.data.toList) := by rw [← ptxt_app, txt_back]
  have a2 : ∀ a : List UInt8, txt a ++ (⟨#[40]⟩ : ByteArray) = txt (a ++ [40]) := fun a => ptxt_app a [40]
  have a3 : ∀ a : List UInt8, txt a ++ (⟨#[32]⟩ : ByteArray) = txt (a ++ [32]) := fun a => ptxt_app a [32]
  have a4 : ∀ a : List UInt8, txt a ++ (⟨#[41]⟩ : ByteArray) = txt (a ++ [41]) := fun a => ptxt_app a [41]
  have hsn : n.name.size ≤ 1000000 := by have := sz_eq n; omega
  have hb1 : ¬ 9223372036854775807 < (txt (numH n.kind)).size + n.name.size := by show ¬ 9223372036854775807 < 2 + n.name.size; omega
  have hb2 : ¬ 9223372036854775807 < (txt (numH n.kind ++ n.name.data.toList)).size + 1 := by
   show ¬ 9223372036854775807 < (numH n.kind ++ n.name.data.toList).length + 1
   rw [List.length_append]
   show ¬ 9223372036854775807 < 2 + n.name.size + 1
   omega
  have HTL : Hid (TOT.length ≤ 10000000) := Lib.hid (by rw [hT0]; have h1 := textN_len n; omega)
  clear ih hf ha hb hk hT0
  by_cases hz : n.kids.length = 0
  · have hzi : ((n.kids.length : Int) == 0) = true := by simp [hz]
    have HT : Hid (TOT = numH n.kind ++ n.name.data.toList) := Lib.hid (by rw [hT, List.eq_nil_of_length_eq_zero hz]; simp)
    clear hT hz
    go_enter Tryz.func69, Tryz.ntmps69
    go_wp2_with fail
    go_ret
    exact ⟨by rw [HT.out]; rfl, hB0.out.trans (hB1.out.mono (by rw [hsz0]; omega))⟩
  · have hzi : ((n.kids.length : Int) == 0) = false := by simp [hz]
    have HT : Hid (TOT = numH n.kind ++ n.name.data.toList ++ [40] ++ (textR true n.kids ++ [41])) := Lib.hid (by
     rw [hT, if_neg (by rw [List.isEmpty_iff]; intro e; rw [e] at hz; exact hz rfl)]; simp)
    clear hT
    obtain ⟨W0, hW0⟩ := hW.out
    rw [← hW0] at hB0 hTop hB1 hsz0
    have HB1 := Lib.hid hB1.out
    have HW0 := Lib.hid hW0
    clear hW0
    go_enter Tryz.func69, Tryz.ntmps69
    go_wp2_with fail
    go_loopg [3, 4] n.kids.length (fun gg u3 u4 wr => ∃ (k : Nat) (acc : List UInt8), k ≤ n.kids.length ∧ n.kids.length - k ≤ gg ∧ u3 = .string (txt acc) ∧ u4 = .int .i64 (k : Int) ∧ Hid (TOT = acc ++ (textR (decide (k = 0)) (n.kids.drop k) ++ [41])) ∧ Hid (Below W0.heap.size W0 wr))
    case atStart => exact ⟨0, numH n.kind ++ n.name.data.toList ++ [40], Nat.zero_le _, by omega, rfl, rfl, HT, Lib.hid (by rw [HW0.out] at HB1 ⊢; exact HB1.out)⟩
    case round =>
     obtain ⟨k, acc, hk, hg, rfl, rfl, HL, HB⟩ := hrel
     obtain ⟨z0, z1, z2, z3, z4, z5⟩ := six_cells (blk_below hTop.out HB.out)
     have hw0 : w.heap.size ≤ W0.heap.size := by omega
     have HBW := Lib.hid (hB0.out.trans (HB.out.mono hw0))
     have hal2 : acc.length + (textR (decide (k = 0)) (n.kids.drop k)).length + 1 ≤ 10000000 := by
      have h1 := HTL.out
      rw [HL.out, List.length_append, List.length_append, List.length_singleton] at h1
      omega
     have hb3 : ¬ 9223372036854775807 < (txt acc).size + 1 := by show ¬ 9223372036854775807 < acc.length + 1; omega
     by_cases hlt : k < n.kids.length
     · have hltz : (k : Int) < (n.kids.length : Int) := by omega
       obtain ⟨x, hx⟩ : ∃ t, n.kids[k]? = some t := ⟨_, List.getElem?_eq_getElem hlt⟩
       obtain ⟨g, o, rfl, -, hrow⟩ := HK.out wr HBW.out (by omega)
       obtain ⟨xa, xc, d0, d1, d2, d3, d4, d5, hic, hkk⟩ := hrow.row hx
       have hsx := sz_kid hx
       have hdr : n.kids.drop k = x :: n.kids.drop (k + 1) := by
        rw [List.drop_eq_getElem_cons hlt]
        rw [show n.kids[k] = x from by rw [List.getElem?_eq_getElem hlt] at hx; exact Option.some.inj hx]
       rw [hdr, textR_cons] at hal2
       rw [List.length_append, List.length_append] at hal2
       have HL2 : Hid (TOT = acc ++ ((if decide (k = 0) then [] else [32]) ++ (textN x ++ textR false (n.kids.drop (k + 1))) ++ [41])) := Lib.hid (by rw [HL.out, hdr, textR_cons])
       have hgl := ncell_lt d0
       have hkx := kindL_at HKL.out hx
       have HC : Hid (∀ W, Below wr.heap.size wr W → Calls Tryz.prog 69 #[.agg #[.int .i64 x.kind, .int .i64 x.fro, .int .i64 x.till, .int .i64 x.at', .string x.name, .slice xa x.kids.length xc]] W (TxEnd (textN x) W)) := Lib.hid (fun W hW => HIH.out x P xa xc W (by have := HSZ.out; omega) (by have := HSZ.out; omega) hkx hic (hkk.below hW))
       clear hrow hic hkk hsx hx hkx hdr hgl HL
       by_cases hk0 : k = 0
       · subst hk0
         simp only [decide_true, if_true] at HL2 hal2
         simp only [Nat.zero_mul, Nat.add_zero] at d0 d1 d2 d3 d4 d5
         have hb4 : ¬ 9223372036854775807 < (txt acc).size + (txt (textN x)).size := by show ¬ 9223372036854775807 < acc.length + (textN x).length; omega
         skip
         go_wp2_with fail
         clear d0 d1 d2 d3 d4 d5
         refine (HC.out _ (Below.refl _ _)).mono ?_
         rintro ee w2 ⟨rfl, hb2⟩
         have HB2 := Lib.hid (HB.out.trans (hb2.mono HB.out.size))
         clear hb2
         go_wp2_with fail
         go_roundg (n.kids.length - (0 + 1))
         case measure => omega
         case rel => exact ⟨0 + 1, acc ++ textN x, by omega, Nat.le_refl _, by simp, by go_num, Lib.hid (by rw [HL2.out]; simp), HB2⟩
       · have hkz : (0 : Int) < (k : Int) := by omega
         simp only [hk0, decide_false, Bool.false_eq_true, if_false] at HL2 hal2
         have hb4 : ¬ 9223372036854775807 < (txt (acc ++ [32])).size + (txt (textN x)).size := by show ¬ 9223372036854775807 < (acc ++ [32]).length + (textN x).length; rw [List.length_append, List.length_singleton]; omega
         skip
         go_wp2_with fail
         clear d0 d1 d2 d3 d4 d5
         refine (HC.out _ (Below.refl _ _)).mono ?_
         rintro ee w2 ⟨rfl, hb2⟩
         have HB2 := Lib.hid (HB.out.trans (hb2.mono HB.out.size))
         clear hb2
         go_wp2_with fail
         go_roundg (n.kids.length - (k + 1))
         case measure => omega
         case rel => exact ⟨k + 1, acc ++ [32] ++ textN x, by omega, Nat.le_refl _, by simp, by go_num, Lib.hid (by rw [HL2.out]; simp), HB2⟩
     · have hltz : ¬ (k : Int) < (n.kids.length : Int) := by omega
       have HE : Hid (TOT = acc ++ [41]) := Lib.hid (by rw [HL.out, show k = n.kids.length from by omega, List.drop_length, textR_nil]; rfl)
       clear hk hg
       go_wp2_with fail
       go_ret
       exact ⟨by rw [HE.out]; rfl, HBW.out⟩
end Go.Proofs.YtmlclgkhnekmnaaGreatDoor
