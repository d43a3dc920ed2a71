/-
  All of ast's shape functions, at every tree: what they tell is what the table says (shp). Conditions: those of FnV; what isToken tells (Htok). (Written by a program.)
  ast's Check, Depth: what they tell of each tree (chk, depth). slices.IndexFunc and ContainsFunc over trees. Conditions: at most 100000 nodes and bytes of names; what isToken tells (Htok).
  ast's Check, Depth, Same: what they tell of each tree (chk, depth, sameN). Conditions: at most 100000 nodes and bytes of names; what isToken tells (Htok).
  Which trees are the same, places aside (sameN); slices.EqualFunc over trees; ast's Same, emendref10's Same, Size; emendlaw10.few: what they tell. Conditions: at most 1000000 nodes and bytes of names, but for Size and few (names: less than 2^60 bytes).
-/
import Derived.Test.YtkpddjbdmjbefaaGreatDoorNS1
import Derived.Test.YtkpddjbdmjbefaaGreatDoorNS2
import Derived.Test.YtkpddjbdmjbefaaGreatDoorNS3
import Derived.Test.YtkpddjbdmjbefaaGreatDoorNS4
import Derived.Test.YtkpddjbdmjbefaaGreatDoorNS5
import Derived.Test.YtkpddjbdmjbefaaGreatDoorNS6
import Derived.Test.YtkpddjbdmjbefaaGreatDoorNS7
import Derived.Test.YtkpddjbdmjbefaaGreatDoorNS8
import Derived.Test.YtkpddjbdmjbefaaGreatDoorNOk
namespace Go.Proofs.YtkpddjbdmjbefaaGreatDoor
open Go.RowKit
variable {tk : Int → ByteArray → Bool} {O : ByteArray → Prop} {FAC : World → Prop}
structure Tower (FAC : World → Prop) (tk : Int → ByteArray → Bool) (O : ByteArray → Prop) (f : Nat) : Prop where
  himp : SL FAC tk O f 30 .imp
  hdecl : SL FAC tk O f 31 .decl
  hparams : SL FAC tk O f 43 .params
  hty : SL FAC tk O f 39 .ty
  hbasic : SL FAC tk O f 47 .basic
  hown : SL FAC tk O f 40 .own
  hfar : SL FAC tk O f 48 .far
  hident : SL FAC tk O f 54 .ident
  hblock : SL FAC tk O f 44 .block
  hstmt : SL FAC tk O f 52 .stmt
  hvar : SL FAC tk O f 57 .var
  hiff : SL FAC tk O f 58 .iff
  hforr : SL FAC tk O f 59 .forr
  hexpr : SL FAC tk O f 60 .expr
  hdefine : SL FAC tk O f 61 .define
  hassign : SL FAC tk O f 62 .assign
  hpath : SL FAC tk O f 69 .path
  hcallS : SL FAC tk O f 63 .callS
  hcall : SL FAC tk O f 70 .call
  hoperand : SL FAC tk O f 78 .operand
  hsel : SL FAC tk O f 82 .sel
  hkeyed : SL FAC tk O f 83 .keyed
  hnothing : SL FAC tk O f 42 .nothing
  level1 : ∀ (k : Int) (B : Nat) (n : Nd) (nv : Value) (w : World), FAC w → Fit O f 3 n → NIn w TT n nv → w.cell? ⟨B, 0, none⟩ = some (.int .i64 k) → Calls Tryz.prog 75 #[nv, .pointer (some ⟨B, 0, none⟩)] w fun e w' => e = .returned (.bool (shp tk f (.level k) n)) ∧ Below w.heap.size w w'
theorem cl_zero {g : FuncId} {c : Sc} : CL FAC tk O 0 g c := fun n _ _ _ hF _ => by have := hF.fuel; have := sz_pos n; omega
theorem tower_zero (keepF : ∀ w w', FAC w → Below w.heap.size w w' → FAC w') : Tower FAC tk O 0 where
  himp := SL.of keepF (enters_of Tryz.func30 (by kernel_rfl) rfl) cl_zero
  hdecl := SL.of keepF (enters_of Tryz.func31 (by kernel_rfl) rfl) cl_zero
  hparams := SL.of keepF (enters_of Tryz.func43 (by kernel_rfl) rfl) cl_zero
  hty := SL.of keepF (enters_of Tryz.func39 (by kernel_rfl) rfl) cl_zero
  hbasic := SL.of keepF (enters_of Tryz.func47 (by kernel_rfl) rfl) cl_zero
  hown := SL.of keepF (enters_of Tryz.func40 (by kernel_rfl) rfl) cl_zero
  hfar := SL.of keepF (enters_of Tryz.func48 (by kernel_rfl) rfl) cl_zero
  hident := SL.of keepF (enters_of Tryz.func54 (by kernel_rfl) rfl) cl_zero
  hblock := SL.of keepF (enters_of Tryz.func44 (by kernel_rfl) rfl) cl_zero
  hstmt := SL.of keepF (enters_of Tryz.func52 (by kernel_rfl) rfl) cl_zero
  hvar := SL.of keepF (enters_of Tryz.func57 (by kernel_rfl) rfl) cl_zero
  hiff := SL.of keepF (enters_of Tryz.func58 (by kernel_rfl) rfl) cl_zero
  hforr := SL.of keepF (enters_of Tryz.func59 (by kernel_rfl) rfl) cl_zero
  hexpr := SL.of keepF (enters_of Tryz.func60 (by kernel_rfl) rfl) cl_zero
  hdefine := SL.of keepF (enters_of Tryz.func61 (by kernel_rfl) rfl) cl_zero
  hassign := SL.of keepF (enters_of Tryz.func62 (by kernel_rfl) rfl) cl_zero
  hpath := SL.of keepF (enters_of Tryz.func69 (by kernel_rfl) rfl) cl_zero
  hcallS := SL.of keepF (enters_of Tryz.func63 (by kernel_rfl) rfl) cl_zero
  hcall := SL.of keepF (enters_of Tryz.func70 (by kernel_rfl) rfl) cl_zero
  hoperand := SL.of keepF (enters_of Tryz.func78 (by kernel_rfl) rfl) cl_zero
  hsel := SL.of keepF (enters_of Tryz.func82 (by kernel_rfl) rfl) cl_zero
  hkeyed := SL.of keepF (enters_of Tryz.func83 (by kernel_rfl) rfl) cl_zero
  hnothing := SL.of keepF (enters_of Tryz.func42 (by kernel_rfl) rfl) cl_zero
  level1 := fun _ _ n _ _ _ hF _ _ => by have := hF.fuel; have := sz_pos n; omega
theorem tower_step (keepF : ∀ w w', FAC w → Below w.heap.size w w' → FAC w') (Htok : ∀ W, FAC W → ∀ k : Int, 3 ≤ k ∧ k ≤ 5 → Calls Tryz.prog 81 #[.int .i64 k] W fun e w' => ∃ v, e = .returned v ∧ NmV O w' v (tk k) ∧ Below W.heap.size W w')
    (f : Nat) (T : Tower FAC tk O f) (Tp : ∀ f', f = f' + 1 → Tower FAC tk O f') : Tower FAC tk O (f + 1) := by
  have HlevelS := level_s f T.level1 keepF
  have Hlevel : ∀ W, FAC W → ∀ k : Int, Calls Tryz.prog 68 #[.int .i64 k] W fun e w' => ∃ v, e = .returned v ∧ FnV (DD O f) w' v (shp tk f (.level k)) ∧ Below W.heap.size W w' := fun W hW k =>
    (HlevelS W hW k).mono (by rintro e w' ⟨v, he, hf, hb⟩; exact ⟨v, he, hf.sub (fun T hD => hD.fit (by omega)), hb⟩)
  have Htypedfalse := fun W hW k => typed_s (tk := tk) (O := O) f keepF false 39 (fun f' e => (Tp f' e).hty) W hW k
  have Htypedtrue := fun W hW k => typed_s (tk := tk) (O := O) f keepF true 40 (fun f' e => (Tp f' e).hown) W hW k
  have Hheadexpr := fun W hW => ofHead_s (tk := tk) (O := O) f keepF _ .expr (by intro e; cases e) (by intro k own e; cases e) T.hexpr W hW
  have Hheaddefine := fun W hW => ofHead_s (tk := tk) (O := O) f keepF _ .define (by intro e; cases e) (by intro k own e; cases e) T.hdefine W hW
  have Hheadassign := fun W hW => ofHead_s (tk := tk) (O := O) f keepF _ .assign (by intro e; cases e) (by intro k own e; cases e) T.hassign W hW
  have HheadcallS := fun W hW => ofHead_s (tk := tk) (O := O) f keepF _ .callS (by intro e; cases e) (by intro k own e; cases e) T.hcallS W hW
  exact {
    himp := SL.of keepF (enters_of Tryz.func30 (by kernel_rfl) rfl) (isImport_s f keepF )
    hdecl := SL.of keepF (enters_of Tryz.func31 (by kernel_rfl) rfl) (isDecl_s f keepF Htypedfalse Htypedtrue T.hnothing T.hparams T.hty T.hblock)
    hparams := SL.of keepF (enters_of Tryz.func43 (by kernel_rfl) rfl) (isParams_s f keepF Htypedfalse)
    hty := SL.of keepF (enters_of Tryz.func39 (by kernel_rfl) rfl) (isType_s f keepF T.hbasic T.hown T.hfar)
    hbasic := SL.of keepF (enters_of Tryz.func47 (by kernel_rfl) rfl) (isBasicType_s f keepF )
    hown := SL.of keepF (enters_of Tryz.func40 (by kernel_rfl) rfl) (isOwnType_s f keepF )
    hfar := SL.of keepF (enters_of Tryz.func48 (by kernel_rfl) rfl) (isFarType_s f keepF T.hident)
    hident := SL.of keepF (enters_of Tryz.func54 (by kernel_rfl) rfl) (isIdent_s f keepF )
    hblock := SL.of keepF (enters_of Tryz.func44 (by kernel_rfl) rfl) (isBlock_s f keepF T.hstmt)
    hstmt := SL.of keepF (enters_of Tryz.func52 (by kernel_rfl) rfl) (isStmt_s f keepF T.hvar T.hblock T.hiff T.hforr T.hexpr T.hdefine T.hassign T.hcallS)
    hvar := SL.of keepF (enters_of Tryz.func57 (by kernel_rfl) rfl) (isVar_s f keepF T.hty T.hnothing T.hexpr)
    hiff := SL.of keepF (enters_of Tryz.func58 (by kernel_rfl) rfl) (isIf_s f keepF Hheadexpr T.hblock T.hnothing T.hiff)
    hforr := SL.of keepF (enters_of Tryz.func59 (by kernel_rfl) rfl) (isFor_s f keepF Hheaddefine Hheadassign HheadcallS Hheadexpr T.hnothing T.hblock)
    hexpr := SL.of keepF (enters_of Tryz.func60 (by kernel_rfl) rfl) (isExpr_s f keepF HlevelS)
    hdefine := SL.of keepF (enters_of Tryz.func61 (by kernel_rfl) rfl) (isDefine_s f keepF T.hexpr)
    hassign := SL.of keepF (enters_of Tryz.func62 (by kernel_rfl) rfl) (isAssign_s f keepF T.hpath T.hexpr)
    hpath := SL.of keepF (enters_of Tryz.func69 (by kernel_rfl) rfl) (isPath_s f keepF T.hident T.hpath)
    hcallS := SL.of keepF (enters_of Tryz.func63 (by kernel_rfl) rfl) (isCallStmt_s f keepF T.hcall)
    hcall := SL.of keepF (enters_of Tryz.func70 (by kernel_rfl) rfl) (isCall_s f keepF T.hexpr)
    hoperand := SL.of keepF (enters_of Tryz.func78 (by kernel_rfl) rfl) (isOperand_s f keepF Htok T.hident T.hexpr T.hsel T.hown T.hfar T.hkeyed)
    hsel := SL.of keepF (enters_of Tryz.func82 (by kernel_rfl) rfl) (isSel_s f keepF Hlevel)
    hkeyed := SL.of keepF (enters_of Tryz.func83 (by kernel_rfl) rfl) (isKeyed_s f keepF T.hexpr)
    hnothing := SL.of keepF (enters_of Tryz.func42 (by kernel_rfl) rfl) (isNothing_s f keepF )
    level1 := fun k B n nv w hW hF hn hB => level1_s f keepF Hlevel T.hoperand k B n nv w hW hF hn hB }
theorem tower_all (keepF : ∀ w w', FAC w → Below w.heap.size w w' → FAC w') (Htok : ∀ W, FAC W → ∀ k : Int, 3 ≤ k ∧ k ≤ 5 → Calls Tryz.prog 81 #[.int .i64 k] W fun e w' => ∃ v, e = .returned v ∧ NmV O w' v (tk k) ∧ Below W.heap.size W w') :
    ∀ f, Tower FAC tk O f ∧ Tower FAC tk O (f + 1)
  | 0 => ⟨tower_zero keepF, tower_step keepF Htok 0 (tower_zero keepF) (fun f' e => by cases e)⟩
  | f + 1 => by
    obtain ⟨h1, h2⟩ := tower_all keepF Htok f
    exact ⟨h2, tower_step keepF Htok (f + 1) h2 (fun f' e => by cases e; exact h1)⟩
/-- isFile. -/
theorem isFile_all (keepF : ∀ w w', FAC w → Below w.heap.size w w' → FAC w') (Htok : ∀ W, FAC W → ∀ k : Int, 3 ≤ k ∧ k ≤ 5 → Calls Tryz.prog 81 #[.int .i64 k] W fun e w' => ∃ v, e = .returned v ∧ NmV O w' v (tk k) ∧ Below W.heap.size W w')
    (f : Nat) (n : Nd) (nv : Value) (w : World) (HFA0 : FAC w) (hF : Fit O (f + 1) 0 n) (hn : NIn w TT n nv) : Calls Tryz.prog 23 #[nv] w fun e w' => e = .returned (.bool (fileB tk f n)) ∧ Below w.heap.size w w' :=
  isFile_s f keepF (tower_all keepF Htok f).1.himp (tower_all keepF Htok f).1.hdecl n nv w HFA0 hF hn
end Go.Proofs.YtkpddjbdmjbefaaGreatDoor
namespace Go.Proofs.YtkpddjbdmjbefaaGreatDoor
open Go.RowKit

/-- A function value that tells of each tree of a row, in every world behind. -/
def TellN (w : World) (l : List Nd) (g : FuncId) (cap : Array Value) (p : Nd → Bool) : Prop := ∀ W, Below w.heap.size w W → ∀ t ∈ l, ∀ u, NIn W TT t u → Calls Tryz.prog g (#[u] ++ cap) W fun e w' => e = .returned (.bool (p t)) ∧ Below W.heap.size W w'
def FirstN (p : Nd → Bool) (l : List Nd) (r : Int) : Prop := (r = -1 ∧ ∀ t ∈ l, p t = false) ∨ ∃ k t, r = (k : Nat) ∧ l[k]? = some t ∧ p t = true ∧ ∀ j, j < k → ∀ s, l[j]? = some s → p s = false
set_option maxRecDepth 100000 in
set_option maxHeartbeats 1000000 in
theorem idxN_any (l : List Nd) (A : Option Addr) (c : Nat) (hn : l.length ≤ 1000000) (p : Nd → Bool) (g : FuncId) (cap : Array Value) (eg : Enters Tryz.prog g) (w : World) (hs : SIn w TT l A) (hp : TellN w l g cap p) :
    Calls Tryz.prog 32 #[.slice A l.length c, .func (.func g) #[] cap] w fun e w' => ∃ r, e = .returned (.int .i64 r) ∧ FirstN p l r ∧ Below w.heap.size w w' := by
  have eg' : ∀ (args : Array Value) (w : World), (callFunc g args).run Tryz.prog w = .ok (.enter g args) w := eg
  have HS := Lib.hid hs
  have HP := Lib.hid hp
  clear hs hp
  generalize hln : l.length = n at *
  have HLN := Lib.hid hln
  clear hln
  go_enter Tryz.func32, Tryz.ntmps32
  go_wp2_with fail
  go_loopg [5, 8] n (fun gg _ s8 wr => ∃ kk : Nat, kk ≤ n ∧ n - kk ≤ gg ∧ s8 = .int .i64 kk ∧ Aside (Below w.heap.size w wr) ∧ Aside (∀ j, j < kk → ∀ s, l[j]? = some s → p s = false))
  case atStart => exact ⟨0, Nat.zero_le _, by omega, rfl, Below.refl _ w, fun j hj => absurd hj (Nat.not_lt_zero _)⟩
  case round =>
    obtain ⟨kk, hkk, hg, rfl, BW, AA⟩ := hrel
    by_cases hlt : kk < n
    · have hltz : (kk : Int) < (n : Int) := by omega
      have hll : kk < l.length := by rw [HLN.out]; exact hlt
      obtain ⟨b, o, rfl, -, hrow⟩ := HS.out (by omega)
      obtain ⟨t, ht⟩ : ∃ t, l[kk]? = some t := ⟨_, List.getElem?_eq_getElem hll⟩
      have hrow2 := NLn.keep (W' := wr) (Q := TT) (fun k _ hk => BW.out.block k hk) (fun _ hP _ => hP) b trivial _ _ hrow
      obtain ⟨ia, ic, d0, d1, d2, d3, d4, d5, hic, hkk2⟩ := hrow2.row ht
      have HX := Lib.hid (HP.out wr BW.out t (List.mem_of_getElem? ht) _ (NIn.shut hic hkk2))
      have HKL := Lib.hid (And.intro hlt hg)
      have HTT := Lib.hid ht
      clear hrow hrow2 hic hkk2 ht hll hg
      cases hq : p t with
      | true =>
        have HQ := Lib.hid hq
        rw [hq] at HX
        clear hq
        go_wp2_with (go_at_fn g; refine HX.out.mono ?_; rintro e w' ⟨rfl, hb'⟩)
        go_ret
        exact ⟨_, rfl, .inr ⟨kk, t, rfl, HTT.out, HQ.out, AA.out⟩, BW.out.trans (hb'.mono BW.out.size)⟩
      | false =>
        have HQ := Lib.hid hq
        rw [hq] at HX
        clear hq
        go_wp2_with (go_at_fn g; refine HX.out.mono ?_; rintro e w' ⟨rfl, hb'⟩)
        go_roundg (n - (kk + 1))
        case measure => have := HKL.out; omega
        case rel =>
          have h1 := HKL.out
          refine ⟨kk + 1, by omega, Nat.le_refl _, by go_num, BW.out.trans (hb'.mono BW.out.size), (show Aside _ from fun j hj s hs => ?_)⟩
          by_cases e : j = kk
          · subst e
            rw [HTT.out] at hs
            injection hs with hs
            rw [← hs]; exact HQ.out
          · exact AA.out j (by omega) s hs
    · have hltz : ¬ (kk : Int) < (n : Int) := by omega
      have : kk = n := by omega
      subst this
      go_wp2
      go_ret
      refine ⟨_, rfl, .inl ⟨rfl, fun t ht => ?_⟩, BW.out⟩
      obtain ⟨i, hi, rfl⟩ := List.getElem_of_mem ht
      exact AA.out i (by rw [← HLN.out]; exact hi) _ (List.getElem?_eq_getElem hi)
set_option maxRecDepth 100000 in
theorem contN_any (l : List Nd) (A : Option Addr) (c : Nat) (hn : l.length ≤ 1000000) (p : Nd → Bool) (g : FuncId) (cap : Array Value) (eg : Enters Tryz.prog g) (w : World) (hs : SIn w TT l A) (hp : TellN w l g cap p) :
    Calls Tryz.prog 25 #[.slice A l.length c, .func (.func g) #[] cap] w fun e w' => e = .returned (.bool (l.any p)) ∧ Below w.heap.size w w' := by
  have HC := Lib.hid (idxN_any l A c hn p g cap eg w hs hp)
  clear hs hp
  go_enter Tryz.func25, Tryz.ntmps25
  go_wp2_with fail
  refine HC.out.mono ?_
  rintro e w' ⟨r, rfl, hr, hb⟩
  have HB := Lib.hid hb
  clear hb
  rcases hr with ⟨rfl, h⟩ | ⟨k, t, rfl, ht, h1, h2⟩
  · have E1 : Hid (l.any p = false) := Lib.hid (by
      rw [List.any_eq_false]
      intro t ht
      rw [h t ht]; simp)
    clear h
    go_wp2_with fail
    go_ret
    exact ⟨by rw [E1.out]; rfl, HB.out⟩
  · have E1 : Hid (l.any p = true) := Lib.hid (by
      rw [List.any_eq_true]
      exact ⟨t, List.mem_of_getElem? ht, h1⟩)
    have h0 : (0 : Int) ≤ (k : Int) := by omega
    clear h1 h2 ht
    go_wp2_with fail
    go_ret
    exact ⟨by rw [E1.out]; rfl, HB.out⟩
theorem depth_eq (T : Nd) : depth T = if T.kind = 0 then 0 else depthL T.kids + 1 := by cases T; rw [depth]; rfl
theorem depthL_any (m : Nat) : ∀ l : List Nd, l.any (fun t => decide (m < depth t)) = decide (m < depthL l)
  | [] => by simp [depthL]
  | t :: l => by
    rw [List.any_cons, depthL_any m l, depthL, Bool.eq_iff_iff]
    simp only [Bool.or_eq_true, decide_eq_true_eq]
    omega
set_option maxRecDepth 100000 in
set_option maxHeartbeats 1000000 in
theorem isDeeper_any : ∀ (m : Nat), m ≤ 64 → ∀ (T : Nd) (nv : Value) (w : World), sz T ≤ 1000000 → NIn w TT T nv →
    Calls Tryz.prog 22 #[nv, .int .i64 (m : Int)] w fun e w' => e = .returned (.bool (decide (m < depth T))) ∧ Below w.heap.size w w' := by
  intro m
  induction m with
  | zero =>
    intro hm T nv w hsz hn
    obtain ⟨ia, ic, rfl, hcc, hk⟩ := hn.open
    have hb1 := alloc_below w (.cells #[.int .i64 T.kind, .int .i64 T.fro, .int .i64 T.till, .int .i64 T.at', .string T.name, .slice ia T.kids.length ic] 24)
    have HB := Lib.hid (hb1.trans ((alloc_below _ (.cells #[.int .i64 0] 3)).mono hb1.size))
    by_cases h0 : T.kind = 0
    · have HD : Hid (decide (0 < depth T) = false) := Lib.hid (by rw [depth_eq, if_pos h0]; rfl)
      generalize T.kind = kd at *
      subst h0
      clear hb1 hk hn
      go_enter Tryz.func22, Tryz.ntmps22
      go_wp2_with fail
      go_ret
      exact ⟨by rw [HD.out]; rfl, HB.out⟩
    · have HD : Hid (decide (0 < depth T) = true) := Lib.hid (by rw [depth_eq, if_neg h0]; simp)
      have g0 : (T.kind == 0) = false := by simpa using h0
      clear hb1 hk hn h0
      go_enter Tryz.func22, Tryz.ntmps22
      go_wp2_with fail
      go_ret
      exact ⟨by rw [HD.out]; rfl, HB.out⟩
  | succ m ih =>
    intro hm T nv w hsz hn
    obtain ⟨ia, ic, rfl, hcc, hk⟩ := hn.open
    have hkl : T.kids.length ≤ 1000000 := by have := szL_len T.kids; have := sz_eq T; omega
    have hb1 := alloc_below w (.cells #[.int .i64 T.kind, .int .i64 T.fro, .int .i64 T.till, .int .i64 T.at', .string T.name, .slice ia T.kids.length ic] 24)
    have hz1 : (w.alloc (.cells #[.int .i64 T.kind, .int .i64 T.fro, .int .i64 T.till, .int .i64 T.at', .string T.name, .slice ia T.kids.length ic] 24)).heap.size = w.heap.size + 1 := World.size_alloc ..
    have hT2 := alloc_top (w.alloc (.cells #[.int .i64 T.kind, .int .i64 T.fro, .int .i64 T.till, .int .i64 T.at', .string T.name, .slice ia T.kids.length ic] 24)) #[.int .i64 ((m + 1 : Nat) : Int)] 3
    rw [hz1] at hT2
    have hb2 := hb1.trans ((alloc_below _ (.cells #[.int .i64 ((m + 1 : Nat) : Int)] 3)).mono hb1.size)
    have HB := Lib.hid hb2
    by_cases h0 : T.kind = 0
    · have HD : Hid (decide (m + 1 < depth T) = false) := Lib.hid (by rw [depth_eq, if_pos h0]; simp)
      generalize T.kind = kd at *
      subst h0
      clear hb1 hk hn ih hz1 hT2 hb2
      go_enter Tryz.func22, Tryz.ntmps22
      go_wp2_with fail
      go_ret
      exact ⟨by rw [HD.out]; rfl, HB.out⟩
    · have HD : Hid (decide (m + 1 < depth T) = T.kids.any (fun t => decide (m < depth t))) := Lib.hid (by
        rw [depth_eq, if_neg h0, depthL_any]
        simp)
      have g0 : (T.kind == 0) = false := by simpa using h0
      have HC : Hid (Calls Tryz.prog 25 #[.slice ia T.kids.length ic, .func (.func 26) #[] #[.pointer (some ⟨w.heap.size + 1, 0, none⟩)]] ((w.alloc (.cells #[.int .i64 T.kind, .int .i64 T.fro, .int .i64 T.till, .int .i64 T.at', .string T.name, .slice ia T.kids.length ic] 24)).alloc (.cells #[.int .i64 ((m + 1 : Nat) : Int)] 3)) _) :=
        Lib.hid (contN_any T.kids ia ic hkl (fun t => decide (m < depth t)) 26 #[.pointer (some ⟨w.heap.size + 1, 0, none⟩)] (enters_of Tryz.func26 (by kernel_rfl) rfl) _ (hk.below hb2) (by
          intro W hW t ht u hu
          have hts : sz t ≤ 1000000 := by
            obtain ⟨i, hi, e⟩ := List.getElem_of_mem ht
            have := sz_kid (n := T) (m := t) (i := i) (by rw [List.getElem?_eq_getElem hi, e])
            omega
          have kB : W.cell? ⟨w.heap.size + 1, 0, none⟩ = some (.int .i64 ((m + 1 : Nat) : Int)) := cell_kept (by unfold World.cell?; simp only [hT2]; rfl) rfl hW
          obtain ⟨ja, jc, rfl, hjc, hjk⟩ := hu.open
          have hb9 := alloc_below W (.cells #[.int .i64 t.kind, .int .i64 t.fro, .int .i64 t.till, .int .i64 t.at', .string t.name, .slice ja t.kids.length jc] 24)
          have HI := Lib.hid (ih (by omega) t (.agg #[.int .i64 t.kind, .int .i64 t.fro, .int .i64 t.till, .int .i64 t.at', .string t.name, .slice ja t.kids.length jc]) (W.alloc (.cells #[.int .i64 t.kind, .int .i64 t.fro, .int .i64 t.till, .int .i64 t.at', .string t.name, .slice ja t.kids.length jc] 24)) hts ((NIn.shut hjc hjk).below hb9))
          have HB9 := Lib.hid hb9
          have kB2 := cell_kept kB rfl hb9
          have hsub : IntKind.i64.wrap (((m + 1 : Nat) : Int) - 1) = (m : Int) := by rw [IntWalk.i64_in _ (by omega)]; omega
          have hmm : m ≤ 64 := by omega
          clear hu hb9 hjk ih hk hn hb1 hb2 hT2 hW hts ht HB HD hz1
          show Calls _ _ #[_, .pointer (some ⟨w.heap.size + 1, 0, none⟩)] W _
          generalize w.heap.size + 1 = BB at *
          go_enter Tryz.func26, Tryz.ntmps26
          go_wp2_with fail
          refine HI.out.mono ?_
          rintro e w' ⟨rfl, hb⟩
          have HBB := Lib.hid (HB9.out.trans (hb.mono HB9.out.size))
          clear hb HI kB kB2
          go_wp2_with fail
          go_ret
          exact ⟨rfl, HBB.out⟩))
      have hmf : ∀ (fn : Fn) (first cap : Array Value) (w : World), (Instr.makeFunc fn first cap).run Tryz.prog w = .ok (.func fn first cap) w := fun _ _ _ _ => rfl
      have hm0 : (((m + 1 : Nat) : Int) == 0) = false := by simp only [beq_eq_false_iff_ne, ne_eq]; omega
      clear hb1 hk hn ih hz1 hT2 hb2 h0
      go_enter Tryz.func22, Tryz.ntmps22
      go_wp2_with fail
      refine HC.out.mono ?_
      rintro e w' ⟨rfl, hb⟩
      have HBB := Lib.hid (HB.out.trans (hb.mono HB.out.size))
      clear hb HC
      go_wp2_with fail
      go_ret
      exact ⟨by rw [HD.out]; rfl, HBB.out⟩
end Go.Proofs.YtkpddjbdmjbefaaGreatDoor
namespace Go.Proofs.YtkpddjbdmjbefaaGreatDoor
open Go.RowKit
variable {tk : Int → ByteArray → Bool} {O : ByteArray → Prop} {FAC : World → Prop}

set_option maxRecDepth 100000 in
theorem check_any (keepF : ∀ w w', FAC w → Below w.heap.size w w' → FAC w') (Htok : ∀ W, FAC W → ∀ k : Int, 3 ≤ k ∧ k ≤ 5 → Calls Tryz.prog 81 #[.int .i64 k] W fun e w' => ∃ v, e = .returned v ∧ NmV O w' v (tk k) ∧ Below W.heap.size W w')
    (f : Nat) (T : Nd) (nv : Value) (w : World) (HFA : FAC w) (hF : Fit O (f + 1) 0 T) (hn : NIn w TT T nv) : Calls Tryz.prog 9 #[nv] w fun e w' => e = .returned (.int .i64 (chk tk f T)) ∧ Below w.heap.size w w' := by
  obtain ⟨ia, ic, rfl, hcc, hk⟩ := hn.open
  have hb1 := alloc_below w (.cells #[.int .i64 T.kind, .int .i64 T.fro, .int .i64 T.till, .int .i64 T.at', .string T.name, .slice ia T.kids.length ic] 24)
  have hT := alloc_top w #[.int .i64 T.kind, .int .i64 T.fro, .int .i64 T.till, .int .i64 T.at', .string T.name, .slice ia T.kids.length ic] 24
  have HNI := Lib.hid (NIn.shut (n := T) hcc (hk.below hb1))
  have HDP : Hid (Calls Tryz.prog 22 #[_, .int .i64 64] _ _) := Lib.hid (isDeeper_any 64 (by omega) T _ _ (by have := hF.size; omega) HNI.out)
  have HIF := Lib.hid (fun (W : World) (hb : Below (w.alloc (.cells #[.int .i64 T.kind, .int .i64 T.fro, .int .i64 T.till, .int .i64 T.at', .string T.name, .slice ia T.kids.length ic] 24)).heap.size (w.alloc (.cells #[.int .i64 T.kind, .int .i64 T.fro, .int .i64 T.till, .int .i64 T.at', .string T.name, .slice ia T.kids.length ic] 24)) W) => isFile_all keepF Htok f T _ W (keepF _ _ (keepF _ _ HFA hb1) hb) hF (HNI.out.below hb))
  have HB := Lib.hid hb1
  have HT := Lib.hid hT
  have HCH : Hid (chk tk f T = if 64 < depth T then 3 else if fileB tk f T then 0 else 4) := Lib.hid rfl
  clear hb1 hT hk hn HNI hcc
  cases hq : decide (64 < depth T) with
  | true =>
    rw [hq] at HDP
    have HX : Hid (chk tk f T = 3) := Lib.hid (by rw [HCH.out, if_pos (by simpa using hq)])
    clear hq HCH
    go_enter Tryz.func9, Tryz.ntmps9
    go_wp2_with fail
    refine HDP.out.mono ?_
    rintro e w' ⟨rfl, hb⟩
    have HB2 := Lib.hid (HB.out.trans (hb.mono HB.out.size))
    clear hb HDP
    go_wp2_with fail
    go_ret
    exact ⟨by rw [HX.out]; rfl, HB2.out⟩
  | false =>
    rw [hq] at HDP
    cases hq2 : fileB tk f T with
    | true =>
      rw [hq2] at HIF
      have HX : Hid (chk tk f T = 0) := Lib.hid (by rw [HCH.out, if_neg (by simpa using hq), if_pos hq2])
      clear hq HCH hq2
      go_enter Tryz.func9, Tryz.ntmps9
      go_wp2_with fail
      refine HDP.out.mono ?_
      rintro e w' ⟨rfl, hb⟩
      obtain ⟨k0, k1, k2, k3, k4, k5⟩ := six_cells ((hb.block _ (Array.getElem?_eq_some_iff.1 HT.out).1).trans HT.out)
      have HB2 := Lib.hid (HB.out.trans (hb.mono HB.out.size))
      have HI := Lib.hid (HIF.out w' hb)
      clear hb HDP HIF
      go_wp2_with fail
      refine HI.out.mono ?_
      rintro e w2 ⟨rfl, hb⟩
      have HB3 := Lib.hid (HB2.out.trans (hb.mono HB2.out.size))
      clear hb HI k0 k1 k2 k3 k4 k5
      go_wp2_with fail
      go_ret
      exact ⟨by rw [HX.out]; rfl, HB3.out⟩
    | false =>
      rw [hq2] at HIF
      have HX : Hid (chk tk f T = 4) := Lib.hid (by rw [HCH.out, if_neg (by simpa using hq), if_neg (by simp [hq2])])
      clear hq HCH hq2
      go_enter Tryz.func9, Tryz.ntmps9
      go_wp2_with fail
      refine HDP.out.mono ?_
      rintro e w' ⟨rfl, hb⟩
      obtain ⟨k0, k1, k2, k3, k4, k5⟩ := six_cells ((hb.block _ (Array.getElem?_eq_some_iff.1 HT.out).1).trans HT.out)
      have HB2 := Lib.hid (HB.out.trans (hb.mono HB.out.size))
      have HI := Lib.hid (HIF.out w' hb)
      clear hb HDP HIF
      go_wp2_with fail
      refine HI.out.mono ?_
      rintro e w2 ⟨rfl, hb⟩
      have HB3 := Lib.hid (HB2.out.trans (hb.mono HB2.out.size))
      clear hb HI k0 k1 k2 k3 k4 k5
      go_wp2_with fail
      go_ret
      exact ⟨by rw [HX.out]; rfl, HB3.out⟩
theorem depthL_append : ∀ a b : List Nd, depthL (a ++ b) = max (depthL a) (depthL b)
  | [], b => by simp [depthL]
  | n :: a, b => by rw [List.cons_append, depthL, depthL, depthL_append a b]; omega
mutual
theorem depth_sz : ∀ T : Nd, depth T ≤ sz T
  | .mk k _ _ _ s l => by
    rw [depth, sz]
    have := depthL_sz l
    split <;> omega
theorem depthL_sz : ∀ l : List Nd, depthL l ≤ szL l
  | [] => by rw [depthL]; exact Nat.zero_le _
  | n :: l => by
    have h1 := depth_sz n
    have h2 := depthL_sz l
    rw [depthL, szL]
    omega
end
set_option maxRecDepth 100000 in
set_option maxHeartbeats 1000000 in
theorem depth_any : ∀ (f : Nat) (T : Nd) (nv : Value) (w : World), sz T ≤ f → sz T ≤ 1000000 → NIn w TT T nv → Calls Tryz.prog 8 #[nv] w fun e w' => e = .returned (.int .i64 (depth T : Int)) ∧ Below w.heap.size w w' := by
  intro f
  induction f with
  | zero => intro T _ _ h; have := sz_pos T; omega
  | succ f ih =>
    intro T nv w hf hsz hn
    obtain ⟨ia, ic, rfl, hcc, hk⟩ := hn.open
    have hkl : T.kids.length ≤ 1000000 := by have := szL_len T.kids; have := sz_eq T; omega
    have hb1 := alloc_below w (.cells #[.int .i64 T.kind, .int .i64 T.fro, .int .i64 T.till, .int .i64 T.at', .string T.name, .slice ia T.kids.length ic] 24)
    have HB := Lib.hid hb1
    have HKS := Lib.hid (hk.below hb1)
    have HIH := Lib.hid ih
    have HSZ := Lib.hid (And.intro hf hsz)
    have hdb := depthL_sz T.kids
    have hds := sz_eq T
    by_cases h0 : T.kind = 0
    · have HD : Hid (depth T = 0) := Lib.hid (by rw [depth_eq, if_pos h0])
      generalize T.kind = kd at *
      subst h0
      clear hb1 hk hn ih
      go_enter Tryz.func8, Tryz.ntmps8
      go_wp2_with fail
      go_ret
      exact ⟨by rw [HD.out]; rfl, HB.out⟩
    · have HD : Hid (depth T = depthL T.kids + 1) := Lib.hid (by rw [depth_eq, if_neg h0])
      have g0 : (T.kind == 0) = false := by simpa using h0
      have hdm : depthL T.kids ≤ 1000000 := by omega
      generalize hkn : T.kids.length = n at *
      have HKN := Lib.hid hkn
      clear hb1 hk hn ih h0 hkn hdb hds hcc hf hsz
      go_enter Tryz.func8, Tryz.ntmps8
      go_wp2_with fail
      generalize w.alloc (.cells #[.int .i64 T.kind, .int .i64 T.fro, .int .i64 T.till, .int .i64 T.at', .string T.name, .slice ia n ic] 24) = w1 at *
      go_loopg [3, 5, 12] n (fun gg s3 s5 s12 wr => ∃ (k d : Nat), k ≤ n ∧ n - k ≤ gg ∧ s12 = .int .i64 (k : Int) ∧ s3 = .int .i64 (d : Int) ∧ Aside (d = depthL (T.kids.take k)) ∧ Aside (Below w1.heap.size w1 wr) ∧ d ≤ 1000000)
      case atStart => exact ⟨0, 0, Nat.zero_le _, by omega, rfl, rfl, (by rw [List.take_zero, depthL]; exact rfl), Below.refl _ _, Nat.zero_le _⟩
      case round =>
        obtain ⟨k, d, hk, hg, rfl, rfl, HDD, BW, hd⟩ := hrel
        by_cases hlt : k < n
        · have hltz : (k : Int) < (n : Int) := by omega
          have hll : k < T.kids.length := by rw [HKN.out]; exact hlt
          obtain ⟨b, o, rfl, -, hrow⟩ := HKS.out (by omega)
          obtain ⟨t, ht⟩ : ∃ t, T.kids[k]? = some t := ⟨_, List.getElem?_eq_getElem hll⟩
          have hrow2 := NLn.keep (W' := wr) (Q := TT) (fun k _ hk => BW.out.block k hk) (fun _ hP _ => hP) b trivial _ _ hrow
          obtain ⟨ja, jc, d0, d1, d2, d3, d4, d5, hic, hkk2⟩ := hrow2.row ht
          have hba := alloc_below wr (.cells #[.int .i64 t.kind, .int .i64 t.fro, .int .i64 t.till, .int .i64 t.at', .string t.name, .slice ja t.kids.length jc] 24)
          have hts := sz_kid ht
          have htl := szL_at ht
          have hdt := depth_sz t
          have hsz := HSZ.out
          have hds := sz_eq T
          have HI := Lib.hid (HIH.out t _ _ (by omega) (by omega) ((NIn.shut hic hkk2).below hba))
          have HBA := Lib.hid (BW.out.trans (hba.mono BW.out.size))
          have HDN : Hid (max d (depth t) = depthL (T.kids.take (k + 1))) := Lib.hid (by
            obtain ⟨h1, rfl⟩ := List.getElem?_eq_some_iff.1 ht
            rw [List.take_succ_eq_append_getElem h1, depthL_append, ← HDD.out, depthL, depthL]
            omega)
          have hdn : depth t ≤ 1000000 := by omega
          have HKL := Lib.hid (And.intro hlt hg)
          generalize hdt2 : depth t = dt at *
          clear hrow hrow2 hic hkk2 hba hts htl hdt hsz hds HDD ht hll hg hdt2
          go_wp2_with fail
          refine HI.out.mono ?_
          rintro e w' ⟨rfl, hb⟩
          have HB2 := Lib.hid (HBA.out.trans (hb.mono HBA.out.size))
          clear hb HI
          by_cases hdd : d ≤ dt
          · have hm1 : max (d : Int) (dt : Int) = (dt : Int) := by omega
            have hm2 : max d dt = dt := by omega
            rw [hm2] at HDN
            clear hm2
            go_wp2_with fail
            go_roundg (n - (k + 1))
            case measure => have := HKL.out; omega
            case rel =>
              have h1 := HKL.out
              exact ⟨k + 1, dt, by omega, Nat.le_refl _, by go_num, by first | rfl | (rw [hm1]) | (congr 1; omega), HDN.out, HB2.out, by omega⟩
          · have hm1 : max (d : Int) (dt : Int) = (d : Int) := by omega
            have hm2 : max d dt = d := by omega
            rw [hm2] at HDN
            clear hm2
            go_wp2_with fail
            go_roundg (n - (k + 1))
            case measure => have := HKL.out; omega
            case rel =>
              have h1 := HKL.out
              exact ⟨k + 1, d, by omega, Nat.le_refl _, by go_num, by first | rfl | (rw [hm1]) | (congr 1; omega), HDN.out, HB2.out, by omega⟩
        · have hltz : ¬ (k : Int) < (n : Int) := by omega
          have hke : k = n := by omega
          subst hke
          have HX : Hid (depth T = d + 1) := Lib.hid (by rw [HD.out, HDD.out, ← HKN.out, List.take_length])
          clear HDD hg
          go_wp2_with fail
          go_ret
          refine ⟨?_, HB.out.trans (BW.out.mono HB.out.size)⟩
          rw [HX.out]
          congr 2
          try omega
end Go.Proofs.YtkpddjbdmjbefaaGreatDoor
namespace Go.Proofs.YtkpddjbdmjbefaaGreatDoor
open Go.RowKit

mutual
def sameN : Nd → Nd → Bool
  | .mk k _ _ _ s l, b => k == b.kind && decide (s = b.name) && sameL l b.kids
def sameL : List Nd → List Nd → Bool
  | [], [] => true
  | a :: l, b :: m => sameN a b && sameL l m
  | _, _ => false
end
theorem sameN_eq (a b : Nd) : sameN a b = (a.kind == b.kind && decide (a.name = b.name) && sameL a.kids b.kids) := by cases a; rw [sameN]; rfl
def allP (p : Nd → Nd → Bool) : List Nd → List Nd → Bool
  | [], [] => true
  | a :: l, b :: m => p a b && allP p l m
  | _, _ => false
theorem allP_same : ∀ l m : List Nd, allP sameN l m = sameL l m
  | [], [] => by rw [allP, sameL]
  | a :: l, b :: m => by rw [allP, sameL, allP_same l m]
  | [], _ :: _ => by rw [allP, sameL] <;> simp
  | _ :: _, [] => by rw [allP, sameL] <;> simp
theorem allP_len (p : Nd → Nd → Bool) : ∀ l m : List Nd, l.length ≠ m.length → allP p l m = false
  | [], [], h => absurd rfl h
  | a :: l, b :: m, h => by rw [allP, allP_len p l m (fun e => h (by simp [e]))]; simp
  | [], _ :: _, _ => rfl
  | _ :: _, [], _ => rfl
theorem drop_consN {l : List Nd} {k : Nat} {t : Nd} (h : l[k]? = some t) : l.drop k = t :: l.drop (k + 1) := by
  obtain ⟨h1, rfl⟩ := List.getElem?_eq_some_iff.1 h
  exact List.drop_eq_getElem_cons h1
set_option maxRecDepth 100000 in
set_option maxHeartbeats 2000000 in
theorem eqN_any (l m : List Nd) (A B : Option Addr) (c d : Nat) (hn : l.length ≤ 1000000) (hm : m.length ≤ 1000000) (p : Nd → Nd → Bool) (g : FuncId) (eg : Enters Tryz.prog g) (w : World) (hl : SIn w TT l A) (hM : SIn w TT m B)
    (hp : ∀ W, Below w.heap.size w W → ∀ (i : Nat) (a b : Nd), l[i]? = some a → m[i]? = some b → ∀ u v, NIn W TT a u → NIn W TT b v → Calls Tryz.prog g #[u, v] W fun e w' => e = .returned (.bool (p a b)) ∧ Below W.heap.size W w') :
    Calls Tryz.prog 21 #[.slice A l.length c, .slice B m.length d, .func (.func g) #[] #[]] w fun e w' => e = .returned (.bool (allP p l m)) ∧ Below w.heap.size w w' := by
  have eg' : ∀ (args : Array Value) (w : World), (callFunc g args).run Tryz.prog w = .ok (.enter g args) w := eg
  have HL := Lib.hid hl
  have HM := Lib.hid hM
  have HP := Lib.hid hp
  clear hl hM hp
  by_cases hne : l.length = m.length
  · have HMN := Lib.hid hne
    rw [← hne] at hm ⊢
    generalize hln : l.length = n at *
    have HLN := Lib.hid hln
    clear hln hne
    go_enter Tryz.func21, Tryz.ntmps21
    go_wp2_with fail
    go_loopg [7, 8, 9, 17] n (fun gg s7 s8 s9 s17 wr => ∃ kk : Nat, kk ≤ n ∧ n - kk ≤ gg ∧ s17 = .int .i64 kk ∧ Aside (Below w.heap.size w wr) ∧ Aside (allP p l m = allP p (l.drop kk) (m.drop kk)))
    case atStart => exact ⟨0, Nat.zero_le _, by omega, rfl, Below.refl _ w, rfl⟩
    case round =>
      obtain ⟨kk, hkk, hg, rfl, BW, AA⟩ := hrel
      by_cases hlt : kk < n
      · have hltz : (kk : Int) < (n : Int) := by omega
        obtain ⟨b, o, rfl, -, hrow⟩ := HL.out (by rw [HLN.out]; omega)
        obtain ⟨b', o', rfl, -, hrow'⟩ := HM.out (by have := HMN.out; have := HLN.out; omega)
        obtain ⟨t, ht⟩ : ∃ t, l[kk]? = some t := ⟨_, List.getElem?_eq_getElem (by rw [HLN.out]; exact hlt)⟩
        obtain ⟨s, hs⟩ : ∃ s, m[kk]? = some s := ⟨_, List.getElem?_eq_getElem (by have := HMN.out; have := HLN.out; omega)⟩
        have hrow2 := NLn.keep (W' := wr) (Q := TT) (fun k _ hk => BW.out.block k hk) (fun _ hP _ => hP) b trivial _ _ hrow
        have hrow2' := NLn.keep (W' := wr) (Q := TT) (fun k _ hk => BW.out.block k hk) (fun _ hP _ => hP) b' trivial _ _ hrow'
        obtain ⟨ia, ic, d0, d1, d2, d3, d4, d5, hic, hkk2⟩ := hrow2.row ht
        obtain ⟨ja, jc, e0, e1, e2, e3, e4, e5, hjc, hkk3⟩ := hrow2'.row hs
        have hb1 := alloc_below wr (.cells #[.int .i64 t.kind, .int .i64 t.fro, .int .i64 t.till, .int .i64 t.at', .string t.name, .slice ia t.kids.length ic] 24)
        have hb2 := hb1.trans ((alloc_below _ (.cells #[.int .i64 s.kind, .int .i64 s.fro, .int .i64 s.till, .int .i64 s.at', .string s.name, .slice ja s.kids.length jc] 24)).mono hb1.size)
        have HB2 := Lib.hid (BW.out.trans (hb2.mono BW.out.size))
        have HX := Lib.hid (HP.out _ HB2.out kk t s ht hs _ _ ((NIn.shut hic hkk2).below hb2) ((NIn.shut hjc hkk3).below hb2))
        have f0 := cell_kept e0 rfl hb1
        have f1 := cell_kept e1 rfl hb1
        have f2 := cell_kept e2 rfl hb1
        have f3 := cell_kept e3 rfl hb1
        have f4 := cell_kept e4 rfl hb1
        have f5 := cell_kept e5 rfl hb1
        have HKL := Lib.hid (And.intro hlt hg)
        have HAA : Hid (allP p l m = (p t s && allP p (l.drop (kk + 1)) (m.drop (kk + 1)))) := Lib.hid (by rw [AA.out, drop_consN ht, drop_consN hs, allP])
        clear hrow hrow' hrow2 hrow2' hic hkk2 hjc hkk3 hb1 hb2 ht hs hg e0 e1 e2 e3 e4 e5 AA
        cases hq : p t s with
        | true =>
          rw [hq] at HX HAA
          clear hq
          go_wp2_with (go_at_fn g; refine HX.out.mono ?_; rintro e w' ⟨rfl, hb'⟩)
          go_roundg (n - (kk + 1))
          case measure => have := HKL.out; omega
          case rel =>
            have h1 := HKL.out
            exact ⟨kk + 1, by omega, Nat.le_refl _, by go_num, HB2.out.trans (hb'.mono HB2.out.size), (by show Aside _; exact (by rw [HAA.out, Bool.true_and] : allP p l m = _))⟩
        | false =>
          rw [hq] at HX HAA
          clear hq
          go_wp2_with (go_at_fn g; refine HX.out.mono ?_; rintro e w' ⟨rfl, hb'⟩)
          go_ret
          exact ⟨by rw [HAA.out]; rfl, HB2.out.trans (hb'.mono HB2.out.size)⟩
      · have hltz : ¬ (kk : Int) < (n : Int) := by omega
        have hke : kk = n := by omega
        subst hke
        have HAA : Hid (allP p l m = true) := Lib.hid (by rw [AA.out, List.drop_of_length_le (by rw [HLN.out]; exact Nat.le_refl _), List.drop_of_length_le (by rw [← HMN.out]; exact Nat.le_refl _)]; rfl)
        clear AA
        go_wp2
        go_ret
        exact ⟨by rw [HAA.out]; rfl, BW.out⟩
  · have HF := Lib.hid (allP_len p l m hne)
    have hz : ((l.length : Int) != (m.length : Int)) = true := by simp only [bne_iff_ne, ne_eq]; omega
    clear hne
    generalize l.length = n at *
    generalize m.length = n2 at *
    go_enter Tryz.func21, Tryz.ntmps21
    go_wp2_with fail
    go_ret
    exact ⟨by rw [HF.out]; rfl, Below.refl _ _⟩
theorem names_b (a b : ByteArray) : (a.toList == b.toList) = decide (a = b) := by
  rw [Bool.eq_iff_iff, beq_iff_eq, decide_eq_true_eq]
  exact ⟨list_inj, fun h => by rw [h]⟩
set_option maxRecDepth 100000 in
set_option maxHeartbeats 2000000 in
theorem same_any : ∀ (f : Nat) (a b : Nd) (u v : Value) (w : World), sz a ≤ f → sz a ≤ 1000000 → sz b ≤ 1000000 → NIn w TT a u → NIn w TT b v →
    Calls Tryz.prog 7 #[u, v] w fun e w' => e = .returned (.bool (sameN a b)) ∧ Below w.heap.size w w' := by
  intro f
  induction f with
  | zero => intro a _ _ _ _ h; have := sz_pos a; omega
  | succ f ih =>
    intro a b u v w hf ha hb hu hv
    obtain ⟨ia, ic, rfl, hcc, hk⟩ := hu.open
    obtain ⟨ja, jc, rfl, hcj, hj⟩ := hv.open
    have hb1 := alloc_below w (.cells #[.int .i64 a.kind, .int .i64 a.fro, .int .i64 a.till, .int .i64 a.at', .string a.name, .slice ia a.kids.length ic] 24)
    have hb2 := hb1.trans ((alloc_below _ (.cells #[.int .i64 b.kind, .int .i64 b.fro, .int .i64 b.till, .int .i64 b.at', .string b.name, .slice ja b.kids.length jc] 24)).mono hb1.size)
    have HB := Lib.hid hb2
    have hal : a.kids.length ≤ 1000000 := by have := szL_len a.kids; have := sz_eq a; omega
    have hbl : b.kids.length ≤ 1000000 := by have := szL_len b.kids; have := sz_eq b; omega
    have HQ := Lib.hid (eqN_any a.kids b.kids ia ja ic jc hal hbl sameN 7 (enters_of Tryz.func7 (by kernel_rfl) rfl) _ (hk.below hb2) (hj.below hb2) (fun W hW i x y hx hy u' v' hu' hv' => by
      have h1 := sz_kid hx
      have h2 := sz_kid hy
      exact ih x y u' v' W (by omega) (by omega) (by omega) hu' hv'))
    have HS : Hid (sameN a b = (a.kind == b.kind && decide (a.name = b.name) && allP sameN a.kids b.kids)) := Lib.hid (by rw [allP_same, sameN_eq])
    clear hb1 hb2 hk hj hu hv ih
    cases h1 : (a.kind == b.kind) with
    | false =>
      have HX : Hid (sameN a b = false) := Lib.hid (by rw [HS.out, h1]; rfl)
      go_enter Tryz.func7, Tryz.ntmps7
      go_wp2_with fail
      go_ret
      exact ⟨by rw [HX.out]; rfl, HB.out⟩
    | true =>
      cases h2 : decide (a.name = b.name) with
      | false =>
        have HX : Hid (sameN a b = false) := Lib.hid (by rw [HS.out, h2]; simp)
        have h3 : (a.name.toList == b.name.toList) = false := by rw [names_b, h2]
        clear h2
        go_enter Tryz.func7, Tryz.ntmps7
        go_wp2_with fail
        go_ret
        exact ⟨by rw [HX.out]; rfl, HB.out⟩
      | true =>
        have HX : Hid (sameN a b = allP sameN a.kids b.kids) := Lib.hid (by rw [HS.out, h1, h2]; rfl)
        have h3 : (a.name.toList == b.name.toList) = true := by rw [names_b, h2]
        clear h2
        go_enter Tryz.func7, Tryz.ntmps7
        go_wp2_with fail
        refine HQ.out.mono ?_
        rintro e w' ⟨rfl, hb⟩
        have HB2 := Lib.hid (HB.out.trans (hb.mono HB.out.size))
        clear hb HQ
        go_wp2_with fail
        go_ret
        exact ⟨by rw [HX.out]; rfl, HB2.out⟩
end Go.Proofs.YtkpddjbdmjbefaaGreatDoor
