/-
  All of ast's shape functions, at every tree: what they tell is what the table says (shp). Conditions: those of FnV; what isToken tells (Htok). (Written by a program.)
  ast's Check, Depth: what they tell of each tree (chk, depth). slices.IndexFunc and ContainsFunc over trees. Conditions: at most 100000 nodes and bytes of names; what isToken tells (Htok).
  ast's Check, Depth, Same: what they tell of each tree (chk, depth, sameN). Conditions: at most 100000 nodes and bytes of names; what isToken tells (Htok).
  Which trees are the same, places aside (sameN); slices.EqualFunc over trees; ast's Same, emendref10's Same, Size; emendlaw10.few: what they tell. Conditions: at most 1000000 nodes and bytes of names, but for Size and few (names: less than 2^60 bytes).
  emendlaw10's small makers of trees: what they hand back, in new memory. (Written by a program.)
  emendlaw10's branch, body, may, no: what they hand back.
  emendlaw10's may, no: whether the grammar makes a body of one statement; the small trees of works. Conditions: what isToken tells (Htok); names that may be asked (O).
-/
import Derived.Test.YtcbfohokigamfaaGreatDoorNS1
import Derived.Test.YtcbfohokigamfaaGreatDoorNS2
import Derived.Test.YtcbfohokigamfaaGreatDoorNS3
import Derived.Test.YtcbfohokigamfaaGreatDoorNS4
import Derived.Test.YtcbfohokigamfaaGreatDoorNS5
import Derived.Test.YtcbfohokigamfaaGreatDoorNS6
import Derived.Test.YtcbfohokigamfaaGreatDoorNS7
import Derived.Test.YtcbfohokigamfaaGreatDoorNS8
import Derived.Test.YtcbfohokigamfaaGreatDoorNOk
namespace Go.Proofs.YtcbfohokigamfaaGreatDoor
open Go.RowKit
variable {tk : Int → ByteArray → Bool} {O : ByteArray → Prop} {FAC : World → Prop}
structure Tower (FAC : World → Prop) (tk : Int → ByteArray → Bool) (O : ByteArray → Prop) (f : Nat) : Prop where
  himp : SL FAC tk O f 84 .imp
  hdecl : SL FAC tk O f 85 .decl
  hparams : SL FAC tk O f 118 .params
  hty : SL FAC tk O f 114 .ty
  hbasic : SL FAC tk O f 142 .basic
  hown : SL FAC tk O f 115 .own
  hfar : SL FAC tk O f 143 .far
  hident : SL FAC tk O f 164 .ident
  hblock : SL FAC tk O f 119 .block
  hstmt : SL FAC tk O f 147 .stmt
  hvar : SL FAC tk O f 167 .var
  hiff : SL FAC tk O f 168 .iff
  hforr : SL FAC tk O f 169 .forr
  hexpr : SL FAC tk O f 170 .expr
  hdefine : SL FAC tk O f 171 .define
  hassign : SL FAC tk O f 172 .assign
  hpath : SL FAC tk O f 185 .path
  hcallS : SL FAC tk O f 173 .callS
  hcall : SL FAC tk O f 186 .call
  hoperand : SL FAC tk O f 199 .operand
  hsel : SL FAC tk O f 207 .sel
  hkeyed : SL FAC tk O f 208 .keyed
  hnothing : SL FAC tk O f 117 .nothing
  level1 : ∀ (k : Int) (B : Nat) (n : Nd) (nv : Value) (w : World), FAC w → Fit O f 3 n → NIn w TT n nv → w.cell? ⟨B, 0, none⟩ = some (.int .i64 k) → Calls Tryz.prog 196 #[nv, .pointer (some ⟨B, 0, none⟩)] w fun e w' => e = .returned (.bool (shp tk f (.level k) n)) ∧ Below w.heap.size w w'
theorem cl_zero {g : FuncId} {c : Sc} : CL FAC tk O 0 g c := fun n _ _ _ hF _ => by have := hF.fuel; have := sz_pos n; omega
theorem tower_zero (keepF : ∀ w w', FAC w → Below w.heap.size w w' → FAC w') : Tower FAC tk O 0 where
  himp := SL.of keepF (enters_of Tryz.func84 (by kernel_rfl) rfl) cl_zero
  hdecl := SL.of keepF (enters_of Tryz.func85 (by kernel_rfl) rfl) cl_zero
  hparams := SL.of keepF (enters_of Tryz.func118 (by kernel_rfl) rfl) cl_zero
  hty := SL.of keepF (enters_of Tryz.func114 (by kernel_rfl) rfl) cl_zero
  hbasic := SL.of keepF (enters_of Tryz.func142 (by kernel_rfl) rfl) cl_zero
  hown := SL.of keepF (enters_of Tryz.func115 (by kernel_rfl) rfl) cl_zero
  hfar := SL.of keepF (enters_of Tryz.func143 (by kernel_rfl) rfl) cl_zero
  hident := SL.of keepF (enters_of Tryz.func164 (by kernel_rfl) rfl) cl_zero
  hblock := SL.of keepF (enters_of Tryz.func119 (by kernel_rfl) rfl) cl_zero
  hstmt := SL.of keepF (enters_of Tryz.func147 (by kernel_rfl) rfl) cl_zero
  hvar := SL.of keepF (enters_of Tryz.func167 (by kernel_rfl) rfl) cl_zero
  hiff := SL.of keepF (enters_of Tryz.func168 (by kernel_rfl) rfl) cl_zero
  hforr := SL.of keepF (enters_of Tryz.func169 (by kernel_rfl) rfl) cl_zero
  hexpr := SL.of keepF (enters_of Tryz.func170 (by kernel_rfl) rfl) cl_zero
  hdefine := SL.of keepF (enters_of Tryz.func171 (by kernel_rfl) rfl) cl_zero
  hassign := SL.of keepF (enters_of Tryz.func172 (by kernel_rfl) rfl) cl_zero
  hpath := SL.of keepF (enters_of Tryz.func185 (by kernel_rfl) rfl) cl_zero
  hcallS := SL.of keepF (enters_of Tryz.func173 (by kernel_rfl) rfl) cl_zero
  hcall := SL.of keepF (enters_of Tryz.func186 (by kernel_rfl) rfl) cl_zero
  hoperand := SL.of keepF (enters_of Tryz.func199 (by kernel_rfl) rfl) cl_zero
  hsel := SL.of keepF (enters_of Tryz.func207 (by kernel_rfl) rfl) cl_zero
  hkeyed := SL.of keepF (enters_of Tryz.func208 (by kernel_rfl) rfl) cl_zero
  hnothing := SL.of keepF (enters_of Tryz.func117 (by kernel_rfl) rfl) cl_zero
  level1 := fun _ _ n _ _ _ hF _ _ => by have := hF.fuel; have := sz_pos n; omega
theorem tower_step (keepF : ∀ w w', FAC w → Below w.heap.size w w' → FAC w') (Htok : ∀ W, FAC W → ∀ k : Int, 3 ≤ k ∧ k ≤ 5 → Calls Tryz.prog 206 #[.int .i64 k] W fun e w' => ∃ v, e = .returned v ∧ NmV O w' v (tk k) ∧ Below W.heap.size W w')
    (f : Nat) (T : Tower FAC tk O f) (Tp : ∀ f', f = f' + 1 → Tower FAC tk O f') : Tower FAC tk O (f + 1) := by
  have HlevelS := level_s f T.level1 keepF
  have Hlevel : ∀ W, FAC W → ∀ k : Int, Calls Tryz.prog 184 #[.int .i64 k] W fun e w' => ∃ v, e = .returned v ∧ FnV (DD O f) w' v (shp tk f (.level k)) ∧ Below W.heap.size W w' := fun W hW k =>
    (HlevelS W hW k).mono (by rintro e w' ⟨v, he, hf, hb⟩; exact ⟨v, he, hf.sub (fun T hD => hD.fit (by omega)), hb⟩)
  have Htypedfalse := fun W hW k => typed_s (tk := tk) (O := O) f keepF false 114 (fun f' e => (Tp f' e).hty) W hW k
  have Htypedtrue := fun W hW k => typed_s (tk := tk) (O := O) f keepF true 115 (fun f' e => (Tp f' e).hown) W hW k
  have Hheadexpr := fun W hW => ofHead_s (tk := tk) (O := O) f keepF _ .expr (by intro e; cases e) (by intro k own e; cases e) T.hexpr W hW
  have Hheaddefine := fun W hW => ofHead_s (tk := tk) (O := O) f keepF _ .define (by intro e; cases e) (by intro k own e; cases e) T.hdefine W hW
  have Hheadassign := fun W hW => ofHead_s (tk := tk) (O := O) f keepF _ .assign (by intro e; cases e) (by intro k own e; cases e) T.hassign W hW
  have HheadcallS := fun W hW => ofHead_s (tk := tk) (O := O) f keepF _ .callS (by intro e; cases e) (by intro k own e; cases e) T.hcallS W hW
  exact {
    himp := SL.of keepF (enters_of Tryz.func84 (by kernel_rfl) rfl) (isImport_s f keepF )
    hdecl := SL.of keepF (enters_of Tryz.func85 (by kernel_rfl) rfl) (isDecl_s f keepF Htypedfalse Htypedtrue T.hnothing T.hparams T.hty T.hblock)
    hparams := SL.of keepF (enters_of Tryz.func118 (by kernel_rfl) rfl) (isParams_s f keepF Htypedfalse)
    hty := SL.of keepF (enters_of Tryz.func114 (by kernel_rfl) rfl) (isType_s f keepF T.hbasic T.hown T.hfar)
    hbasic := SL.of keepF (enters_of Tryz.func142 (by kernel_rfl) rfl) (isBasicType_s f keepF )
    hown := SL.of keepF (enters_of Tryz.func115 (by kernel_rfl) rfl) (isOwnType_s f keepF )
    hfar := SL.of keepF (enters_of Tryz.func143 (by kernel_rfl) rfl) (isFarType_s f keepF T.hident)
    hident := SL.of keepF (enters_of Tryz.func164 (by kernel_rfl) rfl) (isIdent_s f keepF )
    hblock := SL.of keepF (enters_of Tryz.func119 (by kernel_rfl) rfl) (isBlock_s f keepF T.hstmt)
    hstmt := SL.of keepF (enters_of Tryz.func147 (by kernel_rfl) rfl) (isStmt_s f keepF T.hvar T.hblock T.hiff T.hforr T.hexpr T.hdefine T.hassign T.hcallS)
    hvar := SL.of keepF (enters_of Tryz.func167 (by kernel_rfl) rfl) (isVar_s f keepF T.hty T.hnothing T.hexpr)
    hiff := SL.of keepF (enters_of Tryz.func168 (by kernel_rfl) rfl) (isIf_s f keepF Hheadexpr T.hblock T.hnothing T.hiff)
    hforr := SL.of keepF (enters_of Tryz.func169 (by kernel_rfl) rfl) (isFor_s f keepF Hheaddefine Hheadassign HheadcallS Hheadexpr T.hnothing T.hblock)
    hexpr := SL.of keepF (enters_of Tryz.func170 (by kernel_rfl) rfl) (isExpr_s f keepF HlevelS)
    hdefine := SL.of keepF (enters_of Tryz.func171 (by kernel_rfl) rfl) (isDefine_s f keepF T.hexpr)
    hassign := SL.of keepF (enters_of Tryz.func172 (by kernel_rfl) rfl) (isAssign_s f keepF T.hpath T.hexpr)
    hpath := SL.of keepF (enters_of Tryz.func185 (by kernel_rfl) rfl) (isPath_s f keepF T.hident T.hpath)
    hcallS := SL.of keepF (enters_of Tryz.func173 (by kernel_rfl) rfl) (isCallStmt_s f keepF T.hcall)
    hcall := SL.of keepF (enters_of Tryz.func186 (by kernel_rfl) rfl) (isCall_s f keepF T.hexpr)
    hoperand := SL.of keepF (enters_of Tryz.func199 (by kernel_rfl) rfl) (isOperand_s f keepF Htok T.hident T.hexpr T.hsel T.hown T.hfar T.hkeyed)
    hsel := SL.of keepF (enters_of Tryz.func207 (by kernel_rfl) rfl) (isSel_s f keepF Hlevel)
    hkeyed := SL.of keepF (enters_of Tryz.func208 (by kernel_rfl) rfl) (isKeyed_s f keepF T.hexpr)
    hnothing := SL.of keepF (enters_of Tryz.func117 (by kernel_rfl) rfl) (isNothing_s f keepF )
    level1 := fun k B n nv w hW hF hn hB => level1_s f keepF Hlevel T.hoperand k B n nv w hW hF hn hB }
theorem tower_all (keepF : ∀ w w', FAC w → Below w.heap.size w w' → FAC w') (Htok : ∀ W, FAC W → ∀ k : Int, 3 ≤ k ∧ k ≤ 5 → Calls Tryz.prog 206 #[.int .i64 k] W fun e w' => ∃ v, e = .returned v ∧ NmV O w' v (tk k) ∧ Below W.heap.size W w') :
    ∀ f, Tower FAC tk O f ∧ Tower FAC tk O (f + 1)
  | 0 => ⟨tower_zero keepF, tower_step keepF Htok 0 (tower_zero keepF) (fun f' e => by cases e)⟩
  | f + 1 => by
    obtain ⟨h1, h2⟩ := tower_all keepF Htok f
    exact ⟨h2, tower_step keepF Htok (f + 1) h2 (fun f' e => by cases e; exact h1)⟩
/-- isFile. -/
theorem isFile_all (keepF : ∀ w w', FAC w → Below w.heap.size w w' → FAC w') (Htok : ∀ W, FAC W → ∀ k : Int, 3 ≤ k ∧ k ≤ 5 → Calls Tryz.prog 206 #[.int .i64 k] W fun e w' => ∃ v, e = .returned v ∧ NmV O w' v (tk k) ∧ Below W.heap.size W w')
    (f : Nat) (n : Nd) (nv : Value) (w : World) (HFA0 : FAC w) (hF : Fit O (f + 1) 0 n) (hn : NIn w TT n nv) : Calls Tryz.prog 53 #[nv] w fun e w' => e = .returned (.bool (fileB tk f n)) ∧ Below w.heap.size w w' :=
  isFile_s f keepF (tower_all keepF Htok f).1.himp (tower_all keepF Htok f).1.hdecl n nv w HFA0 hF hn
end Go.Proofs.YtcbfohokigamfaaGreatDoor
namespace Go.Proofs.YtcbfohokigamfaaGreatDoor
open Go.RowKit

/-- A function value that tells of each tree of a row, in every world behind. -/
def TellN (w : World) (l : List Nd) (g : FuncId) (cap : Array Value) (p : Nd → Bool) : Prop := ∀ W, Below w.heap.size w W → ∀ t ∈ l, ∀ u, NIn W TT t u → Calls Tryz.prog g (#[u] ++ cap) W fun e w' => e = .returned (.bool (p t)) ∧ Below W.heap.size W w'
def FirstN (p : Nd → Bool) (l : List Nd) (r : Int) : Prop := (r = -1 ∧ ∀ t ∈ l, p t = false) ∨ ∃ k t, r = (k : Nat) ∧ l[k]? = some t ∧ p t = true ∧ ∀ j, j < k → ∀ s, l[j]? = some s → p s = false
set_option maxRecDepth 100000 in
set_option maxHeartbeats 1000000 in
theorem idxN_any (l : List Nd) (A : Option Addr) (c : Nat) (hn : l.length ≤ 1000000) (p : Nd → Bool) (g : FuncId) (cap : Array Value) (eg : Enters Tryz.prog g) (w : World) (hs : SIn w TT l A) (hp : TellN w l g cap p) :
    Calls Tryz.prog 61 #[.slice A l.length c, .func (.func g) #[] cap] w fun e w' => ∃ r, e = .returned (.int .i64 r) ∧ FirstN p l r ∧ Below w.heap.size w w' := by
  have eg' : ∀ (args : Array Value) (w : World), (callFunc g args).run Tryz.prog w = .ok (.enter g args) w := eg
  have HS := Lib.hid hs
  have HP := Lib.hid hp
  clear hs hp
  generalize hln : l.length = n at *
  have HLN := Lib.hid hln
  clear hln
  go_enter Tryz.func61, Tryz.ntmps61
  go_wp2_with fail
  go_loopg [5, 8] n (fun gg _ s8 wr => ∃ kk : Nat, kk ≤ n ∧ n - kk ≤ gg ∧ s8 = .int .i64 kk ∧ Aside (Below w.heap.size w wr) ∧ Aside (∀ j, j < kk → ∀ s, l[j]? = some s → p s = false))
  case atStart => exact ⟨0, Nat.zero_le _, by omega, rfl, Below.refl _ w, fun j hj => absurd hj (Nat.not_lt_zero _)⟩
  case round =>
    obtain ⟨kk, hkk, hg, rfl, BW, AA⟩ := hrel
    by_cases hlt : kk < n
    · have hltz : (kk : Int) < (n : Int) := by omega
      have hll : kk < l.length := by rw [HLN.out]; exact hlt
      obtain ⟨b, o, rfl, -, hrow⟩ := HS.out (by omega)
      obtain ⟨t, ht⟩ : ∃ t, l[kk]? = some t := ⟨_, List.getElem?_eq_getElem hll⟩
      have hrow2 := NLn.keep (W' := wr) (Q := TT) (fun k _ hk => BW.out.block k hk) (fun _ hP _ => hP) b trivial _ _ hrow
      obtain ⟨ia, ic, d0, d1, d2, d3, d4, d5, hic, hkk2⟩ := hrow2.row ht
      have HX := Lib.hid (HP.out wr BW.out t (List.mem_of_getElem? ht) _ (NIn.shut hic hkk2))
      have HKL := Lib.hid (And.intro hlt hg)
      have HTT := Lib.hid ht
      clear hrow hrow2 hic hkk2 ht hll hg
      cases hq : p t with
      | true =>
        have HQ := Lib.hid hq
        rw [hq] at HX
        clear hq
        go_wp2_with (go_at_fn g; refine HX.out.mono ?_; rintro e w' ⟨rfl, hb'⟩)
        go_ret
        exact ⟨_, rfl, .inr ⟨kk, t, rfl, HTT.out, HQ.out, AA.out⟩, BW.out.trans (hb'.mono BW.out.size)⟩
      | false =>
        have HQ := Lib.hid hq
        rw [hq] at HX
        clear hq
        go_wp2_with (go_at_fn g; refine HX.out.mono ?_; rintro e w' ⟨rfl, hb'⟩)
        go_roundg (n - (kk + 1))
        case measure => have := HKL.out; omega
        case rel =>
          have h1 := HKL.out
          refine ⟨kk + 1, by omega, Nat.le_refl _, by go_num, BW.out.trans (hb'.mono BW.out.size), (show Aside _ from fun j hj s hs => ?_)⟩
          by_cases e : j = kk
          · subst e
            rw [HTT.out] at hs
            injection hs with hs
            rw [← hs]; exact HQ.out
          · exact AA.out j (by omega) s hs
    · have hltz : ¬ (kk : Int) < (n : Int) := by omega
      have : kk = n := by omega
      subst this
      go_wp2
      go_ret
      refine ⟨_, rfl, .inl ⟨rfl, fun t ht => ?_⟩, BW.out⟩
      obtain ⟨i, hi, rfl⟩ := List.getElem_of_mem ht
      exact AA.out i (by rw [← HLN.out]; exact hi) _ (List.getElem?_eq_getElem hi)
set_option maxRecDepth 100000 in
theorem contN_any (l : List Nd) (A : Option Addr) (c : Nat) (hn : l.length ≤ 1000000) (p : Nd → Bool) (g : FuncId) (cap : Array Value) (eg : Enters Tryz.prog g) (w : World) (hs : SIn w TT l A) (hp : TellN w l g cap p) :
    Calls Tryz.prog 80 #[.slice A l.length c, .func (.func g) #[] cap] w fun e w' => e = .returned (.bool (l.any p)) ∧ Below w.heap.size w w' := by
  have HC := Lib.hid (idxN_any l A c hn p g cap eg w hs hp)
  clear hs hp
  go_enter Tryz.func80, Tryz.ntmps80
  go_wp2_with fail
  refine HC.out.mono ?_
  rintro e w' ⟨r, rfl, hr, hb⟩
  have HB := Lib.hid hb
  clear hb
  rcases hr with ⟨rfl, h⟩ | ⟨k, t, rfl, ht, h1, h2⟩
  · have E1 : Hid (l.any p = false) := Lib.hid (by
      rw [List.any_eq_false]
      intro t ht
      rw [h t ht]; simp)
    clear h
    go_wp2_with fail
    go_ret
    exact ⟨by rw [E1.out]; rfl, HB.out⟩
  · have E1 : Hid (l.any p = true) := Lib.hid (by
      rw [List.any_eq_true]
      exact ⟨t, List.mem_of_getElem? ht, h1⟩)
    have h0 : (0 : Int) ≤ (k : Int) := by omega
    clear h1 h2 ht
    go_wp2_with fail
    go_ret
    exact ⟨by rw [E1.out]; rfl, HB.out⟩
theorem depth_eq (T : Nd) : depth T = if T.kind = 0 then 0 else depthL T.kids + 1 := by cases T; rw [depth]; rfl
theorem depthL_any (m : Nat) : ∀ l : List Nd, l.any (fun t => decide (m < depth t)) = decide (m < depthL l)
  | [] => by simp [depthL]
  | t :: l => by
    rw [List.any_cons, depthL_any m l, depthL, Bool.eq_iff_iff]
    simp only [Bool.or_eq_true, decide_eq_true_eq]
    omega
set_option maxRecDepth 100000 in
set_option maxHeartbeats 1000000 in
theorem isDeeper_any : ∀ (m : Nat), m ≤ 64 → ∀ (T : Nd) (nv : Value) (w : World), sz T ≤ 1000000 → NIn w TT T nv →
    Calls Tryz.prog 52 #[nv, .int .i64 (m : Int)] w fun e w' => e = .returned (.bool (decide (m < depth T))) ∧ Below w.heap.size w w' := by
  intro m
  induction m with
  | zero =>
    intro hm T nv w hsz hn
    obtain ⟨ia, ic, rfl, hcc, hk⟩ := hn.open
    have hb1 := alloc_below w (.cells #[.int .i64 T.kind, .int .i64 T.fro, .int .i64 T.till, .int .i64 T.at', .string T.name, .slice ia T.kids.length ic] 24)
    have HB := Lib.hid (hb1.trans ((alloc_below _ (.cells #[.int .i64 0] 3)).mono hb1.size))
    by_cases h0 : T.kind = 0
    · have HD : Hid (decide (0 < depth T) = false) := Lib.hid (by rw [depth_eq, if_pos h0]; rfl)
      generalize T.kind = kd at *
      subst h0
      clear hb1 hk hn
      go_enter Tryz.func52, Tryz.ntmps52
      go_wp2_with fail
      go_ret
      exact ⟨by rw [HD.out]; rfl, HB.out⟩
    · have HD : Hid (decide (0 < depth T) = true) := Lib.hid (by rw [depth_eq, if_neg h0]; simp)
      have g0 : (T.kind == 0) = false := by simpa using h0
      clear hb1 hk hn h0
      go_enter Tryz.func52, Tryz.ntmps52
      go_wp2_with fail
      go_ret
      exact ⟨by rw [HD.out]; rfl, HB.out⟩
  | succ m ih =>
    intro hm T nv w hsz hn
    obtain ⟨ia, ic, rfl, hcc, hk⟩ := hn.open
    have hkl : T.kids.length ≤ 1000000 := by have := szL_len T.kids; have := sz_eq T; omega
    have hb1 := alloc_below w (.cells #[.int .i64 T.kind, .int .i64 T.fro, .int .i64 T.till, .int .i64 T.at', .string T.name, .slice ia T.kids.length ic] 24)
    have hz1 : (w.alloc (.cells #[.int .i64 T.kind, .int .i64 T.fro, .int .i64 T.till, .int .i64 T.at', .string T.name, .slice ia T.kids.length ic] 24)).heap.size = w.heap.size + 1 := World.size_alloc ..
    have hT2 := alloc_top (w.alloc (.cells #[.int .i64 T.kind, .int .i64 T.fro, .int .i64 T.till, .int .i64 T.at', .string T.name, .slice ia T.kids.length ic] 24)) #[.int .i64 ((m + 1 : Nat) : Int)] 3
    rw [hz1] at hT2
    have hb2 := hb1.trans ((alloc_below _ (.cells #[.int .i64 ((m + 1 : Nat) : Int)] 3)).mono hb1.size)
    have HB := Lib.hid hb2
    by_cases h0 : T.kind = 0
    · have HD : Hid (decide (m + 1 < depth T) = false) := Lib.hid (by rw [depth_eq, if_pos h0]; simp)
      generalize T.kind = kd at *
      subst h0
      clear hb1 hk hn ih hz1 hT2 hb2
      go_enter Tryz.func52, Tryz.ntmps52
      go_wp2_with fail
      go_ret
      exact ⟨by rw [HD.out]; rfl, HB.out⟩
    · have HD : Hid (decide (m + 1 < depth T) = T.kids.any (fun t => decide (m < depth t))) := Lib.hid (by
        rw [depth_eq, if_neg h0, depthL_any]
        simp)
      have g0 : (T.kind == 0) = false := by simpa using h0
      have HC : Hid (Calls Tryz.prog 80 #[.slice ia T.kids.length ic, .func (.func 81) #[] #[.pointer (some ⟨w.heap.size + 1, 0, none⟩)]] ((w.alloc (.cells #[.int .i64 T.kind, .int .i64 T.fro, .int .i64 T.till, .int .i64 T.at', .string T.name, .slice ia T.kids.length ic] 24)).alloc (.cells #[.int .i64 ((m + 1 : Nat) : Int)] 3)) _) :=
        Lib.hid (contN_any T.kids ia ic hkl (fun t => decide (m < depth t)) 81 #[.pointer (some ⟨w.heap.size + 1, 0, none⟩)] (enters_of Tryz.func81 (by kernel_rfl) rfl) _ (hk.below hb2) (by
          intro W hW t ht u hu
          have hts : sz t ≤ 1000000 := by
            obtain ⟨i, hi, e⟩ := List.getElem_of_mem ht
            have := sz_kid (n := T) (m := t) (i := i) (by rw [List.getElem?_eq_getElem hi, e])
            omega
          have kB : W.cell? ⟨w.heap.size + 1, 0, none⟩ = some (.int .i64 ((m + 1 : Nat) : Int)) := cell_kept (by unfold World.cell?; simp only [hT2]; rfl) rfl hW
          obtain ⟨ja, jc, rfl, hjc, hjk⟩ := hu.open
          have hb9 := alloc_below W (.cells #[.int .i64 t.kind, .int .i64 t.fro, .int .i64 t.till, .int .i64 t.at', .string t.name, .slice ja t.kids.length jc] 24)
          have HI := Lib.hid (ih (by omega) t (.agg #[.int .i64 t.kind, .int .i64 t.fro, .int .i64 t.till, .int .i64 t.at', .string t.name, .slice ja t.kids.length jc]) (W.alloc (.cells #[.int .i64 t.kind, .int .i64 t.fro, .int .i64 t.till, .int .i64 t.at', .string t.name, .slice ja t.kids.length jc] 24)) hts ((NIn.shut hjc hjk).below hb9))
          have HB9 := Lib.hid hb9
          have kB2 := cell_kept kB rfl hb9
          have hsub : IntKind.i64.wrap (((m + 1 : Nat) : Int) - 1) = (m : Int) := by rw [IntWalk.i64_in _ (by omega)]; omega
          have hmm : m ≤ 64 := by omega
          clear hu hb9 hjk ih hk hn hb1 hb2 hT2 hW hts ht HB HD hz1
          show Calls _ _ #[_, .pointer (some ⟨w.heap.size + 1, 0, none⟩)] W _
          generalize w.heap.size + 1 = BB at *
          go_enter Tryz.func81, Tryz.ntmps81
          go_wp2_with fail
          refine HI.out.mono ?_
          rintro e w' ⟨rfl, hb⟩
          have HBB := Lib.hid (HB9.out.trans (hb.mono HB9.out.size))
          clear hb HI kB kB2
          go_wp2_with fail
          go_ret
          exact ⟨rfl, HBB.out⟩))
      have hmf : ∀ (fn : Fn) (first cap : Array Value) (w : World), (Instr.makeFunc fn first cap).run Tryz.prog w = .ok (.func fn first cap) w := fun _ _ _ _ => rfl
      have hm0 : (((m + 1 : Nat) : Int) == 0) = false := by simp only [beq_eq_false_iff_ne, ne_eq]; omega
      clear hb1 hk hn ih hz1 hT2 hb2 h0
      go_enter Tryz.func52, Tryz.ntmps52
      go_wp2_with fail
      refine HC.out.mono ?_
      rintro e w' ⟨rfl, hb⟩
      have HBB := Lib.hid (HB.out.trans (hb.mono HB.out.size))
      clear hb HC
      go_wp2_with fail
      go_ret
      exact ⟨by rw [HD.out]; rfl, HBB.out⟩
end Go.Proofs.YtcbfohokigamfaaGreatDoor
namespace Go.Proofs.YtcbfohokigamfaaGreatDoor
open Go.RowKit
variable {tk : Int → ByteArray → Bool} {O : ByteArray → Prop} {FAC : World → Prop}

set_option maxRecDepth 100000 in
theorem check_any (keepF : ∀ w w', FAC w → Below w.heap.size w w' → FAC w') (Htok : ∀ W, FAC W → ∀ k : Int, 3 ≤ k ∧ k ≤ 5 → Calls Tryz.prog 206 #[.int .i64 k] W fun e w' => ∃ v, e = .returned v ∧ NmV O w' v (tk k) ∧ Below W.heap.size W w')
    (f : Nat) (T : Nd) (nv : Value) (w : World) (HFA : FAC w) (hF : Fit O (f + 1) 0 T) (hn : NIn w TT T nv) : Calls Tryz.prog 16 #[nv] w fun e w' => e = .returned (.int .i64 (chk tk f T)) ∧ Below w.heap.size w w' := by
  obtain ⟨ia, ic, rfl, hcc, hk⟩ := hn.open
  have hb1 := alloc_below w (.cells #[.int .i64 T.kind, .int .i64 T.fro, .int .i64 T.till, .int .i64 T.at', .string T.name, .slice ia T.kids.length ic] 24)
  have hT := alloc_top w #[.int .i64 T.kind, .int .i64 T.fro, .int .i64 T.till, .int .i64 T.at', .string T.name, .slice ia T.kids.length ic] 24
  have HNI := Lib.hid (NIn.shut (n := T) hcc (hk.below hb1))
  have HDP : Hid (Calls Tryz.prog 52 #[_, .int .i64 64] _ _) := Lib.hid (isDeeper_any 64 (by omega) T _ _ (by have := hF.size; omega) HNI.out)
  have HIF := Lib.hid (fun (W : World) (hb : Below (w.alloc (.cells #[.int .i64 T.kind, .int .i64 T.fro, .int .i64 T.till, .int .i64 T.at', .string T.name, .slice ia T.kids.length ic] 24)).heap.size (w.alloc (.cells #[.int .i64 T.kind, .int .i64 T.fro, .int .i64 T.till, .int .i64 T.at', .string T.name, .slice ia T.kids.length ic] 24)) W) => isFile_all keepF Htok f T _ W (keepF _ _ (keepF _ _ HFA hb1) hb) hF (HNI.out.below hb))
  have HB := Lib.hid hb1
  have HT := Lib.hid hT
  have HCH : Hid (chk tk f T = if 64 < depth T then 3 else if fileB tk f T then 0 else 4) := Lib.hid rfl
  clear hb1 hT hk hn HNI hcc
  cases hq : decide (64 < depth T) with
  | true =>
    rw [hq] at HDP
    have HX : Hid (chk tk f T = 3) := Lib.hid (by rw [HCH.out, if_pos (by simpa using hq)])
    clear hq HCH
    go_enter Tryz.func16, Tryz.ntmps16
    go_wp2_with fail
    refine HDP.out.mono ?_
    rintro e w' ⟨rfl, hb⟩
    have HB2 := Lib.hid (HB.out.trans (hb.mono HB.out.size))
    clear hb HDP
    go_wp2_with fail
    go_ret
    exact ⟨by rw [HX.out]; rfl, HB2.out⟩
  | false =>
    rw [hq] at HDP
    cases hq2 : fileB tk f T with
    | true =>
      rw [hq2] at HIF
      have HX : Hid (chk tk f T = 0) := Lib.hid (by rw [HCH.out, if_neg (by simpa using hq), if_pos hq2])
      clear hq HCH hq2
      go_enter Tryz.func16, Tryz.ntmps16
      go_wp2_with fail
      refine HDP.out.mono ?_
      rintro e w' ⟨rfl, hb⟩
      obtain ⟨k0, k1, k2, k3, k4, k5⟩ := six_cells ((hb.block _ (Array.getElem?_eq_some_iff.1 HT.out).1).trans HT.out)
      have HB2 := Lib.hid (HB.out.trans (hb.mono HB.out.size))
      have HI := Lib.hid (HIF.out w' hb)
      clear hb HDP HIF
      go_wp2_with fail
      refine HI.out.mono ?_
      rintro e w2 ⟨rfl, hb⟩
      have HB3 := Lib.hid (HB2.out.trans (hb.mono HB2.out.size))
      clear hb HI k0 k1 k2 k3 k4 k5
      go_wp2_with fail
      go_ret
      exact ⟨by rw [HX.out]; rfl, HB3.out⟩
    | false =>
      rw [hq2] at HIF
      have HX : Hid (chk tk f T = 4) := Lib.hid (by rw [HCH.out, if_neg (by simpa using hq), if_neg (by simp [hq2])])
      clear hq HCH hq2
      go_enter Tryz.func16, Tryz.ntmps16
      go_wp2_with fail
      refine HDP.out.mono ?_
      rintro e w' ⟨rfl, hb⟩
      obtain ⟨k0, k1, k2, k3, k4, k5⟩ := six_cells ((hb.block _ (Array.getElem?_eq_some_iff.1 HT.out).1).trans HT.out)
      have HB2 := Lib.hid (HB.out.trans (hb.mono HB.out.size))
      have HI := Lib.hid (HIF.out w' hb)
      clear hb HDP HIF
      go_wp2_with fail
      refine HI.out.mono ?_
      rintro e w2 ⟨rfl, hb⟩
      have HB3 := Lib.hid (HB2.out.trans (hb.mono HB2.out.size))
      clear hb HI k0 k1 k2 k3 k4 k5
      go_wp2_with fail
      go_ret
      exact ⟨by rw [HX.out]; rfl, HB3.out⟩
theorem depthL_append : ∀ a b : List Nd, depthL (a ++ b) = max (depthL a) (depthL b)
  | [], b => by simp [depthL]
  | n :: a, b => by rw [List.cons_append, depthL, depthL, depthL_append a b]; omega
mutual
theorem depth_sz : ∀ T : Nd, depth T ≤ sz T
  | .mk k _ _ _ s l => by
    rw [depth, sz]
    have := depthL_sz l
    split <;> omega
theorem depthL_sz : ∀ l : List Nd, depthL l ≤ szL l
  | [] => by rw [depthL]; exact Nat.zero_le _
  | n :: l => by
    have h1 := depth_sz n
    have h2 := depthL_sz l
    rw [depthL, szL]
    omega
end
set_option maxRecDepth 100000 in
set_option maxHeartbeats 1000000 in
theorem depth_any : ∀ (f : Nat) (T : Nd) (nv : Value) (w : World), sz T ≤ f → sz T ≤ 1000000 → NIn w TT T nv → Calls Tryz.prog 17 #[nv] w fun e w' => e = .returned (.int .i64 (depth T : Int)) ∧ Below w.heap.size w w' := by
  intro f
  induction f with
  | zero => intro T _ _ h; have := sz_pos T; omega
  | succ f ih =>
    intro T nv w hf hsz hn
    obtain ⟨ia, ic, rfl, hcc, hk⟩ := hn.open
    have hkl : T.kids.length ≤ 1000000 := by have := szL_len T.kids; have := sz_eq T; omega
    have hb1 := alloc_below w (.cells #[.int .i64 T.kind, .int .i64 T.fro, .int .i64 T.till, .int .i64 T.at', .string T.name, .slice ia T.kids.length ic] 24)
    have HB := Lib.hid hb1
    have HKS := Lib.hid (hk.below hb1)
    have HIH := Lib.hid ih
    have HSZ := Lib.hid (And.intro hf hsz)
    have hdb := depthL_sz T.kids
    have hds := sz_eq T
    by_cases h0 : T.kind = 0
    · have HD : Hid (depth T = 0) := Lib.hid (by rw [depth_eq, if_pos h0])
      generalize T.kind = kd at *
      subst h0
      clear hb1 hk hn ih
      go_enter Tryz.func17, Tryz.ntmps17
      go_wp2_with fail
      go_ret
      exact ⟨by rw [HD.out]; rfl, HB.out⟩
    · have HD : Hid (depth T = depthL T.kids + 1) := Lib.hid (by rw [depth_eq, if_neg h0])
      have g0 : (T.kind == 0) = false := by simpa using h0
      have hdm : depthL T.kids ≤ 1000000 := by omega
      generalize hkn : T.kids.length = n at *
      have HKN := Lib.hid hkn
      clear hb1 hk hn ih h0 hkn hdb hds hcc hf hsz
      go_enter Tryz.func17, Tryz.ntmps17
      go_wp2_with fail
      generalize w.alloc (.cells #[.int .i64 T.kind, .int .i64 T.fro, .int .i64 T.till, .int .i64 T.at', .string T.name, .slice ia n ic] 24) = w1 at *
      go_loopg [3, 5, 12] n (fun gg s3 s5 s12 wr => ∃ (k d : Nat), k ≤ n ∧ n - k ≤ gg ∧ s12 = .int .i64 (k : Int) ∧ s3 = .int .i64 (d : Int) ∧ Aside (d = depthL (T.kids.take k)) ∧ Aside (Below w1.heap.size w1 wr) ∧ d ≤ 1000000)
      case atStart => exact ⟨0, 0, Nat.zero_le _, by omega, rfl, rfl, (by rw [List.take_zero, depthL]; exact rfl), Below.refl _ _, Nat.zero_le _⟩
      case round =>
        obtain ⟨k, d, hk, hg, rfl, rfl, HDD, BW, hd⟩ := hrel
        by_cases hlt : k < n
        · have hltz : (k : Int) < (n : Int) := by omega
          have hll : k < T.kids.length := by rw [HKN.out]; exact hlt
          obtain ⟨b, o, rfl, -, hrow⟩ := HKS.out (by omega)
          obtain ⟨t, ht⟩ : ∃ t, T.kids[k]? = some t := ⟨_, List.getElem?_eq_getElem hll⟩
          have hrow2 := NLn.keep (W' := wr) (Q := TT) (fun k _ hk => BW.out.block k hk) (fun _ hP _ => hP) b trivial _ _ hrow
          obtain ⟨ja, jc, d0, d1, d2, d3, d4, d5, hic, hkk2⟩ := hrow2.row ht
          have hba := alloc_below wr (.cells #[.int .i64 t.kind, .int .i64 t.fro, .int .i64 t.till, .int .i64 t.at', .string t.name, .slice ja t.kids.length jc] 24)
          have hts := sz_kid ht
          have htl := szL_at ht
          have hdt := depth_sz t
          have hsz := HSZ.out
          have hds := sz_eq T
          have HI := Lib.hid (HIH.out t _ _ (by omega) (by omega) ((NIn.shut hic hkk2).below hba))
          have HBA := Lib.hid (BW.out.trans (hba.mono BW.out.size))
          have HDN : Hid (max d (depth t) = depthL (T.kids.take (k + 1))) := Lib.hid (by
            obtain ⟨h1, rfl⟩ := List.getElem?_eq_some_iff.1 ht
            rw [List.take_succ_eq_append_getElem h1, depthL_append, ← HDD.out, depthL, depthL]
            omega)
          have hdn : depth t ≤ 1000000 := by omega
          have HKL := Lib.hid (And.intro hlt hg)
          generalize hdt2 : depth t = dt at *
          clear hrow hrow2 hic hkk2 hba hts htl hdt hsz hds HDD ht hll hg hdt2
          go_wp2_with fail
          refine HI.out.mono ?_
          rintro e w' ⟨rfl, hb⟩
          have HB2 := Lib.hid (HBA.out.trans (hb.mono HBA.out.size))
          clear hb HI
          by_cases hdd : d ≤ dt
          · have hm1 : max (d : Int) (dt : Int) = (dt : Int) := by omega
            have hm2 : max d dt = dt := by omega
            rw [hm2] at HDN
            clear hm2
            go_wp2_with fail
            go_roundg (n - (k + 1))
            case measure => have := HKL.out; omega
            case rel =>
              have h1 := HKL.out
              exact ⟨k + 1, dt, by omega, Nat.le_refl _, by go_num, by first | rfl | (rw [hm1]) | (congr 1; omega), HDN.out, HB2.out, by omega⟩
          · have hm1 : max (d : Int) (dt : Int) = (d : Int) := by omega
            have hm2 : max d dt = d := by omega
            rw [hm2] at HDN
            clear hm2
            go_wp2_with fail
            go_roundg (n - (k + 1))
            case measure => have := HKL.out; omega
            case rel =>
              have h1 := HKL.out
              exact ⟨k + 1, d, by omega, Nat.le_refl _, by go_num, by first | rfl | (rw [hm1]) | (congr 1; omega), HDN.out, HB2.out, by omega⟩
        · have hltz : ¬ (k : Int) < (n : Int) := by omega
          have hke : k = n := by omega
          subst hke
          have HX : Hid (depth T = d + 1) := Lib.hid (by rw [HD.out, HDD.out, ← HKN.out, List.take_length])
          clear HDD hg
          go_wp2_with fail
          go_ret
          refine ⟨?_, HB.out.trans (BW.out.mono HB.out.size)⟩
          rw [HX.out]
          congr 2
          try omega
end Go.Proofs.YtcbfohokigamfaaGreatDoor
namespace Go.Proofs.YtcbfohokigamfaaGreatDoor
open Go.RowKit

mutual
def sameN : Nd → Nd → Bool
  | .mk k _ _ _ s l, b => k == b.kind && decide (s = b.name) && sameL l b.kids
def sameL : List Nd → List Nd → Bool
  | [], [] => true
  | a :: l, b :: m => sameN a b && sameL l m
  | _, _ => false
end
theorem sameN_eq (a b : Nd) : sameN a b = (a.kind == b.kind && decide (a.name = b.name) && sameL a.kids b.kids) := by cases a; rw [sameN]; rfl
def allP (p : Nd → Nd → Bool) : List Nd → List Nd → Bool
  | [], [] => true
  | a :: l, b :: m => p a b && allP p l m
  | _, _ => false
theorem allP_same : ∀ l m : List Nd, allP sameN l m = sameL l m
  | [], [] => by rw [allP, sameL]
  | a :: l, b :: m => by rw [allP, sameL, allP_same l m]
  | [], _ :: _ => by rw [allP, sameL] <;> simp
  | _ :: _, [] => by rw [allP, sameL] <;> simp
theorem allP_len (p : Nd → Nd → Bool) : ∀ l m : List Nd, l.length ≠ m.length → allP p l m = false
  | [], [], h => absurd rfl h
  | a :: l, b :: m, h => by rw [allP, allP_len p l m (fun e => h (by simp [e]))]; simp
  | [], _ :: _, _ => rfl
  | _ :: _, [], _ => rfl
theorem drop_consN {l : List Nd} {k : Nat} {t : Nd} (h : l[k]? = some t) : l.drop k = t :: l.drop (k + 1) := by
  obtain ⟨h1, rfl⟩ := List.getElem?_eq_some_iff.1 h
  exact List.drop_eq_getElem_cons h1
set_option maxRecDepth 100000 in
set_option maxHeartbeats 2000000 in
theorem eqN_any (l m : List Nd) (A B : Option Addr) (c d : Nat) (hn : l.length ≤ 1000000) (hm : m.length ≤ 1000000) (p : Nd → Nd → Bool) (g : FuncId) (eg : Enters Tryz.prog g) (w : World) (hl : SIn w TT l A) (hM : SIn w TT m B)
    (hp : ∀ W, Below w.heap.size w W → ∀ (i : Nat) (a b : Nd), l[i]? = some a → m[i]? = some b → ∀ u v, NIn W TT a u → NIn W TT b v → Calls Tryz.prog g #[u, v] W fun e w' => e = .returned (.bool (p a b)) ∧ Below W.heap.size W w') :
    Calls Tryz.prog 57 #[.slice A l.length c, .slice B m.length d, .func (.func g) #[] #[]] w fun e w' => e = .returned (.bool (allP p l m)) ∧ Below w.heap.size w w' := by
  have eg' : ∀ (args : Array Value) (w : World), (callFunc g args).run Tryz.prog w = .ok (.enter g args) w := eg
  have HL := Lib.hid hl
  have HM := Lib.hid hM
  have HP := Lib.hid hp
  clear hl hM hp
  by_cases hne : l.length = m.length
  · have HMN := Lib.hid hne
    rw [← hne] at hm ⊢
    generalize hln : l.length = n at *
    have HLN := Lib.hid hln
    clear hln hne
    go_enter Tryz.func57, Tryz.ntmps57
    go_wp2_with fail
    go_loopg [7, 8, 9, 17] n (fun gg s7 s8 s9 s17 wr => ∃ kk : Nat, kk ≤ n ∧ n - kk ≤ gg ∧ s17 = .int .i64 kk ∧ Aside (Below w.heap.size w wr) ∧ Aside (allP p l m = allP p (l.drop kk) (m.drop kk)))
    case atStart => exact ⟨0, Nat.zero_le _, by omega, rfl, Below.refl _ w, rfl⟩
    case round =>
      obtain ⟨kk, hkk, hg, rfl, BW, AA⟩ := hrel
      by_cases hlt : kk < n
      · have hltz : (kk : Int) < (n : Int) := by omega
        obtain ⟨b, o, rfl, -, hrow⟩ := HL.out (by rw [HLN.out]; omega)
        obtain ⟨b', o', rfl, -, hrow'⟩ := HM.out (by have := HMN.out; have := HLN.out; omega)
        obtain ⟨t, ht⟩ : ∃ t, l[kk]? = some t := ⟨_, List.getElem?_eq_getElem (by rw [HLN.out]; exact hlt)⟩
        obtain ⟨s, hs⟩ : ∃ s, m[kk]? = some s := ⟨_, List.getElem?_eq_getElem (by have := HMN.out; have := HLN.out; omega)⟩
        have hrow2 := NLn.keep (W' := wr) (Q := TT) (fun k _ hk => BW.out.block k hk) (fun _ hP _ => hP) b trivial _ _ hrow
        have hrow2' := NLn.keep (W' := wr) (Q := TT) (fun k _ hk => BW.out.block k hk) (fun _ hP _ => hP) b' trivial _ _ hrow'
        obtain ⟨ia, ic, d0, d1, d2, d3, d4, d5, hic, hkk2⟩ := hrow2.row ht
        obtain ⟨ja, jc, e0, e1, e2, e3, e4, e5, hjc, hkk3⟩ := hrow2'.row hs
        have hb1 := alloc_below wr (.cells #[.int .i64 t.kind, .int .i64 t.fro, .int .i64 t.till, .int .i64 t.at', .string t.name, .slice ia t.kids.length ic] 24)
        have hb2 := hb1.trans ((alloc_below _ (.cells #[.int .i64 s.kind, .int .i64 s.fro, .int .i64 s.till, .int .i64 s.at', .string s.name, .slice ja s.kids.length jc] 24)).mono hb1.size)
        have HB2 := Lib.hid (BW.out.trans (hb2.mono BW.out.size))
        have HX := Lib.hid (HP.out _ HB2.out kk t s ht hs _ _ ((NIn.shut hic hkk2).below hb2) ((NIn.shut hjc hkk3).below hb2))
        have f0 := cell_kept e0 rfl hb1
        have f1 := cell_kept e1 rfl hb1
        have f2 := cell_kept e2 rfl hb1
        have f3 := cell_kept e3 rfl hb1
        have f4 := cell_kept e4 rfl hb1
        have f5 := cell_kept e5 rfl hb1
        have HKL := Lib.hid (And.intro hlt hg)
        have HAA : Hid (allP p l m = (p t s && allP p (l.drop (kk + 1)) (m.drop (kk + 1)))) := Lib.hid (by rw [AA.out, drop_consN ht, drop_consN hs, allP])
        clear hrow hrow' hrow2 hrow2' hic hkk2 hjc hkk3 hb1 hb2 ht hs hg e0 e1 e2 e3 e4 e5 AA
        cases hq : p t s with
        | true =>
          rw [hq] at HX HAA
          clear hq
          go_wp2_with (go_at_fn g; refine HX.out.mono ?_; rintro e w' ⟨rfl, hb'⟩)
          go_roundg (n - (kk + 1))
          case measure => have := HKL.out; omega
          case rel =>
            have h1 := HKL.out
            exact ⟨kk + 1, by omega, Nat.le_refl _, by go_num, HB2.out.trans (hb'.mono HB2.out.size), (by show Aside _; exact (by rw [HAA.out, Bool.true_and] : allP p l m = _))⟩
        | false =>
          rw [hq] at HX HAA
          clear hq
          go_wp2_with (go_at_fn g; refine HX.out.mono ?_; rintro e w' ⟨rfl, hb'⟩)
          go_ret
          exact ⟨by rw [HAA.out]; rfl, HB2.out.trans (hb'.mono HB2.out.size)⟩
      · have hltz : ¬ (kk : Int) < (n : Int) := by omega
        have hke : kk = n := by omega
        subst hke
        have HAA : Hid (allP p l m = true) := Lib.hid (by rw [AA.out, List.drop_of_length_le (by rw [HLN.out]; exact Nat.le_refl _), List.drop_of_length_le (by rw [← HMN.out]; exact Nat.le_refl _)]; rfl)
        clear AA
        go_wp2
        go_ret
        exact ⟨by rw [HAA.out]; rfl, BW.out⟩
  · have HF := Lib.hid (allP_len p l m hne)
    have hz : ((l.length : Int) != (m.length : Int)) = true := by simp only [bne_iff_ne, ne_eq]; omega
    clear hne
    generalize l.length = n at *
    generalize m.length = n2 at *
    go_enter Tryz.func57, Tryz.ntmps57
    go_wp2_with fail
    go_ret
    exact ⟨by rw [HF.out]; rfl, Below.refl _ _⟩
theorem names_b (a b : ByteArray) : (a.toList == b.toList) = decide (a = b) := by
  rw [Bool.eq_iff_iff, beq_iff_eq, decide_eq_true_eq]
  exact ⟨list_inj, fun h => by rw [h]⟩
set_option maxRecDepth 100000 in
set_option maxHeartbeats 2000000 in
theorem same_any : ∀ (f : Nat) (a b : Nd) (u v : Value) (w : World), sz a ≤ f → sz a ≤ 1000000 → sz b ≤ 1000000 → NIn w TT a u → NIn w TT b v →
    Calls Tryz.prog 20 #[u, v] w fun e w' => e = .returned (.bool (sameN a b)) ∧ Below w.heap.size w w' := by
  intro f
  induction f with
  | zero => intro a _ _ _ _ h; have := sz_pos a; omega
  | succ f ih =>
    intro a b u v w hf ha hb hu hv
    obtain ⟨ia, ic, rfl, hcc, hk⟩ := hu.open
    obtain ⟨ja, jc, rfl, hcj, hj⟩ := hv.open
    have hb1 := alloc_below w (.cells #[.int .i64 a.kind, .int .i64 a.fro, .int .i64 a.till, .int .i64 a.at', .string a.name, .slice ia a.kids.length ic] 24)
    have hb2 := hb1.trans ((alloc_below _ (.cells #[.int .i64 b.kind, .int .i64 b.fro, .int .i64 b.till, .int .i64 b.at', .string b.name, .slice ja b.kids.length jc] 24)).mono hb1.size)
    have HB := Lib.hid hb2
    have hal : a.kids.length ≤ 1000000 := by have := szL_len a.kids; have := sz_eq a; omega
    have hbl : b.kids.length ≤ 1000000 := by have := szL_len b.kids; have := sz_eq b; omega
    have HQ := Lib.hid (eqN_any a.kids b.kids ia ja ic jc hal hbl sameN 20 (enters_of Tryz.func20 (by kernel_rfl) rfl) _ (hk.below hb2) (hj.below hb2) (fun W hW i x y hx hy u' v' hu' hv' => by
      have h1 := sz_kid hx
      have h2 := sz_kid hy
      exact ih x y u' v' W (by omega) (by omega) (by omega) hu' hv'))
    have HS : Hid (sameN a b = (a.kind == b.kind && decide (a.name = b.name) && allP sameN a.kids b.kids)) := Lib.hid (by rw [allP_same, sameN_eq])
    clear hb1 hb2 hk hj hu hv ih
    cases h1 : (a.kind == b.kind) with
    | false =>
      have HX : Hid (sameN a b = false) := Lib.hid (by rw [HS.out, h1]; rfl)
      go_enter Tryz.func20, Tryz.ntmps20
      go_wp2_with fail
      go_ret
      exact ⟨by rw [HX.out]; rfl, HB.out⟩
    | true =>
      cases h2 : decide (a.name = b.name) with
      | false =>
        have HX : Hid (sameN a b = false) := Lib.hid (by rw [HS.out, h2]; simp)
        have h3 : (a.name.toList == b.name.toList) = false := by rw [names_b, h2]
        clear h2
        go_enter Tryz.func20, Tryz.ntmps20
        go_wp2_with fail
        go_ret
        exact ⟨by rw [HX.out]; rfl, HB.out⟩
      | true =>
        have HX : Hid (sameN a b = allP sameN a.kids b.kids) := Lib.hid (by rw [HS.out, h1, h2]; rfl)
        have h3 : (a.name.toList == b.name.toList) = true := by rw [names_b, h2]
        clear h2
        go_enter Tryz.func20, Tryz.ntmps20
        go_wp2_with fail
        refine HQ.out.mono ?_
        rintro e w' ⟨rfl, hb⟩
        have HB2 := Lib.hid (HB.out.trans (hb.mono HB.out.size))
        clear hb HQ
        go_wp2_with fail
        go_ret
        exact ⟨by rw [HX.out]; rfl, HB2.out⟩
end Go.Proofs.YtcbfohokigamfaaGreatDoor
namespace Go.Proofs.YtcbfohokigamfaaGreatDoor
open Go.RowKit

def nt (k : Int) (s : ByteArray) (l : List Nd) : Nd := .mk k 0 0 0 s l
def tName (s : ByteArray) : Nd := nt 25 s []
def tTwo (s : ByteArray) (a b : Nd) : Nd := nt 31 s [a, b]
def tBack (e : Nd) : Nd := nt 19 ⟨#[]⟩ [e]
def tLit : Nd := nt 28 ⟨#[]⟩ [nt 8 ⟨#[84]⟩ []]
def tSel (x : Nd) (s : ByteArray) : Nd := nt 26 s [x]
def tParen (x : Nd) : Nd := nt 33 ⟨#[]⟩ [x]
def tBlock (l : List Nd) : Nd := nt 10 ⟨#[]⟩ l
def tNone : Nd := nt 0 ⟨#[]⟩ []
def tBranch (e : Nd) : Nd := nt 14 ⟨#[]⟩ [e, tBlock [], tNone]
def tBody (l : List Nd) : Nd := nt 1 ⟨#[112]⟩ [nt 5 ⟨#[102]⟩ [tNone, nt 6 ⟨#[]⟩ [], tNone, tBlock l]]
def TreeEnd (T : Nd) (w : World) (e : Ending) (w' : World) : Prop := ∃ r, e = .returned r ∧ NIn w' TT T r ∧ Below w.heap.size w w'
theorem nin_leaf (W : World) (k : Int) (s : ByteArray) : NIn W TT (nt k s []) (.agg #[.int .i64 k, .int .i64 0, .int .i64 0, .int .i64 0, .string s, .slice none 0 0]) := by
  unfold nt
  rw [NIn]
  exact ⟨none, 0, rfl, Nat.le_refl _, fun h => by cases h⟩
theorem nin_kids {W : World} (k : Int) (s : ByteArray) {l : List Nd} {b o c : Nat} (hc : l.length ≤ c) (h : NLn W TT b o l) : NIn W TT (nt k s l) (.agg #[.int .i64 k, .int .i64 0, .int .i64 0, .int .i64 0, .string s, .slice (some ⟨b, o, none⟩) l.length c]) := by
  unfold nt
  rw [NIn]
  exact ⟨some ⟨b, o, none⟩, c, rfl, hc, fun _ => ⟨b, o, rfl, trivial, h⟩⟩
theorem nln_nil {W : World} {b o : Nat} : NLn W TT b o [] := by rw [NLn]; trivial
theorem nln_cons {W : World} {b o : Nat} {n : Nd} {l : List Nd} {v0 v1 v2 v3 v4 v5 : Value} (h0 : W.cell? ⟨b, o, none⟩ = some v0) (h1 : W.cell? ⟨b, o + 1, none⟩ = some v1) (h2 : W.cell? ⟨b, o + 2, none⟩ = some v2) (h3 : W.cell? ⟨b, o + 3, none⟩ = some v3) (h4 : W.cell? ⟨b, o + 4, none⟩ = some v4) (h5 : W.cell? ⟨b, o + 5, none⟩ = some v5)
    (hn : NIn W TT n (.agg #[v0, v1, v2, v3, v4, v5])) (hl : NLn W TT b (o + 6) l) : NLn W TT b o (n :: l) := by
  rw [NLn]
  exact ⟨⟨v0, v1, v2, v3, v4, v5, h0, h1, h2, h3, h4, h5, hn⟩, hl⟩
theorem cellA {W : World} {g : Nat} {cs : Array Value} {t : TypeId} (h : W.heap[g]? = some (.cells cs t (0, 0))) {i : Nat} {v : Value} (hv : cs[i]? = some v) : W.cell? ⟨g, i, none⟩ = some v := by
  unfold World.cell?
  simp only [h]
  exact hv
theorem results_cell_oneA {fn : Func} {p : Tmp} {ty : TypeId} (h : fn.results = #[.cell p ty]) (tmps : Array Value) (P : Program) (w : World) :
    (results fn tmps).run P w = ((asAddr (tmps.getD p undef)).run P w).andThen fun a w₁ => (loadVar ty a).run P w₁ := by
  simp only [results, h]
  simp [Sem.run_bind, Result.andThen]
theorem load_nd {wq : World} {N : Nat} {a b c d e f : Value} {T : TypeId} (hg : wq.heap[N]? = some (.cells #[a, b, c, d, e, f] T (0, 0))) : (loadVar 24 ⟨N, 0, none⟩).run Tryz.prog wq = .ok (.agg #[a, b, c, d, e, f]) wq :=
  run_loadVar_row (P := Tryz.prog) wq N T 24 #[a, b, c, d, e, f] (0, 0) _ hg Tryz.underlying24 rfl (by kernel_rfl)
theorem ret_cell1A {fn : Func} {p : Tmp} {ty : TypeId} (hr : fn.results = #[.cell p ty]) {N : Nat} {wq : World} {Q : Ending → World → Prop} (tmps : Array Value) (hp : tmps.getD p undef = .pointer (some ⟨N, 0, none⟩)) (v : Value)
    (hl : (loadVar ty ⟨N, 0, none⟩).run Tryz.prog wq = .ok v wq) (hq : Q (.returned v) wq) : bodyPost Tryz.prog fn Q Exit.ret ⟨tmps, []⟩ wq := by
  refine bodyPost_ret (v := v) ?_ rfl hq
  rw [results_cell_oneA hr, hp]
  simp [asAddr, Result.andThen, hl]
/-- A block more. -/
theorem one_more {w0 w : World} {B : Nat} (hb : Below B w0 w) (hB : B ≤ w.heap.size) (cs : Array Value) (t : TypeId) : Below B w0 (w.alloc (.cells cs t)) ∧ (w.alloc (.cells cs t)).heap[w.heap.size]? = some (.cells cs t (0, 0)) ∧ (w.alloc (.cells cs t)).heap.size = w.heap.size + 1 ∧ Below w.heap.size w (w.alloc (.cells cs t)) :=
  ⟨hb.trans ((alloc_below w _).mono hB), alloc_top w cs t, World.size_alloc .., alloc_below w _⟩

set_option maxRecDepth 100000 in
theorem name_tree (s : ByteArray) (w : World) : Calls Tryz.prog 30 #[.string s] w (TreeEnd (tName s) w) := by
  go_enter Tryz.func30, Tryz.ntmps30
  go_wp2_with fail
  have B0 : Below w.heap.size w w := Below.refl _ _
  obtain ⟨B1, T1, Z1, K1⟩ := one_more B0 B0.size #[.int .i64 25, .int .i64 0, .int .i64 0, .int .i64 0, .string s, .slice none 0 0] 24
  generalize hw1 : w.alloc (.cells #[.int .i64 25, .int .i64 0, .int .i64 0, .int .i64 0, .string s, .slice none 0 0] 24) = w1 at *
  refine ret_cell1A (p := 2) rfl _ rfl _ (load_nd T1) ⟨_, rfl, ?_, B1⟩
  exact nin_leaf _ 25 s
set_option maxRecDepth 100000 in
theorem two_tree (s : ByteArray) (a b : Nd) (u v : Value) (w : World) (hu : NIn w TT a u) (hv : NIn w TT b v) : Calls Tryz.prog 33 #[.string s, u, v] w (TreeEnd (tTwo s a b) w) := by
  obtain ⟨ia, ic, rfl, hcc, hk⟩ := hu.open
  obtain ⟨ja, jc, rfl, hcj, hj⟩ := hv.open
  go_enter Tryz.func33, Tryz.ntmps33
  go_wp2_with fail
  have B0 : Below w.heap.size w w := Below.refl _ _
  obtain ⟨B1, T1, Z1, K1⟩ := one_more B0 B0.size #[.int .i64 a.kind, .int .i64 a.fro, .int .i64 a.till, .int .i64 a.at', .string a.name, .slice ia a.kids.length ic] 24
  generalize hw1 : w.alloc (.cells #[.int .i64 a.kind, .int .i64 a.fro, .int .i64 a.till, .int .i64 a.at', .string a.name, .slice ia a.kids.length ic] 24) = w1 at *
  obtain ⟨B2, T2, Z2, K2⟩ := one_more B1 B1.size #[.int .i64 b.kind, .int .i64 b.fro, .int .i64 b.till, .int .i64 b.at', .string b.name, .slice ja b.kids.length jc] 24
  generalize hw2 : w1.alloc (.cells #[.int .i64 b.kind, .int .i64 b.fro, .int .i64 b.till, .int .i64 b.at', .string b.name, .slice ja b.kids.length jc] 24) = w2 at *
  rw [Z1] at T2 Z2
  replace T1 := (K2.block _ (Array.getElem?_eq_some_iff.1 T1).1).trans T1
  obtain ⟨B3, T3, Z3, K3⟩ := one_more B2 B2.size #[.int .i64 31, .int .i64 0, .int .i64 0, .int .i64 0, .string s, .slice (some ⟨w.heap.size + 1 + 1 + 1, 0, none⟩) 2 2] 24
  generalize hw3 : w2.alloc (.cells #[.int .i64 31, .int .i64 0, .int .i64 0, .int .i64 0, .string s, .slice (some ⟨w.heap.size + 1 + 1 + 1, 0, none⟩) 2 2] 24) = w3 at *
  rw [Z2] at T3 Z3
  replace T1 := (K3.block _ (Array.getElem?_eq_some_iff.1 T1).1).trans T1
  replace T2 := (K3.block _ (Array.getElem?_eq_some_iff.1 T2).1).trans T2
  obtain ⟨B4, T4, Z4, K4⟩ := one_more B3 B3.size #[.int .i64 a.kind, .int .i64 a.fro, .int .i64 a.till, .int .i64 a.at', .string a.name, .slice ia a.kids.length ic, .int .i64 b.kind, .int .i64 b.fro, .int .i64 b.till, .int .i64 b.at', .string b.name, .slice ja b.kids.length jc] 24
  generalize hw4 : w3.alloc (.cells #[.int .i64 a.kind, .int .i64 a.fro, .int .i64 a.till, .int .i64 a.at', .string a.name, .slice ia a.kids.length ic, .int .i64 b.kind, .int .i64 b.fro, .int .i64 b.till, .int .i64 b.at', .string b.name, .slice ja b.kids.length jc] 24) = w4 at *
  rw [Z3] at T4 Z4
  replace T1 := (K4.block _ (Array.getElem?_eq_some_iff.1 T1).1).trans T1
  replace T2 := (K4.block _ (Array.getElem?_eq_some_iff.1 T2).1).trans T2
  replace T3 := (K4.block _ (Array.getElem?_eq_some_iff.1 T3).1).trans T3
  refine ret_cell1A (p := 6) rfl _ rfl _ (load_nd T3) ⟨_, rfl, ?_, B4⟩
  exact nin_kids (l := [a, b]) 31 s (Nat.le_refl _) (nln_cons (cellA T4 (i := 0) rfl) (cellA T4 (i := 1) rfl) (cellA T4 (i := 2) rfl) (cellA T4 (i := 3) rfl) (cellA T4 (i := 4) rfl) (cellA T4 (i := 5) rfl) ((NIn.shut hcc hk).below B4) (nln_cons (cellA T4 (i := 6) rfl) (cellA T4 (i := 7) rfl) (cellA T4 (i := 8) rfl) (cellA T4 (i := 9) rfl) (cellA T4 (i := 10) rfl) (cellA T4 (i := 11) rfl) ((NIn.shut hcj hj).below B4) nln_nil))
set_option maxRecDepth 100000 in
theorem back_tree (a : Nd) (u : Value) (w : World) (hu : NIn w TT a u) : Calls Tryz.prog 32 #[u] w (TreeEnd (tBack a) w) := by
  obtain ⟨ia, ic, rfl, hcc, hk⟩ := hu.open
  go_enter Tryz.func32, Tryz.ntmps32
  go_wp2_with fail
  have B0 : Below w.heap.size w w := Below.refl _ _
  obtain ⟨B1, T1, Z1, K1⟩ := one_more B0 B0.size #[.int .i64 a.kind, .int .i64 a.fro, .int .i64 a.till, .int .i64 a.at', .string a.name, .slice ia a.kids.length ic] 24
  generalize hw1 : w.alloc (.cells #[.int .i64 a.kind, .int .i64 a.fro, .int .i64 a.till, .int .i64 a.at', .string a.name, .slice ia a.kids.length ic] 24) = w1 at *
  obtain ⟨B2, T2, Z2, K2⟩ := one_more B1 B1.size #[.int .i64 19, .int .i64 0, .int .i64 0, .int .i64 0, .string ⟨#[]⟩, .slice (some ⟨w.heap.size + 1 + 1, 0, none⟩) 1 1] 24
  generalize hw2 : w1.alloc (.cells #[.int .i64 19, .int .i64 0, .int .i64 0, .int .i64 0, .string ⟨#[]⟩, .slice (some ⟨w.heap.size + 1 + 1, 0, none⟩) 1 1] 24) = w2 at *
  rw [Z1] at T2 Z2
  replace T1 := (K2.block _ (Array.getElem?_eq_some_iff.1 T1).1).trans T1
  obtain ⟨B3, T3, Z3, K3⟩ := one_more B2 B2.size #[.int .i64 a.kind, .int .i64 a.fro, .int .i64 a.till, .int .i64 a.at', .string a.name, .slice ia a.kids.length ic] 24
  generalize hw3 : w2.alloc (.cells #[.int .i64 a.kind, .int .i64 a.fro, .int .i64 a.till, .int .i64 a.at', .string a.name, .slice ia a.kids.length ic] 24) = w3 at *
  rw [Z2] at T3 Z3
  replace T1 := (K3.block _ (Array.getElem?_eq_some_iff.1 T1).1).trans T1
  replace T2 := (K3.block _ (Array.getElem?_eq_some_iff.1 T2).1).trans T2
  refine ret_cell1A (p := 2) rfl _ rfl _ (load_nd T2) ⟨_, rfl, ?_, B3⟩
  exact nin_kids (l := [a]) 19 ⟨#[]⟩ (Nat.le_refl _) (nln_cons (cellA T3 (i := 0) rfl) (cellA T3 (i := 1) rfl) (cellA T3 (i := 2) rfl) (cellA T3 (i := 3) rfl) (cellA T3 (i := 4) rfl) (cellA T3 (i := 5) rfl) ((NIn.shut hcc hk).below B3) nln_nil)
set_option maxRecDepth 100000 in
theorem paren_tree (a : Nd) (u : Value) (w : World) (hu : NIn w TT a u) : Calls Tryz.prog 50 #[u] w (TreeEnd (tParen a) w) := by
  obtain ⟨ia, ic, rfl, hcc, hk⟩ := hu.open
  go_enter Tryz.func50, Tryz.ntmps50
  go_wp2_with fail
  have B0 : Below w.heap.size w w := Below.refl _ _
  obtain ⟨B1, T1, Z1, K1⟩ := one_more B0 B0.size #[.int .i64 a.kind, .int .i64 a.fro, .int .i64 a.till, .int .i64 a.at', .string a.name, .slice ia a.kids.length ic] 24
  generalize hw1 : w.alloc (.cells #[.int .i64 a.kind, .int .i64 a.fro, .int .i64 a.till, .int .i64 a.at', .string a.name, .slice ia a.kids.length ic] 24) = w1 at *
  obtain ⟨B2, T2, Z2, K2⟩ := one_more B1 B1.size #[.int .i64 33, .int .i64 0, .int .i64 0, .int .i64 0, .string ⟨#[]⟩, .slice (some ⟨w.heap.size + 1 + 1, 0, none⟩) 1 1] 24
  generalize hw2 : w1.alloc (.cells #[.int .i64 33, .int .i64 0, .int .i64 0, .int .i64 0, .string ⟨#[]⟩, .slice (some ⟨w.heap.size + 1 + 1, 0, none⟩) 1 1] 24) = w2 at *
  rw [Z1] at T2 Z2
  replace T1 := (K2.block _ (Array.getElem?_eq_some_iff.1 T1).1).trans T1
  obtain ⟨B3, T3, Z3, K3⟩ := one_more B2 B2.size #[.int .i64 a.kind, .int .i64 a.fro, .int .i64 a.till, .int .i64 a.at', .string a.name, .slice ia a.kids.length ic] 24
  generalize hw3 : w2.alloc (.cells #[.int .i64 a.kind, .int .i64 a.fro, .int .i64 a.till, .int .i64 a.at', .string a.name, .slice ia a.kids.length ic] 24) = w3 at *
  rw [Z2] at T3 Z3
  replace T1 := (K3.block _ (Array.getElem?_eq_some_iff.1 T1).1).trans T1
  replace T2 := (K3.block _ (Array.getElem?_eq_some_iff.1 T2).1).trans T2
  refine ret_cell1A (p := 2) rfl _ rfl _ (load_nd T2) ⟨_, rfl, ?_, B3⟩
  exact nin_kids (l := [a]) 33 ⟨#[]⟩ (Nat.le_refl _) (nln_cons (cellA T3 (i := 0) rfl) (cellA T3 (i := 1) rfl) (cellA T3 (i := 2) rfl) (cellA T3 (i := 3) rfl) (cellA T3 (i := 4) rfl) (cellA T3 (i := 5) rfl) ((NIn.shut hcc hk).below B3) nln_nil)
set_option maxRecDepth 100000 in
theorem sel_tree (s : ByteArray) (a : Nd) (u : Value) (w : World) (hu : NIn w TT a u) : Calls Tryz.prog 49 #[u, .string s] w (TreeEnd (tSel a s) w) := by
  obtain ⟨ia, ic, rfl, hcc, hk⟩ := hu.open
  go_enter Tryz.func49, Tryz.ntmps49
  go_wp2_with fail
  have B0 : Below w.heap.size w w := Below.refl _ _
  obtain ⟨B1, T1, Z1, K1⟩ := one_more B0 B0.size #[.int .i64 a.kind, .int .i64 a.fro, .int .i64 a.till, .int .i64 a.at', .string a.name, .slice ia a.kids.length ic] 24
  generalize hw1 : w.alloc (.cells #[.int .i64 a.kind, .int .i64 a.fro, .int .i64 a.till, .int .i64 a.at', .string a.name, .slice ia a.kids.length ic] 24) = w1 at *
  obtain ⟨B2, T2, Z2, K2⟩ := one_more B1 B1.size #[.int .i64 26, .int .i64 0, .int .i64 0, .int .i64 0, .string s, .slice (some ⟨w.heap.size + 1 + 1, 0, none⟩) 1 1] 24
  generalize hw2 : w1.alloc (.cells #[.int .i64 26, .int .i64 0, .int .i64 0, .int .i64 0, .string s, .slice (some ⟨w.heap.size + 1 + 1, 0, none⟩) 1 1] 24) = w2 at *
  rw [Z1] at T2 Z2
  replace T1 := (K2.block _ (Array.getElem?_eq_some_iff.1 T1).1).trans T1
  obtain ⟨B3, T3, Z3, K3⟩ := one_more B2 B2.size #[.int .i64 a.kind, .int .i64 a.fro, .int .i64 a.till, .int .i64 a.at', .string a.name, .slice ia a.kids.length ic] 24
  generalize hw3 : w2.alloc (.cells #[.int .i64 a.kind, .int .i64 a.fro, .int .i64 a.till, .int .i64 a.at', .string a.name, .slice ia a.kids.length ic] 24) = w3 at *
  rw [Z2] at T3 Z3
  replace T1 := (K3.block _ (Array.getElem?_eq_some_iff.1 T1).1).trans T1
  replace T2 := (K3.block _ (Array.getElem?_eq_some_iff.1 T2).1).trans T2
  refine ret_cell1A (p := 4) rfl _ rfl _ (load_nd T2) ⟨_, rfl, ?_, B3⟩
  exact nin_kids (l := [a]) 26 s (Nat.le_refl _) (nln_cons (cellA T3 (i := 0) rfl) (cellA T3 (i := 1) rfl) (cellA T3 (i := 2) rfl) (cellA T3 (i := 3) rfl) (cellA T3 (i := 4) rfl) (cellA T3 (i := 5) rfl) ((NIn.shut hcc hk).below B3) nln_nil)
set_option maxRecDepth 100000 in
theorem lit_tree (w : World) : Calls Tryz.prog 37 #[] w (TreeEnd tLit w) := by
  go_enter Tryz.func37, Tryz.ntmps37
  go_wp2_with fail
  have B0 : Below w.heap.size w w := Below.refl _ _
  obtain ⟨B1, T1, Z1, K1⟩ := one_more B0 B0.size #[.int .i64 28, .int .i64 0, .int .i64 0, .int .i64 0, .string ⟨#[]⟩, .slice (some ⟨w.heap.size + 1, 0, none⟩) 1 1] 24
  generalize hw1 : w.alloc (.cells #[.int .i64 28, .int .i64 0, .int .i64 0, .int .i64 0, .string ⟨#[]⟩, .slice (some ⟨w.heap.size + 1, 0, none⟩) 1 1] 24) = w1 at *
  obtain ⟨B2, T2, Z2, K2⟩ := one_more B1 B1.size #[.int .i64 8, .int .i64 0, .int .i64 0, .int .i64 0, .string ⟨#[84]⟩, .slice none 0 0] 24
  generalize hw2 : w1.alloc (.cells #[.int .i64 8, .int .i64 0, .int .i64 0, .int .i64 0, .string ⟨#[84]⟩, .slice none 0 0] 24) = w2 at *
  rw [Z1] at T2 Z2
  replace T1 := (K2.block _ (Array.getElem?_eq_some_iff.1 T1).1).trans T1
  refine ret_cell1A (p := 0) rfl _ rfl _ (load_nd T1) ⟨_, rfl, ?_, B2⟩
  exact nin_kids (l := [nt 8 ⟨#[84]⟩ []]) 28 ⟨#[]⟩ (Nat.le_refl _) (nln_cons (cellA T2 (i := 0) rfl) (cellA T2 (i := 1) rfl) (cellA T2 (i := 2) rfl) (cellA T2 (i := 3) rfl) (cellA T2 (i := 4) rfl) (cellA T2 (i := 5) rfl) (nin_leaf _ 8 ⟨#[84]⟩) nln_nil)
theorem nin_row {W : World} (k : Int) (s : ByteArray) {l : List Nd} {A : Option Addr} {c : Nat} (hc : l.length ≤ c) (h : SIn W TT l A) : NIn W TT (nt k s l) (.agg #[.int .i64 k, .int .i64 0, .int .i64 0, .int .i64 0, .string s, .slice A l.length c]) := by
  unfold nt
  rw [NIn]
  exact ⟨A, c, rfl, hc, h⟩
set_option maxRecDepth 100000 in
theorem block_tree (l : List Nd) (A : Option Addr) (c : Nat) (w : World) (hl : SIn w TT l A) (hc : l.length ≤ c) : Calls Tryz.prog 66 #[.slice A l.length c] w (TreeEnd (tBlock l) w) := by
  go_enter Tryz.func66, Tryz.ntmps66
  go_wp2_with fail
  have B0 : Below w.heap.size w w := Below.refl _ _
  obtain ⟨B1, T1, Z1, K1⟩ := one_more B0 B0.size #[.int .i64 10, .int .i64 0, .int .i64 0, .int .i64 0, .string ⟨#[]⟩, .slice A l.length c] 24
  generalize hw1 : w.alloc (.cells #[.int .i64 10, .int .i64 0, .int .i64 0, .int .i64 0, .string ⟨#[]⟩, .slice A l.length c] 24) = w1 at *
  refine ret_cell1A (p := 2) rfl _ rfl _ (load_nd T1) ⟨_, rfl, ?_, B1⟩
  exact nin_row 10 ⟨#[]⟩ hc (hl.below B1)
end Go.Proofs.YtcbfohokigamfaaGreatDoor
namespace Go.Proofs.YtcbfohokigamfaaGreatDoor
open Go.RowKit
variable {tk : Int → ByteArray → Bool} {O : ByteArray → Prop} {FAC : World → Prop}

theorem cell_setN {W : World} {R B i j : Nat} {x v : Value} (hne : B ≠ R) (h : W.cell? ⟨B, i, none⟩ = some x) : (W.setCell ⟨R, j, none⟩ v).cell? ⟨B, i, none⟩ = some x := by
  have := heap_setCell_other W ⟨R, j, none⟩ B v (show B ≠ R from hne)
  unfold World.cell? at h ⊢
  simp only at h ⊢
  rw [this]
  exact h
theorem six_set {W : World} {R B : Nat} {c0 c1 c2 c3 c4 c5 a b c d e f : Value} (hne : B ≠ R) (h : W.cell? ⟨B, 0, none⟩ = some c0 ∧ W.cell? ⟨B, 1, none⟩ = some c1 ∧ W.cell? ⟨B, 2, none⟩ = some c2 ∧ W.cell? ⟨B, 3, none⟩ = some c3 ∧ W.cell? ⟨B, 4, none⟩ = some c4 ∧ W.cell? ⟨B, 5, none⟩ = some c5) :
    let W' := ((((((W.setCell ⟨R, 0, none⟩ a).setCell ⟨R, 1, none⟩ b).setCell ⟨R, 2, none⟩ c).setCell ⟨R, 3, none⟩ d).setCell ⟨R, 4, none⟩ e).setCell ⟨R, 5, none⟩ f)
    W'.cell? ⟨B, 0, none⟩ = some c0 ∧ W'.cell? ⟨B, 1, none⟩ = some c1 ∧ W'.cell? ⟨B, 2, none⟩ = some c2 ∧ W'.cell? ⟨B, 3, none⟩ = some c3 ∧ W'.cell? ⟨B, 4, none⟩ = some c4 ∧ W'.cell? ⟨B, 5, none⟩ = some c5 := by
  have k : ∀ {i : Nat} {x : Value}, W.cell? ⟨B, i, none⟩ = some x → ((((((W.setCell ⟨R, 0, none⟩ a).setCell ⟨R, 1, none⟩ b).setCell ⟨R, 2, none⟩ c).setCell ⟨R, 3, none⟩ d).setCell ⟨R, 4, none⟩ e).setCell ⟨R, 5, none⟩ f).cell? ⟨B, i, none⟩ = some x :=
    fun hx => cell_setN hne (cell_setN hne (cell_setN hne (cell_setN hne (cell_setN hne (cell_setN hne hx)))))
  exact ⟨k h.1, k h.2.1, k h.2.2.1, k h.2.2.2.1, k h.2.2.2.2.1, k h.2.2.2.2.2⟩
theorem six_heap {W : World} {R : Nat} {c0 c1 c2 c3 c4 c5 a b c d e f : Value} {t : TypeId} (h : W.heap[R]? = some (.cells #[c0, c1, c2, c3, c4, c5] t (0, 0))) :
    ((((((W.setCell ⟨R, 0, none⟩ a).setCell ⟨R, 1, none⟩ b).setCell ⟨R, 2, none⟩ c).setCell ⟨R, 3, none⟩ d).setCell ⟨R, 4, none⟩ e).setCell ⟨R, 5, none⟩ f).heap[R]? = some (.cells #[a, b, c, d, e, f] t (0, 0)) := by
  have h1 := heap_setCell_same W R 0 _ _ a h
  have h2 := heap_setCell_same _ R 1 _ _ b h1
  have h3 := heap_setCell_same _ R 2 _ _ c h2
  have h4 := heap_setCell_same _ R 3 _ _ d h3
  have h5 := heap_setCell_same _ R 4 _ _ e h4
  exact heap_setCell_same _ R 5 _ _ f h5
theorem below_set6 {w0 W : World} {B R : Nat} {a b c d e f : Value} (h : Below B w0 W) (hR : B ≤ R) : Below B w0 ((((((W.setCell ⟨R, 0, none⟩ a).setCell ⟨R, 1, none⟩ b).setCell ⟨R, 2, none⟩ c).setCell ⟨R, 3, none⟩ d).setCell ⟨R, 4, none⟩ e).setCell ⟨R, 5, none⟩ f) :=
  (((((h.setCell (p := ⟨R, 0, none⟩) hR a).setCell (p := ⟨R, 1, none⟩) hR b).setCell (p := ⟨R, 2, none⟩) hR c).setCell (p := ⟨R, 3, none⟩) hR d).setCell (p := ⟨R, 4, none⟩) hR e).setCell (p := ⟨R, 5, none⟩) hR f
theorem block_nil (w : World) : Calls Tryz.prog 66 #[.slice none 0 0] w fun e w' => e = .returned (.agg #[.int .i64 10, .int .i64 0, .int .i64 0, .int .i64 0, .string ⟨#[]⟩, .slice none 0 0]) ∧ Below w.heap.size w w' := by
  go_enter Tryz.func66, Tryz.ntmps66
  go_wp2_with fail
  obtain ⟨B1, T1, Z1, K1⟩ := one_more (Below.refl w.heap.size w) (Nat.le_refl _) #[.int .i64 10, .int .i64 0, .int .i64 0, .int .i64 0, .string ⟨#[]⟩, .slice none 0 0] 24
  exact ret_cell1A (p := 2) rfl _ rfl _ (load_nd T1) ⟨rfl, B1⟩
set_option maxRecDepth 100000 in
set_option maxHeartbeats 1000000 in
theorem branch_tree (a : Nd) (u : Value) (w : World) (hu : NIn w TT a u) : Calls Tryz.prog 35 #[u] w (TreeEnd (tBranch a) w) := by
  obtain ⟨ia, ic, rfl, hcc, hk⟩ := hu.open
  go_enter Tryz.func35, Tryz.ntmps35
  go_wp2_with fail
  have B0 : Below w.heap.size w w := Below.refl _ _
  obtain ⟨B1, T1, Z1, K1⟩ := one_more B0 B0.size #[.int .i64 a.kind, .int .i64 a.fro, .int .i64 a.till, .int .i64 a.at', .string a.name, .slice ia a.kids.length ic] 24
  generalize hw1 : w.alloc (.cells #[.int .i64 a.kind, .int .i64 a.fro, .int .i64 a.till, .int .i64 a.at', .string a.name, .slice ia a.kids.length ic] 24) = w1 at *
  obtain ⟨B2, T2, Z2, K2⟩ := one_more B1 B1.size #[.int .i64 0, .int .i64 0, .int .i64 0, .int .i64 0, .string ⟨#[]⟩, .slice none 0 0] 24
  generalize hw2 : w1.alloc (.cells #[.int .i64 0, .int .i64 0, .int .i64 0, .int .i64 0, .string ⟨#[]⟩, .slice none 0 0] 24) = w2 at *
  rw [Z1] at T2 Z2
  replace T1 := (K2.block _ (Array.getElem?_eq_some_iff.1 T1).1).trans T1
  have HS0 := Lib.hid (six_cells T1)
  have HK3 := Lib.hid (fun (W : World) (hb : Below w.heap.size w W) => hk.below hb)
  have HB2 := Lib.hid B2
  have HT2 := Lib.hid T2
  have HCC := Lib.hid hcc
  clear B0 B1 B2 Z1 K1 K2 T1 T2 Z2 hw1 hw2 hk hu
  generalize hN : w.heap.size = N at *
  have HNN := Lib.hid hN
  clear hN
  have HNE : Hid (N ≠ N + 1) := Lib.hid (by omega)
  refine wp_region_held_drew (S := (fun w' => w'.cell? ⟨N, 0, none⟩ = some (.int .i64 a.kind) ∧ w'.cell? ⟨N, 1, none⟩ = some (.int .i64 a.fro) ∧ w'.cell? ⟨N, 2, none⟩ = some (.int .i64 a.till) ∧ w'.cell? ⟨N, 3, none⟩ = some (.int .i64 a.at') ∧ w'.cell? ⟨N, 4, none⟩ = some (.string a.name) ∧ w'.cell? ⟨N, 5, none⟩ = some (.slice ia a.kids.length ic))) (by kernel_rfl) HS0.out (fun hHeld => ?_)
  refine wpAnyH_take (i := 0) (oi := ⟨some 3, _, _, _, _, _⟩) (v := ?_) rfl (by kernel_rfl) (by kernel_rfl) (by kernel_rfl) (fun _ _ _ h => h) (Or.inl ⟨by rfl, ?_⟩) hHeld ?_
  rotate_left
  · (intro W hSW; (try dsimp only at hSW); go_simp; first | done | with_reducible rfl)
  try simp only [Act.put, List.setIfInBounds_toArray, List.set_cons_zero, List.set_cons_succ]
  refine wpAnyH_take (i := 2) (oi := ⟨some 5, _, _, _, _, _⟩) (v := ?_) rfl (by kernel_rfl) (by kernel_rfl) (by kernel_rfl) (fun _ _ _ h => h) (Or.inl ⟨by rfl, ?_⟩) hHeld ?_
  rotate_left
  · (intro W hSW; (try dsimp only at hSW); go_simp; first | done | with_reducible rfl)
  try simp only [Act.put, List.setIfInBounds_toArray, List.set_cons_zero, List.set_cons_succ]
  refine wpAnyH_ready (rs := [1]) (by kernel_rfl) (by simp) ?_
  refine AllReadyH.cons (o := ⟨some 4, _, _, _, _, _⟩) rfl (fun K hK => ?_) AllReadyH.nil
  go_simp
  refine (block_nil _).mono ?_
  rintro e w' ⟨rfl, kq⟩
  refine hK.out _ _ (six_keep HS0.out (below_drew kq)) (fun hHeld2 => ?_)
  clear hK K hHeld
  try simp only [Act.put, List.setIfInBounds_toArray, List.set_cons_zero, List.set_cons_succ]
  refine wpAnyH_ready (rs := [3]) (by kernel_rfl) (by simp) ?_
  refine AllReadyH.cons (o := ⟨some 6, _, _, _, _, _⟩) rfl (fun K hK => ?_) AllReadyH.nil
  go_simp
  have hBr := alloc_below w' (.cells #[.int .i64 a.kind, .int .i64 a.fro, .int .i64 a.till, .int .i64 a.at', .string a.name, .slice ia a.kids.length ic, .int .i64 10, .int .i64 0, .int .i64 0, .int .i64 0, .string ⟨#[]⟩, .slice none 0 0, .int .i64 0, .int .i64 0, .int .i64 0, .int .i64 0, .string ⟨#[]⟩, .slice none 0 0] 24)
  have hTr := alloc_top w' #[.int .i64 a.kind, .int .i64 a.fro, .int .i64 a.till, .int .i64 a.at', .string a.name, .slice ia a.kids.length ic, .int .i64 10, .int .i64 0, .int .i64 0, .int .i64 0, .string ⟨#[]⟩, .slice none 0 0, .int .i64 0, .int .i64 0, .int .i64 0, .int .i64 0, .string ⟨#[]⟩, .slice none 0 0] 24
  have hB3 := (below_drew kq).trans (hBr.mono (below_drew kq).size)
  have hT4 := heap_keep hBr (((below_drew kq).block _ (Array.getElem?_eq_some_iff.1 HT2.out).1).trans HT2.out)
  refine hK.out _ _ (six_keep HS0.out hB3) (fun hHeld => ?_)
  clear hK K hHeld2
  generalize w'.alloc (.cells #[.int .i64 a.kind, .int .i64 a.fro, .int .i64 a.till, .int .i64 a.at', .string a.name, .slice ia a.kids.length ic, .int .i64 10, .int .i64 0, .int .i64 0, .int .i64 0, .string ⟨#[]⟩, .slice none 0 0, .int .i64 0, .int .i64 0, .int .i64 0, .int .i64 0, .string ⟨#[]⟩, .slice none 0 0] 24) = w4 at *
  generalize hgr : w'.heap.size = gr at *
  try simp only [Act.put, List.setIfInBounds_toArray, List.set_cons_zero, List.set_cons_succ]
  refine wpAnyH_take (i := 4) (oi := ⟨some 7, _, _, _, _, _⟩) (v := ?_) rfl (by kernel_rfl) (by kernel_rfl) (by kernel_rfl) (fun _ _ _ h => h) (Or.inl ⟨by rfl, ?_⟩) hHeld ?_
  rotate_left
  · (intro W hSW; (try dsimp only at hSW); go_simp; first | done | with_reducible rfl)
  try simp only [Act.put, List.setIfInBounds_toArray, List.set_cons_zero, List.set_cons_succ]
  refine wpAnyH_ready (rs := [5]) (by kernel_rfl) (by simp) ?_
  refine AllReadyH.cons (o := ⟨none, _, _, _, _, _⟩) rfl (fun K hK => ?_) AllReadyH.nil
  obtain ⟨c0, c1, c2, c3, c4, c5⟩ := six_cells hT4
  have f0 := frozen_of_row w4 (N + 1) 0 _ _ hT4
  have f1 := frozen_of_row w4 (N + 1) 1 _ _ hT4
  have f2 := frozen_of_row w4 (N + 1) 2 _ _ hT4
  have f3 := frozen_of_row w4 (N + 1) 3 _ _ hT4
  have f4 := frozen_of_row w4 (N + 1) 4 _ _ hT4
  have f5 := frozen_of_row w4 (N + 1) 5 _ _ hT4
  go_simp
  refine hK.out _ _ (six_set HNE.out (six_keep HS0.out hB3)) (fun hHeld5 => ?_)
  clear hK K hHeld hHeld5 c0 c1 c2 c3 c4 c5 f0 f1 f2 f3 f4 f5
  try simp only [Act.put, List.setIfInBounds_toArray, List.set_cons_zero, List.set_cons_succ]
  refine wpAnyH_done (by kernel_rfl) ?_ _
  go_wp2_with fail
  have hgN : gr ≠ N + 1 := by
    have h1 := (Array.getElem?_eq_some_iff.1 HT2.out).1
    have h2 := (below_drew kq).size
    omega
  have hB6 := HB2.out.trans (hB3.mono (by have h1 := HB2.out.size; have h2 := HNN.out; show N ≤ w2.heap.size; omega))
  have hr6 : ∀ {i : Nat} {x : Value}, w4.cell? ⟨gr, i, none⟩ = some x → _ := fun {i x} hx => cell_setN (v := .slice (some ⟨gr, 0, none⟩) 3 3) (j := 5) hgN (cell_setN (v := .string ⟨#[]⟩) (j := 4) hgN (cell_setN (v := .int .i64 0) (j := 3) hgN (cell_setN (v := .int .i64 0) (j := 2) hgN (cell_setN (v := .int .i64 0) (j := 1) hgN (cell_setN (v := .int .i64 14) (j := 0) hgN hx)))))
  have hB7 := below_set6 (a := .int .i64 14) (b := .int .i64 0) (c := .int .i64 0) (d := .int .i64 0) (e := .string ⟨#[]⟩) (f := .slice (some ⟨gr, 0, none⟩) 3 3) (R := N + 1) hB6 (by omega)
  refine ret_cell1A (p := 2) rfl _ rfl _ (load_nd (six_heap hT4)) ⟨_, rfl, ?_, ?_⟩
  · exact nin_kids (l := [a, tBlock [], tNone]) 14 ⟨#[]⟩ (Nat.le_refl _) (nln_cons (hr6 (cellA hTr (i := 0) rfl)) (hr6 (cellA hTr (i := 1) rfl)) (hr6 (cellA hTr (i := 2) rfl)) (hr6 (cellA hTr (i := 3) rfl)) (hr6 (cellA hTr (i := 4) rfl)) (hr6 (cellA hTr (i := 5) rfl)) (NIn.shut HCC.out (HK3.out _ hB7))
      (nln_cons (hr6 (cellA hTr (i := 6) rfl)) (hr6 (cellA hTr (i := 7) rfl)) (hr6 (cellA hTr (i := 8) rfl)) (hr6 (cellA hTr (i := 9) rfl)) (hr6 (cellA hTr (i := 10) rfl)) (hr6 (cellA hTr (i := 11) rfl)) (nin_leaf _ 10 ⟨#[]⟩)
      (nln_cons (hr6 (cellA hTr (i := 12) rfl)) (hr6 (cellA hTr (i := 13) rfl)) (hr6 (cellA hTr (i := 14) rfl)) (hr6 (cellA hTr (i := 15) rfl)) (hr6 (cellA hTr (i := 16) rfl)) (hr6 (cellA hTr (i := 17) rfl)) (nin_leaf _ 0 ⟨#[]⟩) nln_nil)))
  · rw [HNN.out]; exact hB7
theorem block_val (n : Nat) (A : Option Addr) (c : Nat) (w : World) : Calls Tryz.prog 66 #[.slice A n c] w fun e w' => e = .returned (.agg #[.int .i64 10, .int .i64 0, .int .i64 0, .int .i64 0, .string ⟨#[]⟩, .slice A n c]) ∧ Below w.heap.size w w' := by
  go_enter Tryz.func66, Tryz.ntmps66
  go_wp2_with fail
  obtain ⟨B1, T1, Z1, K1⟩ := one_more (Below.refl w.heap.size w) (Nat.le_refl _) #[.int .i64 10, .int .i64 0, .int .i64 0, .int .i64 0, .string ⟨#[]⟩, .slice A n c] 24
  exact ret_cell1A (p := 2) rfl _ rfl _ (load_nd T1) ⟨rfl, B1⟩
set_option maxRecDepth 100000 in
set_option maxHeartbeats 1000000 in
theorem body_tree (l : List Nd) (A : Option Addr) (c : Nat) (w : World) (hl : SIn w TT l A) (hc : l.length ≤ c) : Calls Tryz.prog 51 #[.slice A l.length c] w (TreeEnd (tBody l) w) := by
  have B0 : Below w.heap.size w w := Below.refl _ _
  obtain ⟨B1, T1, Z1, K1⟩ := one_more B0 B0.size #[.int .i64 0, .int .i64 0, .int .i64 0, .int .i64 0, .string ⟨#[]⟩, .slice none 0 0] 24
  have HC := Lib.hid (block_val l.length A c (w.alloc (.cells #[.int .i64 0, .int .i64 0, .int .i64 0, .int .i64 0, .string ⟨#[]⟩, .slice none 0 0] 24)))
  have HL := Lib.hid hl
  have HCC := Lib.hid hc
  have HNL : Hid (∀ W, SIn W TT l A → NIn W TT (tBlock l) (.agg #[.int .i64 10, .int .i64 0, .int .i64 0, .int .i64 0, .string ⟨#[]⟩, .slice A l.length c])) := Lib.hid (fun W h => nin_row 10 ⟨#[]⟩ hc h)
  have HT1 := Lib.hid T1
  have HB1 := Lib.hid B1
  clear B0 B1 T1 Z1 K1 hl hc
  generalize l.length = n at *
  go_enter Tryz.func51, Tryz.ntmps51
  go_wp2_with fail
  refine HC.out.mono ?_
  rintro e w2 ⟨rfl, hb⟩
  have hT2 := (hb.block _ (Array.getElem?_eq_some_iff.1 HT1.out).1).trans HT1.out
  have HB2 := Lib.hid (HB1.out.trans (hb.mono HB1.out.size))
  obtain ⟨B3, T3, Z3, K3⟩ := one_more (Below.refl w2.heap.size w2) (Nat.le_refl _) #[.int .i64 0, .int .i64 0, .int .i64 0, .int .i64 0, .string ⟨#[]⟩, .slice none 0 0, .int .i64 6, .int .i64 0, .int .i64 0, .int .i64 0, .string ⟨#[]⟩, .slice none 0 0, .int .i64 0, .int .i64 0, .int .i64 0, .int .i64 0, .string ⟨#[]⟩, .slice none 0 0, .int .i64 10, .int .i64 0, .int .i64 0, .int .i64 0, .string ⟨#[]⟩, .slice A n c] 24
  generalize hw3 : w2.alloc (.cells #[.int .i64 0, .int .i64 0, .int .i64 0, .int .i64 0, .string ⟨#[]⟩, .slice none 0 0, .int .i64 6, .int .i64 0, .int .i64 0, .int .i64 0, .string ⟨#[]⟩, .slice none 0 0, .int .i64 0, .int .i64 0, .int .i64 0, .int .i64 0, .string ⟨#[]⟩, .slice none 0 0, .int .i64 10, .int .i64 0, .int .i64 0, .int .i64 0, .string ⟨#[]⟩, .slice A n c] 24) = w3 at *
  obtain ⟨B4, T4, Z4, K4⟩ := one_more B3 B3.size #[.int .i64 5, .int .i64 0, .int .i64 0, .int .i64 0, .string ⟨#[102]⟩, .slice (some ⟨w2.heap.size, 0, none⟩) 4 4] 24
  generalize hw4 : w3.alloc (.cells #[.int .i64 5, .int .i64 0, .int .i64 0, .int .i64 0, .string ⟨#[102]⟩, .slice (some ⟨w2.heap.size, 0, none⟩) 4 4] 24) = w4 at *
  rw [Z3] at T4 Z4
  obtain ⟨B5, T5, Z5, K5⟩ := one_more B4 B4.size #[.int .i64 5, .int .i64 0, .int .i64 0, .int .i64 0, .string ⟨#[102]⟩, .slice (some ⟨w2.heap.size, 0, none⟩) 4 4] 24
  generalize hw5 : w4.alloc (.cells #[.int .i64 5, .int .i64 0, .int .i64 0, .int .i64 0, .string ⟨#[102]⟩, .slice (some ⟨w2.heap.size, 0, none⟩) 4 4] 24) = w5 at *
  rw [Z4] at T5 Z5
  have hE : (((w2.alloc (.cells #[.int .i64 0, .int .i64 0, .int .i64 0, .int .i64 0, .string ⟨#[]⟩, .slice none 0 0, .int .i64 6, .int .i64 0, .int .i64 0, .int .i64 0, .string ⟨#[]⟩, .slice none 0 0, .int .i64 0, .int .i64 0, .int .i64 0, .int .i64 0, .string ⟨#[]⟩, .slice none 0 0, .int .i64 10, .int .i64 0, .int .i64 0, .int .i64 0, .string ⟨#[]⟩, .slice A n c] 24)).alloc (.cells #[.int .i64 5, .int .i64 0, .int .i64 0, .int .i64 0, .string ⟨#[102]⟩, .slice (some ⟨w2.heap.size, 0, none⟩) 4 4] 24)).alloc (.cells #[.int .i64 5, .int .i64 0, .int .i64 0, .int .i64 0, .string ⟨#[102]⟩, .slice (some ⟨w2.heap.size, 0, none⟩) 4 4] 24)) = w5 := by rw [hw3, hw4, hw5]
  have hT5 := (B5.block _ (Array.getElem?_eq_some_iff.1 hT2).1).trans hT2
  have T3' := (K5.block _ (Array.getElem?_eq_some_iff.1 ((K4.block _ (Array.getElem?_eq_some_iff.1 T3).1).trans T3)).1).trans ((K4.block _ (Array.getElem?_eq_some_iff.1 T3).1).trans T3)
  have HT3 := Lib.hid T3'
  have HT5r := Lib.hid T5
  have HT5 := Lib.hid hT5
  have HB5 := Lib.hid B5
  have HE := Lib.hid hE
  rw [← hE] at hT5
  obtain ⟨c0, c1, c2, c3, c4, c5⟩ := six_cells hT5
  have f0 := frozen_of_row _ w.heap.size 0 _ _ hT5
  have f1 := frozen_of_row _ w.heap.size 1 _ _ hT5
  have f2 := frozen_of_row _ w.heap.size 2 _ _ hT5
  have f3 := frozen_of_row _ w.heap.size 3 _ _ hT5
  have f4 := frozen_of_row _ w.heap.size 4 _ _ hT5
  have f5 := frozen_of_row _ w.heap.size 5 _ _ hT5
  have HLT : Hid (w.heap.size < w2.heap.size) := Lib.hid (Array.getElem?_eq_some_iff.1 hT2).1
  clear hb HC hT2 hT5 B3 B4 B5 T3 T4 T5 Z3 Z4 Z5 K3 K4 K5 hw3 hw4 hw5 hE T3'
  go_wp2_with fail
  rw [HE.out]
  clear c0 c1 c2 c3 c4 c5 f0 f1 f2 f3 f4 f5
  have hB6 := HB2.out.trans (HB5.out.mono HB2.out.size)
  have hB7 := below_set6 (a := .int .i64 1) (b := .int .i64 0) (c := .int .i64 0) (d := .int .i64 0) (e := .string ⟨#[112]⟩) (f := .slice (some ⟨w2.heap.size + 1 + 1, 0, none⟩) 1 1) (R := w.heap.size) hB6 (Nat.le_refl _)
  have hr6 : ∀ {g i : Nat} {x : Value}, w.heap.size < g → w5.cell? ⟨g, i, none⟩ = some x → _ := fun {g i x} hg hx => cell_setN (B := g) (v := .slice (some ⟨w2.heap.size + 1 + 1, 0, none⟩) 1 1) (j := 5) (R := w.heap.size) (by omega) (cell_setN (v := .string ⟨#[112]⟩) (j := 4) (R := w.heap.size) (by omega) (cell_setN (v := .int .i64 0) (j := 3) (R := w.heap.size) (by omega) (cell_setN (v := .int .i64 0) (j := 2) (R := w.heap.size) (by omega) (cell_setN (v := .int .i64 0) (j := 1) (R := w.heap.size) (by omega) (cell_setN (v := .int .i64 1) (j := 0) (R := w.heap.size) (by omega) hx)))))
  have hl3 : w.heap.size < w2.heap.size := HLT.out
  have hl5 : w.heap.size < w2.heap.size + 1 + 1 := by omega
  have hbl := HNL.out _ (HL.out.below hB7)
  refine ret_cell1A (p := 2) rfl _ rfl _ (load_nd (six_heap HT5.out)) ⟨_, rfl, ?_, hB7⟩
  exact nin_kids (l := [nt 5 ⟨#[102]⟩ [tNone, nt 6 ⟨#[]⟩ [], tNone, tBlock l]]) 1 ⟨#[112]⟩ (Nat.le_refl _) (nln_cons (hr6 hl5 (cellA HT5r.out (i := 0) rfl)) (hr6 hl5 (cellA HT5r.out (i := 1) rfl)) (hr6 hl5 (cellA HT5r.out (i := 2) rfl)) (hr6 hl5 (cellA HT5r.out (i := 3) rfl)) (hr6 hl5 (cellA HT5r.out (i := 4) rfl)) (hr6 hl5 (cellA HT5r.out (i := 5) rfl))
      (nin_kids (l := [tNone, nt 6 ⟨#[]⟩ [], tNone, tBlock l]) 5 ⟨#[102]⟩ (Nat.le_refl _) (nln_cons (hr6 hl3 (cellA HT3.out (i := 0) rfl)) (hr6 hl3 (cellA HT3.out (i := 1) rfl)) (hr6 hl3 (cellA HT3.out (i := 2) rfl)) (hr6 hl3 (cellA HT3.out (i := 3) rfl)) (hr6 hl3 (cellA HT3.out (i := 4) rfl)) (hr6 hl3 (cellA HT3.out (i := 5) rfl)) (nin_leaf _ 0 ⟨#[]⟩) (nln_cons (hr6 hl3 (cellA HT3.out (i := 6) rfl)) (hr6 hl3 (cellA HT3.out (i := 7) rfl)) (hr6 hl3 (cellA HT3.out (i := 8) rfl)) (hr6 hl3 (cellA HT3.out (i := 9) rfl)) (hr6 hl3 (cellA HT3.out (i := 10) rfl)) (hr6 hl3 (cellA HT3.out (i := 11) rfl)) (nin_leaf _ 6 ⟨#[]⟩) (nln_cons (hr6 hl3 (cellA HT3.out (i := 12) rfl)) (hr6 hl3 (cellA HT3.out (i := 13) rfl)) (hr6 hl3 (cellA HT3.out (i := 14) rfl)) (hr6 hl3 (cellA HT3.out (i := 15) rfl)) (hr6 hl3 (cellA HT3.out (i := 16) rfl)) (hr6 hl3 (cellA HT3.out (i := 17) rfl)) (nin_leaf _ 0 ⟨#[]⟩) (nln_cons (hr6 hl3 (cellA HT3.out (i := 18) rfl)) (hr6 hl3 (cellA HT3.out (i := 19) rfl)) (hr6 hl3 (cellA HT3.out (i := 20) rfl)) (hr6 hl3 (cellA HT3.out (i := 21) rfl)) (hr6 hl3 (cellA HT3.out (i := 22) rfl)) (hr6 hl3 (cellA HT3.out (i := 23) rfl)) hbl nln_nil))))) nln_nil)
end Go.Proofs.YtcbfohokigamfaaGreatDoor
namespace Go.Proofs.YtcbfohokigamfaaGreatDoor
open Go.RowKit
variable {tk : Int → ByteArray → Bool} {O : ByteArray → Prop} {FAC : World → Prop}

/-- What Check needs to be told. -/
structure Ready (tk : Int → ByteArray → Bool) (O : ByteArray → Prop) (FAC : World → Prop) : Prop where
  keepF : ∀ w w', FAC w → Below w.heap.size w w' → FAC w'
  tok : ∀ W, FAC W → ∀ k : Int, 3 ≤ k ∧ k ≤ 5 → Calls Tryz.prog 206 #[.int .i64 k] W fun e w' => ∃ v, e = .returned v ∧ NmV O w' v (tk k) ∧ Below W.heap.size W w'
theorem name_val (s : ByteArray) (w : World) : Calls Tryz.prog 30 #[.string s] w fun e w' => e = .returned (.agg #[.int .i64 25, .int .i64 0, .int .i64 0, .int .i64 0, .string s, .slice none 0 0]) ∧ Below w.heap.size w w' := by
  go_enter Tryz.func30, Tryz.ntmps30
  go_wp2_with fail
  obtain ⟨B1, T1, Z1, K1⟩ := one_more (Below.refl w.heap.size w) (Nat.le_refl _) #[.int .i64 25, .int .i64 0, .int .i64 0, .int .i64 0, .string s, .slice none 0 0] 24
  exact ret_cell1A (p := 2) rfl _ rfl _ (load_nd T1) ⟨rfl, B1⟩
set_option maxRecDepth 100000 in
set_option maxHeartbeats 1000000 in
theorem may_any (R : Ready tk O FAC) (F : Nat) (x : Nd) (u : Value) (w : World) (hW : FAC w) (hF : Fit O (F + 1) 0 (tBody [x])) (hu : NIn w TT x u) (b : Bool) (hb : (chk tk F (tBody [x]) == 0) = b) :
    Calls Tryz.prog 31 #[u] w fun e w' => e = .returned (.bool b) ∧ Below w.heap.size w w' := by
  obtain ⟨ia, ic, rfl, hcc, hk⟩ := hu.open
  obtain ⟨B1, T1, Z1, K1⟩ := one_more (Below.refl w.heap.size w) (Nat.le_refl _) #[.int .i64 x.kind, .int .i64 x.fro, .int .i64 x.till, .int .i64 x.at', .string x.name, .slice ia x.kids.length ic] 24
  obtain ⟨B2, T2, Z2, K2⟩ := one_more B1 B1.size #[.int .i64 x.kind, .int .i64 x.fro, .int .i64 x.till, .int .i64 x.at', .string x.name, .slice ia x.kids.length ic] 24
  rw [Z1] at T2
  have HC := Lib.hid (body_tree [x] (some ⟨w.heap.size + 1, 0, none⟩) 1 ((w.alloc (.cells #[.int .i64 x.kind, .int .i64 x.fro, .int .i64 x.till, .int .i64 x.at', .string x.name, .slice ia x.kids.length ic] 24)).alloc (.cells #[.int .i64 x.kind, .int .i64 x.fro, .int .i64 x.till, .int .i64 x.at', .string x.name, .slice ia x.kids.length ic] 24))
    (fun _ => ⟨w.heap.size + 1, 0, rfl, trivial, nln_cons (cellA T2 (i := 0) rfl) (cellA T2 (i := 1) rfl) (cellA T2 (i := 2) rfl) (cellA T2 (i := 3) rfl) (cellA T2 (i := 4) rfl) (cellA T2 (i := 5) rfl) (NIn.shut hcc (hk.below B2)) nln_nil⟩) (Nat.le_refl _))
  have HB2 := Lib.hid B2
  have HR := Lib.hid R
  have HW := Lib.hid hW
  have HF := Lib.hid hF
  have HE := Lib.hid hb
  clear B1 T1 Z1 K1 B2 T2 Z2 K2 hk hu R hW hF hb
  rw [show ([x] : List Nd).length = 1 from rfl] at HC
  go_enter Tryz.func31, Tryz.ntmps31
  go_wp2_with fail
  refine HC.out.mono ?_
  rintro e w2 ⟨r, rfl, hn, hb⟩
  have HB3 := Lib.hid (HB2.out.trans (hb.mono HB2.out.size))
  have HCK := Lib.hid (check_any HR.out.keepF HR.out.tok F (tBody [x]) r w2 (HR.out.keepF _ _ HW.out HB3.out) HF.out hn)
  clear hb hn HC
  go_wp2_with fail
  refine HCK.out.mono ?_
  rintro e w3 ⟨rfl, hb⟩
  have HB4 := Lib.hid (HB3.out.trans (hb.mono HB3.out.size))
  clear hb HCK
  have hx := HE.out
  go_wp2_with fail
  go_ret
  exact ⟨rfl, HB4.out⟩
set_option maxRecDepth 100000 in
set_option maxHeartbeats 1000000 in
theorem no_any (R : Ready tk O FAC) (F : Nat) (x : Nd) (u : Value) (w : World) (hW : FAC w) (hF : Fit O (F + 1) 0 (tBody [x])) (hu : NIn w TT x u) (b : Bool) (hb : (chk tk F (tBody [x]) == 4) = b) :
    Calls Tryz.prog 34 #[u] w fun e w' => e = .returned (.bool b) ∧ Below w.heap.size w w' := by
  obtain ⟨ia, ic, rfl, hcc, hk⟩ := hu.open
  obtain ⟨B1, T1, Z1, K1⟩ := one_more (Below.refl w.heap.size w) (Nat.le_refl _) #[.int .i64 x.kind, .int .i64 x.fro, .int .i64 x.till, .int .i64 x.at', .string x.name, .slice ia x.kids.length ic] 24
  obtain ⟨B2, T2, Z2, K2⟩ := one_more B1 B1.size #[.int .i64 x.kind, .int .i64 x.fro, .int .i64 x.till, .int .i64 x.at', .string x.name, .slice ia x.kids.length ic] 24
  rw [Z1] at T2
  have HC := Lib.hid (body_tree [x] (some ⟨w.heap.size + 1, 0, none⟩) 1 ((w.alloc (.cells #[.int .i64 x.kind, .int .i64 x.fro, .int .i64 x.till, .int .i64 x.at', .string x.name, .slice ia x.kids.length ic] 24)).alloc (.cells #[.int .i64 x.kind, .int .i64 x.fro, .int .i64 x.till, .int .i64 x.at', .string x.name, .slice ia x.kids.length ic] 24))
    (fun _ => ⟨w.heap.size + 1, 0, rfl, trivial, nln_cons (cellA T2 (i := 0) rfl) (cellA T2 (i := 1) rfl) (cellA T2 (i := 2) rfl) (cellA T2 (i := 3) rfl) (cellA T2 (i := 4) rfl) (cellA T2 (i := 5) rfl) (NIn.shut hcc (hk.below B2)) nln_nil⟩) (Nat.le_refl _))
  have HB2 := Lib.hid B2
  have HR := Lib.hid R
  have HW := Lib.hid hW
  have HF := Lib.hid hF
  have HE := Lib.hid hb
  clear B1 T1 Z1 K1 B2 T2 Z2 K2 hk hu R hW hF hb
  rw [show ([x] : List Nd).length = 1 from rfl] at HC
  go_enter Tryz.func34, Tryz.ntmps34
  go_wp2_with fail
  refine HC.out.mono ?_
  rintro e w2 ⟨r, rfl, hn, hb⟩
  have HB3 := Lib.hid (HB2.out.trans (hb.mono HB2.out.size))
  have HCK := Lib.hid (check_any HR.out.keepF HR.out.tok F (tBody [x]) r w2 (HR.out.keepF _ _ HW.out HB3.out) HF.out hn)
  clear hb hn HC
  go_wp2_with fail
  refine HCK.out.mono ?_
  rintro e w3 ⟨rfl, hb⟩
  have HB4 := Lib.hid (HB3.out.trans (hb.mono HB3.out.size))
  clear hb HCK
  have hx := HE.out
  go_wp2_with fail
  go_ret
  exact ⟨rfl, HB4.out⟩
end Go.Proofs.YtcbfohokigamfaaGreatDoor
