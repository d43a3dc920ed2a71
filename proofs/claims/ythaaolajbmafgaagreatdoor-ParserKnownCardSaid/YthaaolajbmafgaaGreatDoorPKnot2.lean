/- All that the parser's functions read of expressions, statements and declarations, with fuel. A condition: what loopHead reads. The parser's loopHead, whole. All that the parser's functions read of declarations, with fuel: no condition but the parser's. -/
import Derived.Test.YthaaolajbmafgaaGreatDoorPFb
import Derived.Test.YthaaolajbmafgaaGreatDoorPW5
import Derived.Test.YthaaolajbmafgaaGreatDoorPW3
import Derived.Test.YthaaolajbmafgaaGreatDoorPW4
import Derived.Test.YthaaolajbmafgaaGreatDoorPW6
import Derived.Test.YthaaolajbmafgaaGreatDoorPW8
import Derived.Test.YthaaolajbmafgaaGreatDoorPW10
import Derived.Test.YthaaolajbmafgaaGreatDoorPW11
import Derived.Test.YthaaolajbmafgaaGreatDoorPW12
import Derived.Test.YthaaolajbmafgaaGreatDoorPKids
import Derived.Test.YthaaolajbmafgaaGreatDoorPHsemi
import Derived.Test.YthaaolajbmafgaaGreatDoorPHdef
import Derived.Test.YthaaolajbmafgaaGreatDoorPHexpr
namespace Go.Proofs.YthaaolajbmafgaaGreatDoor
open Go.RowKit
abbrev PPtr (p : PC) : Value := .pointer (some ⟨p.R, 0, none⟩)
theorem args_of (p : PC) (ex : Rd) (f : Nat) (hE : RdC p 201 #[PPtr p] ex) : RsC p 208 #[PPtr p] (argsP p.ts ex f) :=
 pargs_any p ex f (prow_any p mOpen mClose (by decide) (by decide) _ ex ⟨enters_of Tryz.func201 (by kernel_rfl) rfl, hE⟩ f)
theorem chain_of (p : PC) (ex : Rd) (f : Nat) (hE : RdC p 201 #[PPtr p] ex) : RdC p 186 #[PPtr p] (chainP p.ts ex f) :=
 pchain_any p ex f (poperand_any p ex hE f (args_of p ex f hE)) (args_of p ex f hE)
  (pliteral_any p ex f (prow_any p mLBrace mRBrace (by decide) (by decide) _ _ ⟨enters_of Tryz.func222 (by kernel_rfl) rfl, pkeyed_any p ex hE⟩ f))
  (fun _ _ _ h => .other _ (operand_kind h))
theorem ex_any (p : PC) : ∀ f : Nat, RdC p 238 #[PPtr p] (exF p.ts f).1 ∧ ∀ l : Nat, 1 ≤ l → l ≤ 6 → RdC p 220 #[PPtr p, .int .i64 (l : Int)] ((exF p.ts f).2 l)
 | 0 => ⟨(fun s w _ _ r h => by cases h), (fun l _ _ s w _ _ r h => by cases h)⟩
 | f + 1 => by
  have ih := ex_any p f
  have hE : RdC p 201 #[PPtr p] ((exF p.ts f).2 1) := pexpr_any p _ (ih.2 1 (by decide) (by decide))
  exact ⟨punary_any p _ _ f ih.1 (chain_of p _ f hE), fun l h1 h2 => pbinary_any p _ _ f l ⟨h1, h2⟩ ih.1 ih.2⟩
theorem expr_of (p : PC) (f : Nat) : RdC p 201 #[PPtr p] (exprP p.ts f) := pexpr_any p _ ((ex_any p f).2 1 (by decide) (by decide))
theorem typ_of (p : PC) : RdC p 131 #[PPtr p] (typP p.ts) := ptyp_any p (pownType_any p)
theorem block_of (p : PC) (st : Rd) (f : Nat) (hS : RdC p 162 #[PPtr p] st) : RdC p 132 #[PPtr p] (blockP p.ts st f) :=
 pblock_any p st f (plines_any p _ st ⟨enters_of Tryz.func162 (by kernel_rfl) rfl, hS⟩ f)
theorem st_any (p : PC) (hLH : ∀ f, LhC p (loopHeadP p.ts (exprP p.ts f) f)) : ∀ f : Nat, RdC p 162 #[PPtr p] (stF p.ts f).1 ∧ RdC p 177 #[PPtr p] (stF p.ts f).2
 | 0 => ⟨(fun s w _ _ r h => by cases h), (fun s w _ _ r h => by cases h)⟩
 | f + 1 => by
  have ih := st_any p hLH f
  have hE := expr_of p f
  have hB := block_of p _ f ih.1
  have hL := ploop_any p (exprP p.ts f) (stF p.ts f).1 f hB (hLH f)
  exact ⟨pstmt_any p (exprP p.ts f) (stF p.ts f).1 (stF p.ts f).2 f hB ih.2 hL (pvariable_any p _ hE (typ_of p)) (preturned_any p _ hE) (plabelled_any p _ _ f hL) (pdefine_any p _ hE) (chain_of p _ f hE) (psimple_any p _ hE) (fun _ _ _ h => chain_sel h),
   pcondition_any p (exprP p.ts f) (stF p.ts f).1 (stF p.ts f).2 f hE hB (pother_any p _ _ f ih.2 hB)⟩
theorem decl_of (p : PC) (hLH : ∀ f, LhC p (loopHeadP p.ts (exprP p.ts f) f)) (f : Nat) : RdC p 73 #[PPtr p] (declP p.ts f) := by
 have hT := typ_of p
 refine pdecl_any p f (pstructType_any p f (plines_any p _ _ ⟨enters_of Tryz.func128 (by kernel_rfl) rfl, pfield_any p (pnameAndType_any p 4 hT)⟩ f)) ?_
 refine pfunction_any p f (preceiver_any p (pownType_any p)) (pparams_any p f (prow_any p mOpen mClose (by decide) (by decide) _ _ ⟨enters_of Tryz.func160 (by kernel_rfl) rfl, pparam_any p (pnameAndType_any p 7 hT)⟩ f)) hT ?_
 exact block_of p _ f (st_any p hLH f).1
end Go.Proofs.YthaaolajbmafgaaGreatDoor
namespace Go.Proofs.YthaaolajbmafgaaGreatDoor
open Go.RowKit
theorem ploopHead_any (p : PC) (ex : Rd) (f : Nat) (hE : RdC p 201 #[.pointer (some ⟨p.R, 0, none⟩)] ex) (hD : RdC p 184 #[.pointer (some ⟨p.R, 0, none⟩)] (defineP p.ts ex)) (hCh : RdC p 186 #[.pointer (some ⟨p.R, 0, none⟩)] (chainP p.ts ex f)) (hSM : SimC p ex) (hG : ∀ s n s2, chainP p.ts ex f s = some (.ok n s2) → SelG n) (hGe : ∀ s n s2, ex s = some (.ok n s2) → SelG n) : LhC p (loopHeadP p.ts ex f) := by
 intro s w hs hi r hr
 cases hk : kdB p.ts s 7 with
 | true => exact ploopHead_semi p ex f hE hD hCh hSM hG hGe s w hs hi r hr hk
 | false =>
  cases hdd : nxB p.ts s mDef with
  | true => exact ploopHead_def p ex f hE hD hCh hSM hG hGe s w hs hi r hr hk hdd
  | false => exact ploopHead_expr p ex f hE hD hCh hSM hG hGe s w hs hi r hr hk hdd
end Go.Proofs.YthaaolajbmafgaaGreatDoor
namespace Go.Proofs.YthaaolajbmafgaaGreatDoor
open Go.RowKit
theorem lh_of (p : PC) (f : Nat) : LhC p (loopHeadP p.ts (exprP p.ts f) f) :=
 ploopHead_any p (exprP p.ts f) f (expr_of p f) (pdefine_any p _ (expr_of p f)) (chain_of p _ f (expr_of p f)) (psimple_any p _ (expr_of p f)) (fun _ _ _ h => chain_sel h) (fun s n t h => (exF_sel p.ts f).2 1 s n t h)
theorem decl_any (p : PC) (f : Nat) : RdC p 73 #[PPtr p] (declP p.ts f) := decl_of p (lh_of p) f
end Go.Proofs.YthaaolajbmafgaaGreatDoor
