/- The tokens of a text, and the end, are tokens as a parser has them. No program; no condition. How large the parser's trees are, plainly: no more nodes and bytes than two for each token that was passed, and the tokens' own bytes. No program; no condition. -/
import Derived.Test.YtmlclgkhnekmnaaGreatDoorPFm
import Derived.Test.YtmlclgkhnekmnaaGreatDoorPPars
import Derived.Test.YtmlclgkhnekmnaaGreatDoorLPlain4
import Derived.Test.YtmlclgkhnekmnaaGreatDoorPW14
namespace Go.Proofs.YtmlclgkhnekmnaaGreatDoor
open Go.RowKit
theorem wf_kind {ff : List UInt8 → Nat} {p : Option Tok} {us : List Tok} (h : WF ff p us) : ∀ t ∈ us, t.1 ≠ 0 ∧ t.1 ≤ 7 := by
 induction h with
 | nil p hp => intro t ht; cases ht
 | semi p k us hw _ ih =>
  intro t ht
  rcases List.mem_cons.1 ht with rfl | ht
  · exact ⟨(by show (7 : Nat) ≠ 0; decide), (by show (7 : Nat) ≤ 7; decide)⟩
  · exact ih t ht
 | real p t us hr _ ih =>
  intro u hu
  rcases List.mem_cons.1 hu with rfl | hu
  · have h1 := tokK_kind (u.2.1 ++ 32 :: [])
    rw [hr.tok []] at h1
    have h2 : 1 ≤ u.1 ∧ u.1 ≤ 7 := h1
    exact ⟨by omega, h2.2⟩
  · exact ih u hu
theorem tile_small {l : List UInt8} : ∀ (us : List Tok) (k : Nat) (b : Bool), TileL l k b us → ∀ t ∈ us, t.2.1.length ≤ l.length ∧ t.2.2.1 ≤ l.length ∧ t.2.2.2 ≤ l.length
 | [], _, _, _, _, ht => by cases ht
 | u :: us, k, b, h, t, ht => by
  obtain ⟨⟨h1, h2, h3, h4, _, _⟩, h⟩ := h
  rcases List.mem_cons.1 ht with rfl | ht
  · refine ⟨?_, by omega, h3⟩
    rw [← h4, List.length_take, List.length_drop]; omega
  · exact tile_small us _ _ h t ht
theorem agn_length : ∀ ts : List Tok, ts.length ≤ (agn ts).length
 | [] => by simp
 | t :: ts => by
  have h := agn_length ts
  have h1 : 1 ≤ (agn1 t).length := by
   unfold agn1
   split
   · simp
   · simp
  rw [show agn (t :: ts) = agn1 t ++ agn ts from rfl, List.length_append, List.length_cons]
  omega
theorem tokens_fault {ff : List UInt8 → Nat} {x : List UInt8} {p e : Nat} (h : tokensL ff x = .error (p, e)) : e ≠ 0 := by
 by_cases hl : x.length ≤ 65536
 · exact (place_in ff x p e h hl).2
 · unfold tokensL at h
   rw [if_pos (by omega)] at h
   injection h with h
   injection h with h1 h2
   omega
theorem tokens_small {ff : List UInt8 → Nat} {x : List UInt8} {l : List Tok} (h : tokensL ff x = .ok l) : x.length ≤ 65536 := by
 by_cases hl : x.length ≤ 65536
 · exact hl
 · unfold tokensL at h
   rw [if_pos (by omega)] at h
   cases h
theorem tokens_tok {ff : List UInt8 → Nat} {x : List UInt8} {l : List Tok} (h : tokensL ff x = .ok l) : TOk (l ++ [endTok x]) := by
 have hs := tokens_small h
 have hk := wf_kind (tokens_WF ff x l h).1
 have ht := tile_small l 0 true (tiles_of ff x l h)
 have hn := agn_length l
 have hn2 := again_len ff x l h
 refine ⟨by rw [List.length_append, List.length_singleton]; omega, by rw [List.length_append, List.length_singleton]; omega, fun t hm => ?_, fun i t hi he => ?_, fun i t hi he => ?_⟩
 · rcases List.mem_append.1 hm with hm | hm
   · have h1 := ht t hm
     exact ⟨by omega, by omega, by omega, (hk t hm).2⟩
   · obtain rfl := List.mem_singleton.1 hm
     exact ⟨by show ([] : List UInt8).length ≤ _; simp, by show x.length ≤ _; omega, by show x.length ≤ _; omega, by show 0 ≤ 7; omega⟩
 · rw [List.length_append, List.length_singleton] at he
   rw [List.getElem?_append_right (by omega), show i - l.length = 0 by omega] at hi
   have h1 : endTok x = t := by simpa using hi
   subst h1
   exact ⟨rfl, rfl⟩
 · rw [List.length_append, List.length_singleton] at he
   rw [List.getElem?_append_left (by omega)] at hi
   exact (hk t (List.mem_of_getElem? hi)).1
end Go.Proofs.YtmlclgkhnekmnaaGreatDoor
namespace Go.Proofs.YtmlclgkhnekmnaaGreatDoor
open Go.RowKit
def wt (ts : List Tok) : Nat → Nat
 | 0 => 0
 | i + 1 => wt ts i + 2 + ((ts[i]?).getD zT).2.1.length
def Gw {α : Type} (ts : List Tok) (μ : α → Nat) (B : Nat) (r : Pf α) : Prop := ∀ a s', r = some (.ok a s') → B + μ a ≤ wt ts s'.i
theorem gw_ok {α : Type} {ts : List Tok} {μ : α → Nat} {B : Nat} {a : α} {s : Ps} (h : B + μ a ≤ wt ts s.i) : Gw ts μ B (some (.ok a s)) := fun b s' e => by
 injection e with e; injection e with e1 e2; subst e1 e2; exact h
theorem gw_bad {α : Type} {ts : List Tok} {μ : α → Nat} {B k e : Nat} : Gw ts μ B (some (.bad k e : Pz α)) := fun b s' e => by injection e with e; cases e
theorem gw_none {α : Type} {ts : List Tok} {μ : α → Nat} {B : Nat} : Gw ts μ B (none : Pf α) := fun b s' e => by cases e
theorem gw_bind {α β : Type} {ts : List Tok} {μ : α → Nat} {ν : β → Nat} {B C : Nat} {r : Pf α} {f : α → Ps → Pf β} (h : Gw ts μ B r) (hf : ∀ a s', B + μ a ≤ wt ts s'.i → Gw ts ν C (f a s')) : Gw ts ν C (r.bind f) := by
 match r, h with
 | none, _ => exact gw_none
 | some (.bad k e), _ => exact gw_bad
 | some (.ok a s), h => exact hf a s (h a s rfl)
theorem Gw.less {α : Type} {ts : List Tok} {μ ν : α → Nat} {B C : Nat} {r : Pf α} (h : Gw ts μ B r) (hl : ∀ a, C + ν a ≤ B + μ a) : Gw ts ν C r := fun a s e => Nat.le_trans (hl a) (h a s e)
theorem wt_adv (ts : List Tok) (s : Ps) : wt ts (adv s).i = wt ts s.i + 2 + (tk ts s).2.1.length := rfl
def tw (t : Tok) : Nat := 2 + t.2.1.length
theorem next_w (ts : List Tok) (s : Ps) : Gw ts tw (wt ts s.i) (nextP ts s) := gw_ok (by rw [wt_adv]; unfold tw; omega)
theorem take_w (ts : List Tok) (m : List UInt8) (s : Ps) : Gw ts (fun _ => 2 + m.length) (wt ts s.i) (takeP ts m s) := by
 unfold takeP
 split
 · rename_i h
   refine gw_ok ?_
   have e : (tk ts s).2.1 = m := eq_of_beq h
   rw [wt_adv, e]; omega
 · exact gw_bad
theorem takeK_w (ts : List Tok) (k : Nat) (s : Ps) : Gw ts tw (wt ts s.i) (takeKP ts k s) := by
 unfold takeKP
 split
 · exact next_w ts s
 · exact gw_bad
theorem begin_w (ts : List Tok) (m : List UInt8) (s : Ps) : Gw ts (fun _ => 2 + m.length) (wt ts s.i) (beginP ts m s) := by
 unfold beginP
 split
 · exact gw_bad
 · exact gw_bind (take_w ts m s) fun t s' h => gw_ok h
theorem finish_w (ts : List Tok) (m : List UInt8) (s : Ps) : Gw ts (fun _ => 2 + m.length) (wt ts s.i) (finishP ts m s) := gw_bind (take_w ts m s) fun _t _s' h => gw_ok h
theorem sz_mk (k f t a : Int) (x : List UInt8) (l : List Nd) : sz (.mk k f t a (txt x) l) = 1 + x.length + szL l := by rw [sz]; rfl
theorem sz_mkN (ts : List Tok) (k f a : Nat) (x : List UInt8) (l : List Nd) (s : Ps) : sz (mkN ts k f a x l s) = 1 + x.length + szL l := sz_mk ..
theorem sz_mkE (ts : List Tok) (k : Nat) (e : Nd) (a : Nat) (x : List UInt8) (l : List Nd) (s : Ps) : sz (mkE ts k e a x l s) = 1 + x.length + szL l := sz_mk ..
theorem szL_1 (a : Nd) : szL [a] = sz a := by rw [szL, szL]; omega
theorem szL_2 (a b : Nd) : szL [a, b] = sz a + sz b := by rw [szL, szL_1]
theorem szL_3 (a b c : Nd) : szL [a, b, c] = sz a + sz b + sz c := by rw [szL, szL_2]; omega
theorem szL_4 (a b c d : Nd) : szL [a, b, c, d] = sz a + sz b + sz c + sz d := by rw [szL, szL_3]; omega
theorem szL_0 : szL [] = 0 := by rw [szL]
theorem szL_snoc (l : List Nd) (n : Nd) : szL (l ++ [n]) = szL l + sz n := by rw [szL_append, szL_1]
theorem sz_noN : sz noN = 1 := by unfold noN; rw [sz, szL]; rfl
theorem sz_ofKind (k : Int) (n : Nd) : sz (ofKind k n) = sz n := by cases n; unfold ofKind; rw [sz, sz]; rfl
def sz1 (n : Nd) : Nat := sz n + 1
def Gr (ts : List Tok) (r : Rd) : Prop := ∀ s, Gw ts sz (wt ts s.i) (r s)
def Ge (ts : List Tok) (r : Rd) : Prop := ∀ s, Gw ts sz1 (wt ts s.i) (r s)
theorem Ge.gr {ts : List Tok} {r : Rd} (h : Ge ts r) : Gr ts r := fun s => (h s).less fun a => by unfold sz1; omega
theorem linesL_w {ts : List Tok} {one : Rd} (h1 : Gr ts one) : ∀ (f : Nat) (l : List Nd) (s : Ps) (B : Nat), B + szL l ≤ wt ts s.i → Gw ts szL B (linesL ts one f l s)
 | 0, _, _, _, _ => gw_none
 | f + 1, l, s, B, h => by
  unfold linesL
  split
  · exact gw_ok h
  · refine gw_bind (h1 s) fun n s1 e1 => ?_
    split
    · exact linesL_w h1 f _ s1 B (by rw [szL_snoc]; omega)
    · refine gw_bind (takeK_w ts 7 s1) fun _ s2 e2 => ?_
      unfold tw at e2
      exact linesL_w h1 f _ s2 B (by rw [szL_snoc]; omega)
theorem lines_w {ts : List Tok} {one : Rd} (h1 : Gr ts one) (f : Nat) (s : Ps) : Gw ts (fun l => szL l + 6) (wt ts s.i) (linesP ts one f s) := by
 refine gw_bind (begin_w ts _ s) fun _ s1 e1 => ?_
 refine gw_bind (linesL_w h1 f [] s1 (wt ts s1.i) (by rw [szL_0]; omega)) fun l s2 e2 => ?_
 refine gw_bind (finish_w ts _ s2) fun _ s3 e3 => gw_ok ?_
 have a1 : mLBrace.length = 1 := rfl
 have a2 : mRBrace.length = 1 := rfl
 omega
theorem rowL_w {ts : List Tok} {one : Rd} (h1 : Gr ts one) : ∀ (f : Nat) (more : Bool) (l : List Nd) (s : Ps) (B : Nat), B + szL l ≤ wt ts s.i → Gw ts szL B (rowL ts one f more l s)
 | 0, _, _, _, _, _ => gw_none
 | f + 1, more, l, s, B, h => by
  unfold rowL
  split
  · refine gw_bind (h1 s) fun n s1 e1 => ?_
    split
    · exact rowL_w h1 f true _ (adv s1) B (by rw [szL_snoc, wt_adv]; omega)
    · exact rowL_w h1 f false _ s1 B (by rw [szL_snoc]; omega)
  · exact gw_ok h
theorem row_w {ts : List Tok} {a b : List UInt8} {one : Rd} (h1 : Gr ts one) (f : Nat) (s : Ps) : Gw ts (fun l => szL l + 4) (wt ts s.i) (rowP ts a b one f s) := by
 refine gw_bind (begin_w ts _ s) fun _ s1 e1 => ?_
 refine gw_bind (rowL_w h1 f _ [] s1 (wt ts s1.i) (by rw [szL_0]; omega)) fun l s2 e2 => ?_
 exact gw_bind (finish_w ts _ s2) fun _ s3 e3 => gw_ok (by omega)
theorem leaf_w (ts : List Tok) (k : Nat) (s : Ps) : Gw ts sz1 (wt ts s.i) (leafP ts k s) :=
 gw_bind (next_w ts s) fun t s1 e1 => gw_ok (by unfold sz1; unfold tw at e1; rw [sz_mkN, szL_0]; omega)
theorem keyed_w {ts : List Tok} {ex : Rd} (h1 : Ge ts ex) : Gr ts (keyedP ts ex) := fun s => by
 refine gw_bind (takeK_w ts 1 s) fun t s1 e1 => ?_
 refine gw_bind (take_w ts _ s1) fun _ s2 e2 => ?_
 refine gw_bind (h1 s2) fun e s3 e3 => gw_ok ?_
 unfold tw at e1
 unfold sz1 at e3
 rw [sz_mkN, szL_1]; omega
theorem literal_w {ts : List Tok} {ex : Rd} (h1 : Ge ts ex) (f : Nat) (e : Nd) (s : Ps) (B : Nat) (h : B + sz1 e ≤ wt ts s.i) : Gw ts sz1 B (literalP ts ex f e s) := by
 refine gw_bind (row_w (keyed_w h1) f s) fun l s1 e1 => gw_ok ?_
 unfold sz1 at h ⊢
 rw [sz_mkE, szL, sz_ofKind]
 show _ + (1 + 0 + _ + 1) ≤ _
 omega
theorem operand_w {ts : List Tok} {ex : Rd} (h1 : Ge ts ex) (f : Nat) : Ge ts (operandP ts ex f) := fun s => by
 unfold operandP
 repeat' split
 all_goals try exact leaf_w ts _ s
 · refine gw_bind (next_w ts s) fun t s1 e1 => ?_
   refine gw_bind (row_w h1.gr f s1) fun l s2 e2 => gw_ok ?_
   unfold tw at e1
   unfold sz1
   rw [sz_mkN]; omega
 · refine gw_bind (begin_w ts _ s) fun t s1 e1 => ?_
   refine gw_bind (h1 s1) fun e s2 e2 => ?_
   refine gw_bind (finish_w ts _ s2) fun _ s3 e3 => gw_ok ?_
   unfold sz1 at e2 ⊢
   rw [sz_mkN, szL_1]
   show _ + (1 + 0 + _ + 1) ≤ _
   omega
theorem chainL_w {ts : List Tok} {ex : Rd} (h1 : Ge ts ex) (f0 : Nat) : ∀ (f : Nat) (e : Nd) (s : Ps) (B : Nat), B + sz1 e ≤ wt ts s.i → Gw ts sz1 B (chainL ts ex f0 f e s)
 | 0, _, _, _, _ => gw_none
 | f + 1, e, s, B, h => by
  unfold chainL
  split
  · refine gw_bind (takeK_w ts 1 (adv s)) fun t s1 e1 => ?_
    rw [wt_adv] at e1
    unfold tw at e1
    refine chainL_w h1 f0 f _ s1 B ?_
    unfold sz1 at h ⊢
    rw [sz_mkE, szL_1]; omega
  split
  · refine gw_bind (row_w h1.gr f0 s) fun l s1 e1 => ?_
    refine chainL_w h1 f0 f _ s1 B ?_
    unfold sz1 at h ⊢
    rw [sz_mkE, szL]
    show _ + (1 + 0 + _ + 1) ≤ _
    omega
  split
  · exact gw_bind (literal_w h1 f0 e s B h) fun e s1 e1 => chainL_w h1 f0 f e s1 B e1
  · exact gw_ok h
theorem chain_w {ts : List Tok} {ex : Rd} (h1 : Ge ts ex) (f : Nat) : Ge ts (chainP ts ex f) := fun s =>
 gw_bind (operand_w h1 f s) fun e s1 e1 => chainL_w h1 f f e s1 _ e1
theorem unary_w {ts : List Tok} {un ex : Rd} (hu : Ge ts un) (h1 : Ge ts ex) (f : Nat) : Ge ts (unaryP ts un ex f) := fun s => by
 unfold unaryP
 split
 · refine gw_bind (next_w ts s) fun t s1 e1 => ?_
   refine gw_bind (hu s1) fun e s2 e2 => gw_ok ?_
   unfold tw at e1
   unfold sz1 at e2 ⊢
   rw [sz_mkN, szL_1]; omega
 · exact chain_w h1 f s
theorem binL_w {ts : List Tok} {bi : Nat → Rd} (h1 : ∀ l, Ge ts (bi l)) (least : Nat) : ∀ (f : Nat) (e : Nd) (s : Ps) (B : Nat), B + sz1 e ≤ wt ts s.i → Gw ts sz1 B (binL ts bi least f e s)
 | 0, _, _, _, _ => gw_none
 | f + 1, e, s, B, h => by
  unfold binL
  split
  · exact gw_ok h
  · refine gw_bind (h1 _ (adv s)) fun r s1 e1 => ?_
    rw [wt_adv] at e1
    refine binL_w h1 least f _ s1 B ?_
    unfold sz1 at h e1 ⊢
    rw [sz_mkE, szL_2]; omega
theorem exF_w (ts : List Tok) : ∀ f : Nat, Ge ts (exF ts f).1 ∧ ∀ l, Ge ts ((exF ts f).2 l)
 | 0 => ⟨fun _ => gw_none, fun _ _ => gw_none⟩
 | f + 1 => by
  obtain ⟨hu, hb⟩ := exF_w ts f
  exact ⟨unary_w hu (hb 1) f, fun l s => gw_bind (hu s) fun e s1 e1 => binL_w hb l f e s1 _ e1⟩
theorem expr_w (ts : List Tok) (f : Nat) : Ge ts (exprP ts f) := (exF_w ts f).2 1
theorem ownType_w (ts : List Tok) : Gr ts (ownTypeP ts) := fun s =>
 gw_bind (takeK_w ts 1 s) fun t s1 e1 => gw_ok (by unfold tw at e1; rw [sz_mkN, szL_0]; omega)
theorem typ_w (ts : List Tok) : Gr ts (typP ts) := fun s => by
 unfold typP
 split
 · exact gw_bind (next_w ts s) fun t s1 e1 => gw_ok (by unfold tw at e1; rw [sz_mkN, szL_0]; omega)
 · refine gw_bind (ownType_w ts s) fun e s1 e1 => ?_
   split
   · refine gw_bind (takeK_w ts 1 (adv s1)) fun t s2 e2 => gw_ok ?_
     rw [wt_adv] at e2
     unfold tw at e2
     rw [sz_mkE, szL_1, sz_ofKind]; omega
   · exact gw_ok e1
theorem nt_w (ts : List Tok) (k : Nat) : Gr ts (ntP ts k) := fun s => by
 refine gw_bind (takeK_w ts 1 s) fun t s1 e1 => ?_
 refine gw_bind (typ_w ts s1) fun e s2 e2 => gw_ok ?_
 unfold tw at e1
 rw [sz_mkN, szL_1]; omega
theorem opt_w {ts : List Tok} {b : Bool} {r : Rd} {s : Ps} {B : Nat} (h : b = true → Gw ts sz B (r s)) (hm : B + 1 ≤ wt ts s.i) : Gw ts sz B (optP b r s) := by
 unfold optP
 split
 · rename_i hb; exact h hb
 · exact gw_ok (by rw [sz_noN]; exact hm)
theorem block_w {ts : List Tok} {st : Rd} (h1 : Gr ts st) (f : Nat) : Gr ts (blockP ts st f) := fun s =>
 gw_bind (lines_w h1 f s) fun l s1 e1 => gw_ok (by rw [sz_mkN]; show _ + (1 + 0 + _) ≤ _; omega)
theorem variable_w {ts : List Tok} {ex : Rd} (h1 : Ge ts ex) : Gr ts (variableP ts ex) := fun s => by
 refine gw_bind (take_w ts _ s) fun _ s1 e1 => ?_
 refine gw_bind (takeK_w ts 1 s1) fun t s2 e2 => ?_
 unfold tw at e2
 refine gw_bind (opt_w (B := wt ts s2.i - 1) (fun _ => (typ_w ts s2).less fun a => by omega) (by omega)) fun y s3 e3 => ?_
 refine gw_bind (opt_w (B := wt ts s3.i - 1) (fun _ => ((h1 (adv s3)).less fun a => by rw [wt_adv]; unfold sz1; omega)) (by omega)) fun e s4 e4 => gw_ok ?_
 have a1 : wVar.length = 3 := rfl
 rw [sz_mkN, szL_2]; omega
theorem returned_w {ts : List Tok} {ex : Rd} (h1 : Ge ts ex) : Gr ts (returnedP ts ex) := fun s => by
 refine gw_bind (take_w ts _ s) fun _ s1 e1 => ?_
 split
 · exact gw_ok (by rw [sz_mkN, szL_0]; show _ + (1 + 0 + 0) ≤ _; omega)
 · refine gw_bind (h1 s1) fun e s2 e2 => gw_ok ?_
   unfold sz1 at e2
   rw [sz_mkN, szL_1]; show _ + (1 + 0 + _) ≤ _; omega
theorem jump_w (ts : List Tok) (k : Nat) : Gr ts (jumpP ts k) := fun s => by
 refine gw_bind (next_w ts s) fun _ s1 e1 => ?_
 unfold tw at e1
 split
 · refine gw_bind (next_w ts s1) fun t s2 e2 => gw_ok ?_
   unfold tw at e2
   rw [sz_mkN, szL_0]; omega
 · exact gw_ok (by rw [sz_mkN, szL_0]; show _ + (1 + 0 + 0) ≤ _; omega)
theorem define_w {ts : List Tok} {ex : Rd} (h1 : Ge ts ex) : Gr ts (defineP ts ex) := fun s => by
 refine gw_bind (takeK_w ts 1 s) fun t s1 e1 => ?_
 refine gw_bind (take_w ts _ s1) fun _ s2 e2 => ?_
 refine gw_bind (h1 s2) fun e s3 e3 => gw_ok ?_
 unfold tw at e1
 unfold sz1 at e3
 rw [sz_mkN, szL_1]; omega
theorem simple_w {ts : List Tok} {ex : Rd} (h1 : Ge ts ex) (e : Nd) (s : Ps) (B : Nat) (h : B + sz1 e ≤ wt ts s.i) : Gw ts sz B (simpleP ts ex e s) := by
 unfold sz1 at h
 unfold simpleP
 split
 · refine gw_bind (h1 (adv s)) fun v s1 e1 => gw_ok ?_
   rw [wt_adv] at e1
   unfold sz1 at e1
   rw [sz_mkE, szL_2]; show _ + (1 + 0 + _) ≤ _; omega
 split
 · refine gw_ok ?_
   rw [sz, szL_1]; show _ + (1 + 0 + _) ≤ _; omega
 · exact gw_bad
theorem cond_w {ts : List Tok} {ex st co : Rd} (h1 : Ge ts ex) (h2 : Gr ts st) (h3 : Gr ts co) (f : Nat) : Gr ts (condP ts ex st co f) := fun s => by
 refine gw_bind (take_w ts _ s) fun _ s1 e1 => ?_
 refine gw_bind (h1 (headP s1)) fun e s2 e2 => ?_
 refine gw_bind (block_w h2 f (bodyP s2)) fun b s3 e3 => ?_
 refine gw_bind (opt_w (B := wt ts s3.i - 1) (fun _ => ?_) (by change wt ts s2.i + _ ≤ _ at e3; change wt ts s1.i + _ ≤ _ at e2; omega)) fun o s4 e4 => gw_ok ?_
 · have hb : Gr ts (otherP ts st co f) := fun s => by
    unfold otherP
    split
    · exact h3 s
    · exact block_w h2 f s
   exact (hb (adv s3)).less fun a => by rw [wt_adv]; omega
 · change wt ts s2.i + _ ≤ _ at e3
   change wt ts s1.i + _ ≤ _ at e2
   unfold sz1 at e2
   rw [sz_mkN, szL_3]; show _ + (1 + 0 + _) ≤ _; omega
def sz3 (r : Nd × Nd × Nd) : Nat := sz r.1 + sz r.2.1 + sz r.2.2
theorem loopTail_w {ts : List Tok} {ex : Rd} (h1 : Ge ts ex) (f : Nat) (a : Nd) (s : Ps) (B : Nat) (h : B + sz a ≤ wt ts s.i) : Gw ts sz3 B (loopTail ts ex f a s) := by
 refine gw_bind (takeK_w ts 7 s) fun _ s1 e1 => ?_
 unfold tw at e1
 refine gw_bind (opt_w (B := wt ts s1.i - 1) (fun _ => (h1 s1).less fun a => by unfold sz1; omega) (by omega)) fun e s2 e2 => ?_
 refine gw_bind (takeK_w ts 7 s2) fun _ s3 e3 => ?_
 unfold tw at e3
 refine gw_bind (opt_w (B := wt ts s3.i - 1) (fun _ => ?_) (by omega)) fun z s4 e4 => gw_ok ?_
 · refine gw_bind (chain_w h1 f s3) fun e s4 e4 => ?_
   exact (simple_w h1 e s4 _ e4).less fun a => by omega
 · show B + (sz a + sz e + sz z) ≤ _
   omega
theorem loopHead_w {ts : List Tok} {ex : Rd} (h1 : Ge ts ex) (f : Nat) (s : Ps) (B : Nat) (h : B + 2 ≤ wt ts s.i) : Gw ts sz3 B (loopHeadP ts ex f s) := by
 unfold loopHeadP
 split
 · exact loopTail_w h1 f noN s B (by rw [sz_noN]; omega)
 split
 · exact gw_bind (define_w h1 s) fun a s1 e1 => loopTail_w h1 f a s1 B (by omega)
 · refine gw_bind (h1 s) fun e s1 e1 => ?_
   split
   · refine gw_ok ?_
     unfold sz1 at e1
     show B + (sz noN + sz e + sz noN) ≤ _
     rw [sz_noN]; omega
   · exact gw_bind (simple_w h1 e s1 _ e1) fun a s2 e2 => loopTail_w h1 f a s2 B (by omega)
theorem loop_w {ts : List Tok} {ex st : Rd} (h1 : Ge ts ex) (h2 : Gr ts st) (f : Nat) : Gr ts (loopP ts ex st f) := fun s => by
 refine gw_bind (take_w ts _ s) fun _ s1 e1 => ?_
 have a1 : wFor.length = 3 := rfl
 refine gw_bind (μ := sz3) (B := wt ts s.i + 2) ?_ fun r s2 e2 => ?_
 · unfold loopMid
   split
   · refine gw_ok ?_
     show _ + (sz noN + sz noN + sz noN) ≤ wt ts s1.i
     rw [sz_noN]; omega
   · exact loopHead_w h1 f (headP s1) _ (by show _ ≤ wt ts s1.i; omega)
 · refine gw_bind (block_w h2 f (bodyP s2)) fun b s3 e3 => gw_ok ?_
   change wt ts s2.i + _ ≤ _ at e3
   change _ + (sz r.1 + sz r.2.1 + sz r.2.2) ≤ _ at e2
   rw [sz_mkN, szL_4]; show _ + (1 + 0 + _) ≤ _; omega
theorem labelled_w {ts : List Tok} {ex st : Rd} (h1 : Ge ts ex) (h2 : Gr ts st) (f : Nat) : Gr ts (labelledP ts ex st f) := fun s => by
 refine gw_bind (takeK_w ts 1 s) fun t s1 e1 => ?_
 refine gw_bind (take_w ts _ s1) fun _ s2 e2 => ?_
 refine gw_bind (loop_w h1 h2 f s2) fun l s3 e3 => gw_ok ?_
 unfold tw at e1
 rw [sz_mkN, szL_1]; omega
theorem stmt_w {ts : List Tok} {ex st co : Rd} (h1 : Ge ts ex) (h2 : Gr ts st) (h3 : Gr ts co) (f : Nat) : Gr ts (stmtP ts ex st co f) := fun s => by
 unfold stmtP
 split
 · exact block_w h2 f s
 split
 · exact h3 s
 split
 · exact loop_w h1 h2 f s
 split
 · exact variable_w h1 s
 split
 · exact returned_w h1 s
 split
 · exact jump_w ts 17 s
 split
 · exact jump_w ts 18 s
 split
 · exact labelled_w h1 h2 f s
 split
 · exact define_w h1 s
 · exact gw_bind (chain_w h1 f s) fun e s1 e1 => simple_w h1 e s1 _ e1
theorem stF_w (ts : List Tok) : ∀ f : Nat, Gr ts (stF ts f).1 ∧ Gr ts (stF ts f).2
 | 0 => ⟨fun _ => gw_none, fun _ => gw_none⟩
 | f + 1 => by
  obtain ⟨hs, hc⟩ := stF_w ts f
  exact ⟨stmt_w (expr_w ts f) hs hc f, cond_w (expr_w ts f) hs hc f⟩
theorem receiver_w (ts : List Tok) : Gr ts (receiverP ts) := fun s => by
 refine gw_bind (begin_w ts _ s) fun _ s1 e1 => ?_
 refine gw_bind (takeK_w ts 1 s1) fun t s2 e2 => ?_
 refine gw_bind (ownType_w ts s2) fun y s3 e3 => ?_
 refine gw_bind (finish_w ts _ s3) fun _ s4 e4 => gw_ok ?_
 unfold tw at e2
 rw [sz_mkN, szL_1]; omega
theorem params_w (ts : List Tok) (f : Nat) : Gr ts (paramsP ts f) := fun s =>
 gw_bind (row_w (nt_w ts 7) f s) fun l s1 e1 => gw_ok (by rw [sz_mkN]; show _ + (1 + 0 + _) ≤ _; omega)
theorem function_w (ts : List Tok) (f : Nat) : Gr ts (functionP ts f) := fun s => by
 refine gw_bind (take_w ts _ s) fun _ s1 e1 => ?_
 have a1 : wFunc.length = 4 := rfl
 refine gw_bind (opt_w (B := wt ts s1.i - 1) (fun _ => (receiver_w ts s1).less fun a => by omega) (by omega)) fun r s2 e2 => ?_
 refine gw_bind (takeK_w ts 1 s2) fun t s3 e3 => ?_
 unfold tw at e3
 refine gw_bind (params_w ts f s3) fun a s4 e4 => ?_
 refine gw_bind (opt_w (B := wt ts s4.i - 1) (fun _ => (typ_w ts s4).less fun a => by omega) (by omega)) fun y s5 e5 => ?_
 refine gw_bind (block_w (stF_w ts f).1 f s5) fun b s6 e6 => gw_ok ?_
 rw [sz_mkN, szL_4]; omega
theorem struct_w (ts : List Tok) (f : Nat) : Gr ts (structP ts f) := fun s => by
 refine gw_bind (take_w ts _ s) fun _ s1 e1 => ?_
 refine gw_bind (takeK_w ts 1 s1) fun t s2 e2 => ?_
 refine gw_bind (take_w ts _ s2) fun _ s3 e3 => ?_
 refine gw_bind (lines_w (nt_w ts 4) f s3) fun l s4 e4 => gw_ok ?_
 unfold tw at e2
 rw [sz_mkN]; omega
theorem decl_w (ts : List Tok) (f : Nat) : Gr ts (declP ts f) := fun s => by
 unfold declP
 split
 · exact struct_w ts f s
 · exact function_w ts f s
theorem imported_w (ts : List Tok) : Gr ts (importedP ts) := fun s => by
 refine gw_bind (take_w ts _ s) fun _ s1 e1 => ?_
 split
 · split
   · refine gw_ok ?_
     have h := valT_len (tk ts s1).2.1
     rw [sz_mkN, szL_0, wt_adv]; omega
   · exact gw_bad
 · exact gw_bad
theorem importsL_w (ts : List Tok) : ∀ (f : Nat) (l : List Nd) (s : Ps) (B : Nat), B + szL l ≤ wt ts s.i → Gw ts szL B (importsL ts f l s)
 | 0, _, _, _, _ => gw_none
 | f + 1, l, s, B, h => by
  unfold importsL
  split
  · refine gw_bind (imported_w ts s) fun n s1 e1 => ?_
    refine gw_bind (takeK_w ts 7 s1) fun _ s2 e2 => ?_
    unfold tw at e2
    exact importsL_w ts f _ s2 B (by rw [szL_snoc]; omega)
  · exact gw_ok h
theorem declsL_w (ts : List Tok) (f0 : Nat) : ∀ (f : Nat) (l : List Nd) (s : Ps) (B : Nat), B + szL l ≤ wt ts s.i → Gw ts szL B (declsL ts f0 f l s)
 | 0, _, _, _, _ => gw_none
 | f + 1, l, s, B, h => by
  unfold declsL
  split
  · exact gw_ok h
  · refine gw_bind (decl_w ts f0 s) fun n s1 e1 => ?_
    refine gw_bind (takeK_w ts 7 s1) fun _ s2 e2 => ?_
    unfold tw at e2
    exact declsL_w ts f0 f _ s2 B (by rw [szL_snoc]; omega)
theorem file_w (ts : List Tok) (f : Nat) : Gr ts (fileP ts f) := fun s => by
 refine gw_bind (take_w ts _ s) fun _ s1 e1 => ?_
 refine gw_bind (takeK_w ts 1 s1) fun t s2 e2 => ?_
 refine gw_bind (takeK_w ts 7 s2) fun _ s3 e3 => ?_
 unfold tw at e2 e3
 refine gw_bind (importsL_w ts f [] s3 (wt ts s3.i) (by rw [szL_0]; omega)) fun l s4 e4 => ?_
 refine gw_bind (declsL_w ts f f l s4 (wt ts s3.i) e4) fun l s5 e5 => gw_ok ?_
 rw [sz_mk]; omega
theorem wt_all (ts : List Tok) : ∀ i, wt ts i ≤ 2 * i + sumX (ts.take i)
 | 0 => Nat.zero_le _
 | i + 1 => by
  have h := wt_all ts i
  have hs : ∀ a b : List Tok, sumX (a ++ b) = sumX a + sumX b := fun a => by
   induction a with
   | nil => intro b; show sumX b = 0 + sumX b; omega
   | cons t a ih => intro b; show t.2.1.length + sumX (a ++ b) = t.2.1.length + sumX a + sumX b; rw [ih]; omega
  rcases Nat.lt_or_ge i ts.length with hl | hl
  · rw [List.take_add_one, hs, List.getElem?_eq_getElem hl]
    show wt ts i + 2 + ((ts[i]?).getD zT).2.1.length ≤ _
    rw [List.getElem?_eq_getElem hl]
    show wt ts i + 2 + (ts[i]).2.1.length ≤ 2 * (i + 1) + (sumX (ts.take i) + ((ts[i]).2.1.length + 0))
    omega
  · rw [List.take_of_length_le (by omega)]
    rw [List.take_of_length_le hl] at h
    show wt ts i + 2 + ((ts[i]?).getD zT).2.1.length ≤ _
    rw [List.getElem?_eq_none hl]
    show wt ts i + 2 + 0 ≤ _
    omega
end Go.Proofs.YtmlclgkhnekmnaaGreatDoor
