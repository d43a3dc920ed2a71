/- Part of a proof. -/
import Derived.Test.YtmlclgkhnekmnaaGreatDoorNFn
namespace Go.Proofs.YtmlclgkhnekmnaaGreatDoor
open Go.RowKit
def wPackage : List UInt8 := [112, 97, 99, 107, 97, 103, 101]
def wImport : List UInt8 := [105, 109, 112, 111, 114, 116]
def wType : List UInt8 := [116, 121, 112, 101]
def wStruct : List UInt8 := [115, 116, 114, 117, 99, 116]
def wFunc : List UInt8 := [102, 117, 110, 99]
def wInt : List UInt8 := [105, 110, 116]
def wBool : List UInt8 := [98, 111, 111, 108]
def wString : List UInt8 := [115, 116, 114, 105, 110, 103]
def wFloat : List UInt8 := [102, 108, 111, 97, 116, 54, 52]
def wTrue : List UInt8 := [116, 114, 117, 101]
def wFalse : List UInt8 := [102, 97, 108, 115, 101]
def wLen : List UInt8 := [108, 101, 110]
def wPrint : List UInt8 := [112, 114, 105, 110, 116]
def wPanic : List UInt8 := [112, 97, 110, 105, 99]
def wIf : List UInt8 := [105, 102]
def wElse : List UInt8 := [101, 108, 115, 101]
def wFor : List UInt8 := [102, 111, 114]
def wVar : List UInt8 := [118, 97, 114]
def wReturn : List UInt8 := [114, 101, 116, 117, 114, 110]
def wBreak : List UInt8 := [98, 114, 101, 97, 107]
def wContinue : List UInt8 := [99, 111, 110, 116, 105, 110, 117, 101]
def mOpen : List UInt8 := [40]
def mClose : List UInt8 := [41]
def mLBrace : List UInt8 := [123]
def mRBrace : List UInt8 := [125]
def mComma : List UInt8 := [44]
def mDot : List UInt8 := [46]
def mColon : List UInt8 := [58]
def mDef : List UInt8 := [58, 61]
def mEq : List UInt8 := [61]
def mMinus : List UInt8 := [45]
def mNot : List UInt8 := [33]
def mPlus : List UInt8 := [43]
def mTimes : List UInt8 := [42]
def mOver : List UInt8 := [47]
def mRest : List UInt8 := [37]
def mOr : List UInt8 := [124, 124]
def mAnd : List UInt8 := [38, 38]
def mSame : List UInt8 := [61, 61]
def mOther : List UInt8 := [33, 61]
def mLess : List UInt8 := [60]
def mLessEq : List UInt8 := [60, 61]
def mMore : List UInt8 := [62]
def mMoreEq : List UInt8 := [62, 61]
structure Ps where
 i : Nat
 o : Nat
 h : Nat
inductive Pz (α : Type) where
 | ok (a : α) (s : Ps)
 | bad (k e : Nat)
abbrev Pf (α : Type) := Option (Pz α)
def Pf.bind {α β : Type} : Pf α → (α → Ps → Pf β) → Pf β
 | none, _ => none
 | some (.bad k e), _ => some (.bad k e)
 | some (.ok a s), f => f a s
def zT : Tok := (0, [], 0, 0)
def tk (ts : List Tok) (s : Ps) : Tok := (ts[s.i]?).getD zT
def tkP (ts : List Tok) (s : Ps) : Tok := (ts[s.i - 1]?).getD zT
def adv (s : Ps) : Ps := { s with i := s.i + 1 }
def atB (ts : List Tok) (s : Ps) (m : List UInt8) : Bool := (tk ts s).2.1 == m
def kdB (ts : List Tok) (s : Ps) (k : Nat) : Bool := (tk ts s).1 == k
def nxB (ts : List Tok) (s : Ps) (m : List UInt8) : Bool := kdB ts s 1 && ((ts[s.i + 1]?).getD zT).2.1 == m
def failP {α : Type} (ts : List Tok) (e : Nat) (s : Ps) : Pf α := some (.bad (tk ts s).2.2.1 e)
def nextP (ts : List Tok) (s : Ps) : Pf Tok := some (.ok (tk ts s) (adv s))
def takeP (ts : List Tok) (m : List UInt8) (s : Ps) : Pf Tok := if atB ts s m then nextP ts s else failP ts 4 s
def takeKP (ts : List Tok) (k : Nat) (s : Ps) : Pf Tok := if kdB ts s k then nextP ts s else failP ts 4 s
def beginP (ts : List Tok) (m : List UInt8) (s : Ps) : Pf Tok := if atB ts s m && decide (128 ≤ s.o) then failP ts 3 s else (takeP ts m s).bind fun t s => some (.ok t { s with o := s.o + 1 })
def finishP (ts : List Tok) (m : List UInt8) (s : Ps) : Pf Unit := (takeP ts m s).bind fun _ s => some (.ok () { s with o := s.o - 1 })
def mkN (ts : List Tok) (k f a : Nat) (x : List UInt8) (l : List Nd) (s : Ps) : Nd := .mk k f (tkP ts s).2.2.2 a (txt x) l
def okN (ts : List Tok) (k f a : Nat) (x : List UInt8) (l : List Nd) (s : Ps) : Pf Nd := some (.ok (mkN ts k f a x l s) s)
abbrev Rd := Ps → Pf Nd
def linesL (ts : List Tok) (one : Rd) : Nat → List Nd → Ps → Pf (List Nd)
 | 0, _, _ => none
 | f + 1, l, s => if atB ts s mRBrace then some (.ok l s) else (one s).bind fun n s => if atB ts s mRBrace then linesL ts one f (l ++ [n]) s else (takeKP ts 7 s).bind fun _ s => linesL ts one f (l ++ [n]) s
def linesP (ts : List Tok) (one : Rd) (f : Nat) (s : Ps) : Pf (List Nd) := (beginP ts mLBrace s).bind fun _ s => (linesL ts one f [] s).bind fun l s => (finishP ts mRBrace s).bind fun _ s => some (.ok l s)
def rowL (ts : List Tok) (one : Rd) : Nat → Bool → List Nd → Ps → Pf (List Nd)
 | 0, _, _, _ => none
 | f + 1, more, l, s => if more then (one s).bind fun n s => if atB ts s mComma then rowL ts one f true (l ++ [n]) (adv s) else rowL ts one f false (l ++ [n]) s else some (.ok l s)
def rowP (ts : List Tok) (a b : List UInt8) (one : Rd) (f : Nat) (s : Ps) : Pf (List Nd) := (beginP ts a s).bind fun _ s => (rowL ts one f (!atB ts s b) [] s).bind fun l s => (finishP ts b s).bind fun _ s => some (.ok l s)
def leafP (ts : List Tok) (k : Nat) (s : Ps) : Pf Nd := (nextP ts s).bind fun t s => okN ts k t.2.2.1 t.2.2.1 t.2.1 [] s
def levelB (x : List UInt8) : Nat := if x == mOr then 1 else if x == mAnd then 2 else if x == mSame then 3 else if x == mOther then 3 else if x == mLess then 3 else if x == mLessEq then 3 else if x == mMore then 3 else if x == mMoreEq then 3 else if x == mPlus then 4 else if x == mMinus then 4 else if x == mTimes then 5 else if x == mOver then 5 else if x == mRest then 5 else 0
def kN (n : Nd) (k : Int) : Bool := n.kind == k
def namedN (n : Nd) : Bool := kN n 25 || kN n 26
def kid0 (n : Nd) : Nd := (n.kids[0]?).getD (.mk 0 0 0 0 ⟨#[]⟩ [])
def typesN (n : Nd) : Bool := kN n 25 || (kN n 26 && kN (kid0 n) 25)
def ofKind (k : Int) (n : Nd) : Nd := .mk k n.fro n.till n.at' n.name n.kids
def argsP (ts : List Tok) (ex : Rd) (f : Nat) (s : Ps) : Pf (List Nd) := rowP ts mOpen mClose ex f s
def keyedP (ts : List Tok) (ex : Rd) (s : Ps) : Pf Nd := (takeKP ts 1 s).bind fun t s => (takeP ts mColon s).bind fun _ s => (ex s).bind fun e s => okN ts 29 t.2.2.1 t.2.2.1 t.2.1 [e] s
def mkE (ts : List Tok) (k : Nat) (e : Nd) (a : Nat) (x : List UInt8) (l : List Nd) (s : Ps) : Nd := .mk k e.fro (tkP ts s).2.2.2 a (txt x) l
def okE (ts : List Tok) (k : Nat) (e : Nd) (a : Nat) (x : List UInt8) (l : List Nd) (s : Ps) : Pf Nd := some (.ok (mkE ts k e a x l s) s)
def literalP (ts : List Tok) (ex : Rd) (f : Nat) (e : Nd) (s : Ps) : Pf Nd :=
 (rowP ts mLBrace mRBrace (keyedP ts ex) f s).bind fun l s' => okE ts 28 e (tk ts s).2.2.1 [] (ofKind (if kN e 25 then 8 else 9) e :: l) s'
def operandP (ts : List Tok) (ex : Rd) (f : Nat) (s : Ps) : Pf Nd :=
 if kdB ts s 3 then leafP ts 21 s else if kdB ts s 4 then leafP ts 22 s else if kdB ts s 5 then leafP ts 23 s else if kdB ts s 1 then leafP ts 25 s
 else if atB ts s wTrue || atB ts s wFalse then leafP ts 24 s
 else if atB ts s wInt || (atB ts s wFloat || (atB ts s wLen || (atB ts s wPrint || atB ts s wPanic))) then (nextP ts s).bind fun t s => (argsP ts ex f s).bind fun l s => okN ts 32 t.2.2.1 t.2.2.1 t.2.1 l s
 else (beginP ts mOpen s).bind fun t s => (ex s).bind fun e s => (finishP ts mClose s).bind fun _ s => okN ts 33 t.2.2.1 t.2.2.1 [] [e] s
def chainL (ts : List Tok) (ex : Rd) (f0 : Nat) : Nat → Nd → Ps → Pf Nd
 | 0, _, _ => none
 | f + 1, e, s =>
  if atB ts s mDot then (takeKP ts 1 (adv s)).bind fun t s => chainL ts ex f0 f (mkE ts 26 e t.2.2.1 t.2.1 [e] s) s
  else if atB ts s mOpen && namedN e then (argsP ts ex f0 s).bind fun l s' => chainL ts ex f0 f (mkE ts 27 e (tk ts s).2.2.1 [] (e :: l) s') s'
  else if (atB ts s mLBrace && typesN e) && !(s.o == s.h) then (literalP ts ex f0 e s).bind fun e s => chainL ts ex f0 f e s
  else some (.ok e s)
def chainP (ts : List Tok) (ex : Rd) (f : Nat) (s : Ps) : Pf Nd := (operandP ts ex f s).bind fun e s => chainL ts ex f f e s
def unaryP (ts : List Tok) (un ex : Rd) (f : Nat) (s : Ps) : Pf Nd :=
 if atB ts s mMinus || atB ts s mNot then (nextP ts s).bind fun t s => (un s).bind fun e s => okN ts 30 t.2.2.1 t.2.2.1 t.2.1 [e] s
 else chainP ts ex f s
def binL (ts : List Tok) (bi : Nat → Rd) (least : Nat) : Nat → Nd → Ps → Pf Nd
 | 0, _, _ => none
 | f + 1, e, s => if levelB (tk ts s).2.1 < least then some (.ok e s) else (bi (levelB (tk ts s).2.1 + 1) (adv s)).bind fun r s' => binL ts bi least f (mkE ts 31 e (tk ts s).2.2.1 (tk ts s).2.1 [e, r] s') s'
def binaryP (ts : List Tok) (un : Rd) (bi : Nat → Rd) (f : Nat) (least : Nat) (s : Ps) : Pf Nd := (un s).bind fun e s => binL ts bi least f e s
def exF (ts : List Tok) : Nat → Rd × (Nat → Rd)
 | 0 => (fun _ => none, fun _ _ => none)
 | f + 1 => (unaryP ts (exF ts f).1 ((exF ts f).2 1) f, binaryP ts (exF ts f).1 (exF ts f).2 f)
def exprP (ts : List Tok) (f : Nat) : Rd := (exF ts f).2 1
def ownTypeP (ts : List Tok) (s : Ps) : Pf Nd := (takeKP ts 1 s).bind fun t s => okN ts 8 t.2.2.1 t.2.2.1 t.2.1 [] s
def typP (ts : List Tok) (s : Ps) : Pf Nd :=
 if atB ts s wInt || (atB ts s wBool || (atB ts s wString || atB ts s wFloat)) then (nextP ts s).bind fun t s => okN ts 8 t.2.2.1 t.2.2.1 t.2.1 [] s
 else (ownTypeP ts s).bind fun e s => if atB ts s mDot then (takeKP ts 1 (adv s)).bind fun t s => okE ts 9 e t.2.2.1 t.2.1 [ofKind 25 e] s else some (.ok e s)
def ntP (ts : List Tok) (k : Nat) (s : Ps) : Pf Nd := (takeKP ts 1 s).bind fun t s => (typP ts s).bind fun e s => okN ts k t.2.2.1 t.2.2.1 t.2.1 [e] s
def noN : Nd := .mk 0 0 0 0 ⟨#[]⟩ []
def blockP (ts : List Tok) (st : Rd) (f : Nat) (s : Ps) : Pf Nd := (linesP ts st f s).bind fun l s' => okN ts 10 (tk ts s).2.2.1 (tk ts s).2.2.1 [] l s'
def optP (b : Bool) (r : Rd) (s : Ps) : Pf Nd := if b then r s else some (.ok noN s)
def variableP (ts : List Tok) (ex : Rd) (s : Ps) : Pf Nd :=
 (takeP ts wVar s).bind fun v s => (takeKP ts 1 s).bind fun t s => (optP (!atB ts s mEq) (typP ts) s).bind fun y s =>
  (optP (atB ts s mEq) (fun s => ex (adv s)) s).bind fun e s => okN ts 11 v.2.2.1 t.2.2.1 t.2.1 [y, e] s
def returnedP (ts : List Tok) (ex : Rd) (s : Ps) : Pf Nd :=
 (takeP ts wReturn s).bind fun v s => if kdB ts s 7 || atB ts s mRBrace then okN ts 19 v.2.2.1 v.2.2.1 [] [] s else (ex s).bind fun e s => okN ts 19 v.2.2.1 v.2.2.1 [] [e] s
def jumpP (ts : List Tok) (k : Nat) (s : Ps) : Pf Nd :=
 (nextP ts s).bind fun v s => if kdB ts s 1 then (nextP ts s).bind fun t s => okN ts k v.2.2.1 t.2.2.1 t.2.1 [] s else okN ts k v.2.2.1 v.2.2.1 [] [] s
def defineP (ts : List Tok) (ex : Rd) (s : Ps) : Pf Nd := (takeKP ts 1 s).bind fun t s => (takeP ts mDef s).bind fun _ s => (ex s).bind fun e s => okN ts 12 t.2.2.1 t.2.2.1 t.2.1 [e] s
def pathF : Nat → Nd → Bool
 | 0, _ => false
 | f + 1, n => if kN n 26 then pathF f (kid0 n) else kN n 25
def pathN (n : Nd) : Bool := pathF (sz n + 1) n
def callN (n : Nd) : Bool := if kN n 27 then true else if kN n 32 then (n.name.toList == wPrint || n.name.toList == wPanic) else false
def simpleP (ts : List Tok) (ex : Rd) (e : Nd) (s : Ps) : Pf Nd :=
 if pathN e && atB ts s mEq then (ex (adv s)).bind fun v s' => okE ts 13 e (tk ts s).2.2.1 [] [e, v] s'
 else if callN e then some (.ok (.mk 20 e.fro (tkP ts s).2.2.2 e.fro ⟨#[]⟩ [e]) s) else failP ts 4 s
def headP (s : Ps) : Ps := { s with h := s.o }
def bodyP (s : Ps) : Ps := { s with h := 0 }
def otherP (ts : List Tok) (st co : Rd) (f : Nat) (s : Ps) : Pf Nd := if atB ts s wIf then co s else blockP ts st f s
def condP (ts : List Tok) (ex st co : Rd) (f : Nat) (s : Ps) : Pf Nd :=
 (takeP ts wIf s).bind fun v s => (ex (headP s)).bind fun e s => (blockP ts st f (bodyP s)).bind fun b s =>
  (optP (atB ts s wElse) (fun s => otherP ts st co f (adv s)) s).bind fun o s => okN ts 14 v.2.2.1 v.2.2.1 [] [e, b, o] s
def loopTail (ts : List Tok) (ex : Rd) (f : Nat) (a : Nd) (s : Ps) : Pf (Nd × Nd × Nd) :=
 (takeKP ts 7 s).bind fun _ s => (optP (!kdB ts s 7) ex s).bind fun e s => (takeKP ts 7 s).bind fun _ s =>
  (optP (!atB ts s mLBrace) (fun s => (chainP ts ex f s).bind fun e s => simpleP ts ex e s) s).bind fun z s => some (.ok (a, e, z) s)
def loopHeadP (ts : List Tok) (ex : Rd) (f : Nat) (s : Ps) : Pf (Nd × Nd × Nd) :=
 if kdB ts s 7 then loopTail ts ex f noN s
 else if nxB ts s mDef then (defineP ts ex s).bind fun a s => loopTail ts ex f a s
 else (ex s).bind fun e s => if atB ts s mLBrace then some (.ok (noN, e, noN) s) else (simpleP ts ex e s).bind fun a s => loopTail ts ex f a s
def loopMid (ts : List Tok) (ex : Rd) (f : Nat) (s : Ps) : Pf (Nd × Nd × Nd) := if atB ts s mLBrace then some (.ok (noN, noN, noN) s) else loopHeadP ts ex f s
def loopP (ts : List Tok) (ex st : Rd) (f : Nat) (s : Ps) : Pf Nd :=
 (takeP ts wFor s).bind fun v s => (loopMid ts ex f (headP s)).bind fun r s =>
  (blockP ts st f (bodyP s)).bind fun b s => okN ts 15 v.2.2.1 v.2.2.1 [] [r.1, r.2.1, r.2.2, b] s
def labelledP (ts : List Tok) (ex st : Rd) (f : Nat) (s : Ps) : Pf Nd :=
 (takeKP ts 1 s).bind fun t s => (takeP ts mColon s).bind fun _ s => (loopP ts ex st f s).bind fun l s => okN ts 16 t.2.2.1 t.2.2.1 t.2.1 [l] s
def stmtP (ts : List Tok) (ex st co : Rd) (f : Nat) (s : Ps) : Pf Nd :=
 if atB ts s mLBrace then blockP ts st f s else if atB ts s wIf then co s else if atB ts s wFor then loopP ts ex st f s else if atB ts s wVar then variableP ts ex s
 else if atB ts s wReturn then returnedP ts ex s else if atB ts s wBreak then jumpP ts 17 s else if atB ts s wContinue then jumpP ts 18 s
 else if nxB ts s mColon then labelledP ts ex st f s else if nxB ts s mDef then defineP ts ex s else (chainP ts ex f s).bind fun e s => simpleP ts ex e s
def stF (ts : List Tok) : Nat → Rd × Rd
 | 0 => (fun _ => none, fun _ => none)
 | f + 1 => (stmtP ts (exprP ts f) (stF ts f).1 (stF ts f).2 f, condP ts (exprP ts f) (stF ts f).1 (stF ts f).2 f)
def receiverP (ts : List Tok) (s : Ps) : Pf Nd :=
 (beginP ts mOpen s).bind fun _ s => (takeKP ts 1 s).bind fun t s => (ownTypeP ts s).bind fun y s => (finishP ts mClose s).bind fun _ s' => some (.ok (mkN ts 7 t.2.2.1 t.2.2.1 t.2.1 [y] s) s')
def paramsP (ts : List Tok) (f : Nat) (s : Ps) : Pf Nd := (rowP ts mOpen mClose (ntP ts 7) f s).bind fun l s' => okN ts 6 (tk ts s).2.2.1 (tk ts s).2.2.1 [] l s'
def functionP (ts : List Tok) (f : Nat) (s : Ps) : Pf Nd :=
 (takeP ts wFunc s).bind fun v s => (optP (atB ts s mOpen) (receiverP ts) s).bind fun r s => (takeKP ts 1 s).bind fun t s => (paramsP ts f s).bind fun a s =>
  (optP (!atB ts s mLBrace) (typP ts) s).bind fun y s => (blockP ts (stF ts f).1 f s).bind fun b s => okN ts 5 v.2.2.1 t.2.2.1 t.2.1 [r, a, y, b] s
def structP (ts : List Tok) (f : Nat) (s : Ps) : Pf Nd :=
 (takeP ts wType s).bind fun v s => (takeKP ts 1 s).bind fun t s => (takeP ts wStruct s).bind fun _ s => (linesP ts (ntP ts 4) f s).bind fun l s => okN ts 3 v.2.2.1 t.2.2.1 t.2.1 l s
def declP (ts : List Tok) (f : Nat) (s : Ps) : Pf Nd := if atB ts s wType then structP ts f s else functionP ts f s
def valT (x : List UInt8) : List UInt8 := match valR x with
 | .ok y => y
 | .error _ => []
def importedP (ts : List Tok) (s : Ps) : Pf Nd :=
 (takeP ts wImport s).bind fun v s => if kdB ts s 5 then (if nameB (valT (tk ts s).2.1) then okN ts 2 v.2.2.1 (tk ts s).2.2.1 (valT (tk ts s).2.1) [] (adv s) else failP ts 9 s) else failP ts 4 s
def importsL (ts : List Tok) : Nat → List Nd → Ps → Pf (List Nd)
 | 0, _, _ => none
 | f + 1, l, s => if atB ts s wImport then (importedP ts s).bind fun n s => (takeKP ts 7 s).bind fun _ s => importsL ts f (l ++ [n]) s else some (.ok l s)
def endT (ts : List Tok) : Tok := (ts[ts.length - 1]?).getD zT
def declsL (ts : List Tok) (f0 : Nat) : Nat → List Nd → Ps → Pf (List Nd)
 | 0, _, _ => none
 | f + 1, l, s => if tk ts s == endT ts then some (.ok l s) else (declP ts f0 s).bind fun n s => (takeKP ts 7 s).bind fun _ s => declsL ts f0 f (l ++ [n]) s
def fileP (ts : List Tok) (f : Nat) (s : Ps) : Pf Nd :=
 (takeP ts wPackage s).bind fun _ s => (takeKP ts 1 s).bind fun t s => (takeKP ts 7 s).bind fun _ s => (importsL ts f [] s).bind fun l s => (declsL ts f f l s).bind fun l s =>
  some (.ok (.mk 1 0 (endT ts).2.2.2 t.2.2.1 (txt t.2.1) l) s)
def dMix : Option Int → Option Int → Option Int
 | none, b => b
 | some x, none => some x
 | some x, some y => if x < y then some x else some y
mutual
def deepN : Nat → Nd → Option Int
 | d, .mk _ _ _ a _ l => deepL (d + 1) (if 64 < d then some a else none) l
def deepL : Nat → Option Int → List Nd → Option Int
 | _, b, [] => b
 | d, b, n :: l => deepL d (if n.kind = 0 then b else dMix (deepN d n) b) l
end
end Go.Proofs.YtmlclgkhnekmnaaGreatDoor
namespace Go.Proofs.YtmlclgkhnekmnaaGreatDoor
open Go.RowKit
def rem (ts : List Tok) (s : Ps) : Nat := ts.length - s.i
def Ends {α : Type} (ts : List Tok) (m : Nat) (r : Pf α) : Prop := ∃ z, r = some z ∧ ∀ a s', z = .ok a s' → rem ts s' < m
theorem ends_ok {α : Type} {ts : List Tok} {m : Nat} {a : α} {s : Ps} (h : rem ts s < m) : Ends ts m (some (.ok a s)) := ⟨_, rfl, fun _ _ e => by cases e; exact h⟩
theorem ends_bad {α : Type} {ts : List Tok} {m k e : Nat} : Ends ts m (some (.bad k e : Pz α)) := ⟨_, rfl, fun _ _ e => by cases e⟩
theorem ends_fail {α : Type} {ts : List Tok} {m e : Nat} {s : Ps} : Ends ts m (failP ts e s : Pf α) := ends_bad
theorem Ends.mono {α : Type} {ts : List Tok} {m m' : Nat} {r : Pf α} (h : Ends ts m r) (hm : m ≤ m') : Ends ts m' r := by
 obtain ⟨z, hz, h⟩ := h
 exact ⟨z, hz, fun a s' e => Nat.lt_of_lt_of_le (h a s' e) hm⟩
theorem ends_bind {α β : Type} {ts : List Tok} {m m' : Nat} {r : Pf α} {f : α → Ps → Pf β} (h : Ends ts m r) (hf : ∀ a s', rem ts s' < m → Ends ts m' (f a s')) : Ends ts m' (r.bind f) := by
 obtain ⟨z, hz, h⟩ := h
 subst hz
 cases z with
 | bad k e => exact ends_bad
 | ok a s => exact hf a s (h a s rfl)
theorem lt_of_at {ts : List Tok} {s : Ps} {m : List UInt8} (hm : m ≠ []) (h : atB ts s m = true) : s.i < ts.length := by
 rcases Nat.lt_or_ge s.i ts.length with hl | hl
 · exact hl
 · have e : ts[s.i]? = none := List.getElem?_eq_none hl
   unfold atB tk at h
   rw [e] at h
   exact absurd (eq_of_beq h).symm hm
theorem lt_of_kd {ts : List Tok} {s : Ps} {k : Nat} (hk : k ≠ 0) (h : kdB ts s k = true) : s.i < ts.length := by
 rcases Nat.lt_or_ge s.i ts.length with hl | hl
 · exact hl
 · have e : ts[s.i]? = none := List.getElem?_eq_none hl
   unfold kdB tk at h
   rw [e] at h
   exact absurd (eq_of_beq h).symm hk
theorem rem_adv {ts : List Tok} {s : Ps} (h : s.i < ts.length) : rem ts (adv s) < rem ts s := by
 show ts.length - (s.i + 1) < ts.length - s.i
 omega
theorem next_ends {ts : List Tok} {s : Ps} (h : s.i < ts.length) : Ends ts (rem ts s) (nextP ts s) := ends_ok (rem_adv h)
theorem take_ends {ts : List Tok} {m : List UInt8} (hm : m ≠ []) (s : Ps) : Ends ts (rem ts s) (takeP ts m s) := by
 unfold takeP
 split
 · rename_i h; exact next_ends (lt_of_at hm h)
 · exact ends_fail
theorem takeK_ends {ts : List Tok} {k : Nat} (hk : k ≠ 0) (s : Ps) : Ends ts (rem ts s) (takeKP ts k s) := by
 unfold takeKP
 split
 · rename_i h; exact next_ends (lt_of_kd hk h)
 · exact ends_fail
theorem begin_ends {ts : List Tok} {m : List UInt8} (hm : m ≠ []) (s : Ps) : Ends ts (rem ts s) (beginP ts m s) := by
 unfold beginP
 split
 · exact ends_fail
 · exact ends_bind (take_ends hm s) fun t s' h => ends_ok h
theorem finish_ends {ts : List Tok} {m : List UInt8} (hm : m ≠ []) (s : Ps) : Ends ts (rem ts s) (finishP ts m s) :=
 ends_bind (take_ends hm s) fun _t _s' h => ends_ok h
def Gets {α : Type} (ts : List Tok) (M : Nat) (r : Ps → Pf α) : Prop := ∀ s, rem ts s < M → Ends ts (rem ts s) (r s)
theorem Gets.less {α : Type} {ts : List Tok} {M M' : Nat} {r : Ps → Pf α} (h : Gets ts M r) (hm : M' ≤ M) : Gets ts M' r := fun s hs => h s (Nat.lt_of_lt_of_le hs hm)
theorem linesL_ends {ts : List Tok} {one : Rd} {M : Nat} (h1 : Gets ts M one) : ∀ (f : Nat) (l : List Nd) (s : Ps), rem ts s < M → rem ts s < f → Ends ts (rem ts s + 1) (linesL ts one f l s)
 | 0, _, _, _, hf => absurd hf (Nat.not_lt_zero _)
 | f + 1, l, s, hM, hf => by
  unfold linesL
  split
  · exact ends_ok (by omega)
  · refine ends_bind (h1 s hM) fun n s1 h => ?_
    split
    · exact (linesL_ends h1 f _ s1 (by omega) (by omega)).mono (by omega)
    · refine ends_bind (takeK_ends (by decide) s1) fun _ s2 h2 => ?_
      exact (linesL_ends h1 f _ s2 (by omega) (by omega)).mono (by omega)
theorem lines_ends {ts : List Tok} {one : Rd} {f : Nat} {s : Ps} (h1 : Gets ts (rem ts s) one) (hf : rem ts s ≤ f) : Ends ts (rem ts s) (linesP ts one f s) := by
 refine ends_bind (begin_ends (by decide) s) fun _ s1 e1 => ?_
 refine ends_bind (linesL_ends h1 f [] s1 e1 (by omega)) fun l s2 e2 => ?_
 exact ends_bind (finish_ends (by decide) s2) fun _ s3 e3 => ends_ok (by omega)
theorem rowL_ends {ts : List Tok} {one : Rd} {M : Nat} (h1 : Gets ts M one) : ∀ (f : Nat) (more : Bool) (l : List Nd) (s : Ps), rem ts s < M → rem ts s < f → Ends ts (rem ts s + 1) (rowL ts one f more l s)
 | 0, _, _, _, _, hf => absurd hf (Nat.not_lt_zero _)
 | f + 1, more, l, s, hM, hf => by
  unfold rowL
  split
  · refine ends_bind (h1 s hM) fun n s1 h => ?_
    split
    · rename_i hc
      have := rem_adv (lt_of_at (by decide) hc)
      exact (rowL_ends h1 f true _ (adv s1) (by omega) (by omega)).mono (by omega)
    · cases f with
      | zero => exact absurd h (by omega)
      | succ f => exact ends_ok (by omega)
  · exact ends_ok (by omega)
theorem row_ends {ts : List Tok} {a b : List UInt8} (ha : a ≠ []) (hb : b ≠ []) {one : Rd} {f : Nat} {s : Ps} (h1 : Gets ts (rem ts s) one) (hf : rem ts s ≤ f) : Ends ts (rem ts s) (rowP ts a b one f s) := by
 refine ends_bind (begin_ends ha s) fun _ s1 e1 => ?_
 refine ends_bind (rowL_ends h1 f _ [] s1 e1 (by omega)) fun l s2 e2 => ?_
 exact ends_bind (finish_ends hb s2) fun _ s3 e3 => ends_ok (by omega)
theorem leaf_ends {ts : List Tok} {k : Nat} {s : Ps} (h : s.i < ts.length) : Ends ts (rem ts s) (leafP ts k s) := ends_bind (next_ends h) fun _ _s1 e1 => ends_ok e1
theorem args_ends {ts : List Tok} {ex : Rd} {f : Nat} {s : Ps} (h1 : Gets ts (rem ts s) ex) (hf : rem ts s ≤ f) : Ends ts (rem ts s) (argsP ts ex f s) := row_ends (by decide) (by decide) h1 hf
theorem keyed_gets {ts : List Tok} {ex : Rd} {M : Nat} (h1 : Gets ts M ex) : Gets ts M (keyedP ts ex) := by
 intro s hs
 refine ends_bind (takeK_ends (by decide) s) fun _ s1 e1 => ?_
 refine ends_bind (take_ends (by decide) s1) fun _ s2 e2 => ?_
 exact ends_bind (h1 s2 (by omega)) fun _ s3 e3 => ends_ok (by omega)
theorem literal_ends {ts : List Tok} {ex : Rd} {f : Nat} {e : Nd} {s : Ps} (h1 : Gets ts (rem ts s) ex) (hf : rem ts s ≤ f) : Ends ts (rem ts s) (literalP ts ex f e s) :=
 ends_bind (row_ends (by decide) (by decide) (keyed_gets h1) hf) fun _ s1 e1 => ends_ok e1
theorem or_at {ts : List Tok} {s : Ps} {m : List UInt8} {b : Bool} (hm : m ≠ []) (hb : b = true → s.i < ts.length) (h : (atB ts s m || b) = true) : s.i < ts.length := by
 rcases Bool.or_eq_true_iff.mp h with h | h
 · exact lt_of_at hm h
 · exact hb h
theorem operand_ends {ts : List Tok} {ex : Rd} {f : Nat} {s : Ps} (h1 : Gets ts (rem ts s) ex) (hf : rem ts s ≤ f) : Ends ts (rem ts s) (operandP ts ex f s) := by
 unfold operandP
 split
 · rename_i h; exact leaf_ends (lt_of_kd (by decide) h)
 split
 · rename_i h; exact leaf_ends (lt_of_kd (by decide) h)
 split
 · rename_i h; exact leaf_ends (lt_of_kd (by decide) h)
 split
 · rename_i h; exact leaf_ends (lt_of_kd (by decide) h)
 split
 · rename_i h; exact leaf_ends (or_at (by decide) (lt_of_at (by decide)) h)
 split
 · rename_i h
   have hl : s.i < ts.length := or_at (by decide) (or_at (by decide) (or_at (by decide) (or_at (by decide) (lt_of_at (by decide))))) h
   refine ends_bind (next_ends hl) fun _ s1 e1 => ?_
   exact ends_bind (args_ends (h1.less (by omega)) (by omega)) fun _ s2 e2 => ends_ok (by omega)
 · refine ends_bind (begin_ends (by decide) s) fun _ s1 e1 => ?_
   refine ends_bind (h1 s1 e1) fun _ s2 e2 => ?_
   exact ends_bind (finish_ends (by decide) s2) fun _ s3 e3 => ends_ok (by omega)
theorem chainL_ends {ts : List Tok} {ex : Rd} {f0 M : Nat} (h1 : Gets ts M ex) (h0 : M ≤ f0) : ∀ (f : Nat) (e : Nd) (s : Ps), rem ts s ≤ M → rem ts s < f → Ends ts (rem ts s + 1) (chainL ts ex f0 f e s)
 | 0, _, _, _, hf => absurd hf (Nat.not_lt_zero _)
 | f + 1, e, s, hM, hf => by
  unfold chainL
  split
  · rename_i h
    have := rem_adv (lt_of_at (by decide) h)
    refine ends_bind (takeK_ends (by decide) (adv s)) fun _ s1 e1 => ?_
    exact (chainL_ends h1 h0 f _ s1 (by omega) (by omega)).mono (by omega)
  split
  · refine ends_bind (args_ends (h1.less hM) (by omega)) fun _ s1 e1 => ?_
    exact (chainL_ends h1 h0 f _ s1 (by omega) (by omega)).mono (by omega)
  split
  · refine ends_bind (literal_ends (h1.less hM) (by omega)) fun _ s1 e1 => ?_
    exact (chainL_ends h1 h0 f _ s1 (by omega) (by omega)).mono (by omega)
  · exact ends_ok (by omega)
theorem chain_ends {ts : List Tok} {ex : Rd} {f : Nat} {s : Ps} (h1 : Gets ts (rem ts s) ex) (hf : rem ts s ≤ f) : Ends ts (rem ts s) (chainP ts ex f s) := by
 refine ends_bind (operand_ends h1 hf) fun e s1 e1 => ?_
 exact (chainL_ends h1 hf f e s1 (by omega) (by omega)).mono (by omega)
theorem unary_ends {ts : List Tok} {un ex : Rd} {f : Nat} {s : Ps} (hu : Gets ts (rem ts s) un) (h1 : Gets ts (rem ts s) ex) (hf : rem ts s ≤ f) : Ends ts (rem ts s) (unaryP ts un ex f s) := by
 unfold unaryP
 split
 · rename_i h
   refine ends_bind (next_ends (or_at (by decide) (lt_of_at (by decide)) h)) fun _ s1 e1 => ?_
   exact ends_bind (hu s1 e1) fun _ s2 e2 => ends_ok (by omega)
 · exact chain_ends h1 hf
theorem lt_of_level {ts : List Tok} {s : Ps} {l : Nat} (hl : 1 ≤ l) (h : ¬ levelB (tk ts s).2.1 < l) : s.i < ts.length := by
 rcases Nat.lt_or_ge s.i ts.length with hi | hi
 · exact hi
 · have e : ts[s.i]? = none := List.getElem?_eq_none hi
   unfold tk at h
   rw [e] at h
   exact absurd (show levelB ((none : Option Tok).getD zT).2.1 < l from hl) h
theorem binL_ends {ts : List Tok} {bi : Nat → Rd} {least M : Nat} (hl : 1 ≤ least) (h1 : ∀ l, 1 ≤ l → Gets ts M (bi l)) : ∀ (f : Nat) (e : Nd) (s : Ps), rem ts s ≤ M → rem ts s < f → Ends ts (rem ts s + 1) (binL ts bi least f e s)
 | 0, _, _, _, hf => absurd hf (Nat.not_lt_zero _)
 | f + 1, e, s, hM, hf => by
  unfold binL
  split
  · exact ends_ok (by omega)
  · rename_i h
    have := rem_adv (lt_of_level hl h)
    refine ends_bind (h1 _ (by omega) (adv s) (by omega)) fun _ s1 e1 => ?_
    exact (binL_ends hl h1 f _ s1 (by omega) (by omega)).mono (by omega)
theorem exF_ends (ts : List Tok) : ∀ f : Nat, (∀ s, 2 * rem ts s + 2 ≤ f → Ends ts (rem ts s) ((exF ts f).1 s)) ∧ ∀ l, 1 ≤ l → ∀ s, 2 * rem ts s + 3 ≤ f → Ends ts (rem ts s) ((exF ts f).2 l s)
 | 0 => ⟨fun s h => absurd h (by omega), fun l _ s h => absurd h (by omega)⟩
 | f + 1 => by
  obtain ⟨hu, hb⟩ := exF_ends ts f
  refine ⟨fun s h => ?_, fun l hl s h => ?_⟩
  · exact unary_ends (fun s1 e1 => hu s1 (by omega)) (fun s1 e1 => hb 1 (by decide) s1 (by omega)) (by omega)
  · refine ends_bind (hu s (by omega)) fun e s1 e1 => ?_
    exact (binL_ends (M := rem ts s) hl (fun l hl s2 e2 => hb l hl s2 (by omega)) f e s1 (by omega) (by omega)).mono (by omega)
theorem expr_gets (ts : List Tok) (f M : Nat) (h : 2 * M + 1 ≤ f) : Gets ts M (exprP ts f) := fun s hs => (exF_ends ts f).2 1 (by decide) s (by omega)
theorem ownType_ends (ts : List Tok) (s : Ps) : Ends ts (rem ts s) (ownTypeP ts s) := ends_bind (takeK_ends (by decide) s) fun _ s1 e1 => ends_ok e1
theorem typ_ends (ts : List Tok) (s : Ps) : Ends ts (rem ts s) (typP ts s) := by
 unfold typP
 split
 · rename_i h
   have hl : s.i < ts.length := or_at (by decide) (or_at (by decide) (or_at (by decide) (lt_of_at (by decide)))) h
   exact ends_bind (next_ends hl) fun _ s1 e1 => ends_ok e1
 · refine ends_bind (ownType_ends ts s) fun e s1 e1 => ?_
   split
   · rename_i h
     have := rem_adv (lt_of_at (by decide) h)
     exact ends_bind (takeK_ends (by decide) (adv s1)) fun _ s2 e2 => ends_ok (by omega)
   · exact ends_ok e1
theorem nt_gets (ts : List Tok) (k M : Nat) : Gets ts M (ntP ts k) := by
 intro s _
 refine ends_bind (takeK_ends (by decide) s) fun _ s1 e1 => ?_
 exact ends_bind (typ_ends ts s1) fun _ s2 e2 => ends_ok (by omega)
theorem opt_ends {ts : List Tok} {b : Bool} {r : Rd} {s : Ps} {m : Nat} (h : b = true → Ends ts m (r s)) (hm : rem ts s < m) : Ends ts m (optP b r s) := by
 unfold optP
 split
 · rename_i hb; exact h hb
 · exact ends_ok hm
theorem block_ends {ts : List Tok} {st : Rd} {f : Nat} {s : Ps} (h1 : Gets ts (rem ts s) st) (hf : rem ts s ≤ f) : Ends ts (rem ts s) (blockP ts st f s) :=
 ends_bind (lines_ends h1 hf) fun _ _s1 e1 => ends_ok e1
theorem variable_ends {ts : List Tok} {ex : Rd} {s : Ps} (h1 : Gets ts (rem ts s) ex) : Ends ts (rem ts s) (variableP ts ex s) := by
 refine ends_bind (take_ends (by decide) s) fun _ s1 e1 => ?_
 refine ends_bind (takeK_ends (by decide) s1) fun _ s2 e2 => ?_
 refine ends_bind (m := rem ts s2 + 1) (opt_ends (fun _ => (typ_ends ts s2).mono (by omega)) (by omega)) fun _ s3 e3 => ?_
 refine ends_bind (m := rem ts s3 + 1) (opt_ends (fun h => ?_) (by omega)) fun _ s4 e4 => ends_ok (by omega)
 have := rem_adv (lt_of_at (by decide) h)
 exact (h1 (adv s3) (by omega)).mono (by omega)
theorem returned_ends {ts : List Tok} {ex : Rd} {s : Ps} (h1 : Gets ts (rem ts s) ex) : Ends ts (rem ts s) (returnedP ts ex s) := by
 refine ends_bind (take_ends (by decide) s) fun _ s1 e1 => ?_
 split
 · exact ends_ok e1
 · exact ends_bind (h1 s1 e1) fun _ s2 e2 => ends_ok (by omega)
theorem jump_ends {ts : List Tok} {k : Nat} {s : Ps} (h : s.i < ts.length) : Ends ts (rem ts s) (jumpP ts k s) := by
 refine ends_bind (next_ends h) fun _ s1 e1 => ?_
 split
 · rename_i h
   exact ends_bind (next_ends (lt_of_kd (by decide) h)) fun _ s2 e2 => ends_ok (by omega)
 · exact ends_ok e1
theorem define_ends {ts : List Tok} {ex : Rd} {s : Ps} (h1 : Gets ts (rem ts s) ex) : Ends ts (rem ts s) (defineP ts ex s) := by
 refine ends_bind (takeK_ends (by decide) s) fun _ s1 e1 => ?_
 refine ends_bind (take_ends (by decide) s1) fun _ s2 e2 => ?_
 exact ends_bind (h1 s2 (by omega)) fun _ s3 e3 => ends_ok (by omega)
theorem simple_ends {ts : List Tok} {ex : Rd} {e : Nd} {s : Ps} (h1 : Gets ts (rem ts s) ex) : Ends ts (rem ts s + 1) (simpleP ts ex e s) := by
 unfold simpleP
 split
 · rename_i h
   have := rem_adv (lt_of_at (by decide) (Bool.and_eq_true_iff.mp h).2)
   exact ends_bind (h1 (adv s) (by omega)) fun _ s2 e2 => ends_ok (by omega)
 split
 · exact ends_ok (Nat.lt_succ_self _)
 · exact ends_fail
theorem cond_ends {ts : List Tok} {ex st co : Rd} {f : Nat} {s : Ps} (h1 : Gets ts (rem ts s) ex) (h2 : Gets ts (rem ts s) st) (h3 : Gets ts (rem ts s) co) (hf : rem ts s ≤ f) : Ends ts (rem ts s) (condP ts ex st co f s) := by
 refine ends_bind (take_ends (by decide) s) fun _ s1 e1 => ?_
 refine ends_bind (h1 (headP s1) e1) fun _ s2 e2 => ?_
 have e2 : rem ts s2 < rem ts s1 := e2
 refine ends_bind (block_ends (s := bodyP s2) (h2.less (show rem ts s2 ≤ rem ts s by omega)) (show rem ts s2 ≤ f by omega)) fun _ s3 e3 => ?_
 have e3 : rem ts s3 < rem ts s2 := e3
 refine ends_bind (m := rem ts s3 + 1) (opt_ends (fun h => ?_) (by omega)) fun _ s4 e4 => ends_ok (by omega)
 have := rem_adv (lt_of_at (by decide) h)
 show Ends ts _ (otherP ts st co f (adv s3))
 unfold otherP
 split
 · exact (h3 (adv s3) (by omega)).mono (by omega)
 · exact (block_ends (h2.less (by omega)) (by omega)).mono (by omega)
theorem loopTail_ends {ts : List Tok} {ex : Rd} {f : Nat} {a : Nd} {s : Ps} (h1 : Gets ts (rem ts s) ex) (hf : rem ts s ≤ f) : Ends ts (rem ts s) (loopTail ts ex f a s) := by
 refine ends_bind (takeK_ends (by decide) s) fun _ s1 e1 => ?_
 refine ends_bind (m := rem ts s1 + 1) (opt_ends (fun _ => (h1 s1 e1).mono (by omega)) (by omega)) fun _ s2 e2 => ?_
 refine ends_bind (takeK_ends (by decide) s2) fun _ s3 e3 => ?_
 refine ends_bind (m := rem ts s3 + 1) (opt_ends (fun _ => ?_) (by omega)) fun _ s4 e4 => ends_ok (by omega)
 refine ends_bind (chain_ends (h1.less (by omega)) (by omega)) fun e s4 e4 => ?_
 exact (simple_ends (h1.less (by omega))).mono (by omega)
theorem loopHead_ends {ts : List Tok} {ex : Rd} {f : Nat} {s : Ps} (h1 : Gets ts (rem ts s + 1) ex) (hf : rem ts s ≤ f) : Ends ts (rem ts s) (loopHeadP ts ex f s) := by
 unfold loopHeadP
 split
 · exact loopTail_ends (h1.less (by omega)) hf
 split
 · refine ends_bind (define_ends (h1.less (by omega))) fun _ s1 e1 => ?_
   exact (loopTail_ends (h1.less (by omega)) (by omega)).mono (by omega)
 · refine ends_bind (h1 s (by omega)) fun _ s1 e1 => ?_
   split
   · exact ends_ok e1
   · refine ends_bind (simple_ends (h1.less (by omega))) fun _ s2 e2 => ?_
     exact (loopTail_ends (h1.less (by omega)) (by omega)).mono (by omega)
theorem loop_ends {ts : List Tok} {ex st : Rd} {f : Nat} {s : Ps} (h1 : Gets ts (rem ts s) ex) (h2 : Gets ts (rem ts s) st) (hf : rem ts s ≤ f) : Ends ts (rem ts s) (loopP ts ex st f s) := by
 refine ends_bind (take_ends (by decide) s) fun _ s1 e1 => ?_
 refine ends_bind (m := rem ts s1 + 1) ?_ fun _ s2 e2 => ?_
 · unfold loopMid
   split
   · exact ends_ok (Nat.lt_succ_self _)
   · exact (loopHead_ends (s := headP s1) (h1.less (show rem ts s1 + 1 ≤ rem ts s by omega)) (show rem ts s1 ≤ f by omega)).mono (show rem ts s1 ≤ _ by omega)
 · refine ends_bind (block_ends (s := bodyP s2) (h2.less (show rem ts s2 ≤ rem ts s by omega)) (show rem ts s2 ≤ f by omega)) fun _ s3 e3 => ends_ok ?_
   have e3 : rem ts s3 < rem ts s2 := e3
   omega
theorem labelled_ends {ts : List Tok} {ex st : Rd} {f : Nat} {s : Ps} (h1 : Gets ts (rem ts s) ex) (h2 : Gets ts (rem ts s) st) (hf : rem ts s ≤ f) : Ends ts (rem ts s) (labelledP ts ex st f s) := by
 refine ends_bind (takeK_ends (by decide) s) fun _ s1 e1 => ?_
 refine ends_bind (take_ends (by decide) s1) fun _ s2 e2 => ?_
 exact ends_bind (loop_ends (h1.less (by omega)) (h2.less (by omega)) (by omega)) fun _ s3 e3 => ends_ok (by omega)
theorem stmt_ends {ts : List Tok} {ex st co : Rd} {f : Nat} {s : Ps} (h1 : Gets ts (rem ts s) ex) (h2 : Gets ts (rem ts s) st) (h3 : Gets ts (rem ts s + 1) co) (hf : rem ts s ≤ f) : Ends ts (rem ts s) (stmtP ts ex st co f s) := by
 unfold stmtP
 split
 · exact block_ends h2 hf
 split
 · exact h3 s (Nat.lt_succ_self _)
 split
 · exact loop_ends h1 h2 hf
 split
 · exact variable_ends h1
 split
 · exact returned_ends h1
 split
 · rename_i h; exact jump_ends (lt_of_at (by decide) h)
 split
 · rename_i h; exact jump_ends (lt_of_at (by decide) h)
 split
 · exact labelled_ends h1 h2 hf
 split
 · exact define_ends h1
 · refine ends_bind (chain_ends h1 hf) fun e s1 e1 => ?_
   exact (simple_ends (h1.less (by omega))).mono (by omega)
theorem stF_ends (ts : List Tok) : ∀ f : Nat, (∀ s, 2 * rem ts s + 5 ≤ f → Ends ts (rem ts s) ((stF ts f).1 s)) ∧ ∀ s, 2 * rem ts s + 4 ≤ f → Ends ts (rem ts s) ((stF ts f).2 s)
 | 0 => ⟨fun s h => absurd h (by omega), fun s h => absurd h (by omega)⟩
 | f + 1 => by
  obtain ⟨hs, hc⟩ := stF_ends ts f
  refine ⟨fun s h => ?_, fun s h => ?_⟩
  · exact stmt_ends (expr_gets ts f _ (by omega)) (fun s1 e1 => hs s1 (by omega)) (fun s1 e1 => hc s1 (by omega)) (by omega)
  · exact cond_ends (expr_gets ts f _ (by omega)) (fun s1 e1 => hs s1 (by omega)) (fun s1 e1 => hc s1 (by omega)) (by omega)
theorem stmt_gets (ts : List Tok) (f M : Nat) (h : 2 * M + 3 ≤ f) : Gets ts M (stF ts f).1 := fun s hs => (stF_ends ts f).1 s (by omega)
theorem receiver_ends (ts : List Tok) (s : Ps) : Ends ts (rem ts s) (receiverP ts s) := by
 refine ends_bind (begin_ends (by decide) s) fun _ s1 e1 => ?_
 refine ends_bind (takeK_ends (by decide) s1) fun _ s2 e2 => ?_
 refine ends_bind (ownType_ends ts s2) fun _ s3 e3 => ?_
 exact ends_bind (finish_ends (by decide) s3) fun _ s4 e4 => ends_ok (by omega)
theorem params_ends {ts : List Tok} {f : Nat} {s : Ps} (hf : rem ts s ≤ f) : Ends ts (rem ts s) (paramsP ts f s) :=
 ends_bind (row_ends (by decide) (by decide) (nt_gets ts 7 _) hf) fun _ s1 e1 => ends_ok e1
theorem function_ends {ts : List Tok} {f : Nat} {s : Ps} (hf : 2 * rem ts s + 3 ≤ f) : Ends ts (rem ts s) (functionP ts f s) := by
 refine ends_bind (take_ends (by decide) s) fun _ s1 e1 => ?_
 refine ends_bind (m := rem ts s1 + 1) (opt_ends (fun _ => (receiver_ends ts s1).mono (by omega)) (by omega)) fun _ s2 e2 => ?_
 refine ends_bind (takeK_ends (by decide) s2) fun _ s3 e3 => ?_
 refine ends_bind (params_ends (by omega)) fun _ s4 e4 => ?_
 refine ends_bind (m := rem ts s4 + 1) (opt_ends (fun _ => (typ_ends ts s4).mono (by omega)) (by omega)) fun _ s5 e5 => ?_
 exact ends_bind (block_ends (stmt_gets ts f _ (by omega)) (by omega)) fun _ s6 e6 => ends_ok (by omega)
theorem struct_ends {ts : List Tok} {f : Nat} {s : Ps} (hf : rem ts s ≤ f) : Ends ts (rem ts s) (structP ts f s) := by
 refine ends_bind (take_ends (by decide) s) fun _ s1 e1 => ?_
 refine ends_bind (takeK_ends (by decide) s1) fun _ s2 e2 => ?_
 refine ends_bind (take_ends (by decide) s2) fun _ s3 e3 => ?_
 exact ends_bind (lines_ends (nt_gets ts 4 _) (by omega)) fun _ s4 e4 => ends_ok (by omega)
theorem decl_ends {ts : List Tok} {f : Nat} {s : Ps} (hf : 2 * rem ts s + 3 ≤ f) : Ends ts (rem ts s) (declP ts f s) := by
 unfold declP
 split
 · exact struct_ends (by omega)
 · exact function_ends hf
theorem imported_ends (ts : List Tok) (s : Ps) : Ends ts (rem ts s) (importedP ts s) := by
 refine ends_bind (take_ends (by decide) s) fun _ s1 e1 => ?_
 split
 · rename_i h
   split
   · have := rem_adv (lt_of_kd (by decide) h)
     exact ends_ok (by omega)
   · exact ends_fail
 · exact ends_fail
theorem importsL_ends (ts : List Tok) : ∀ (f : Nat) (l : List Nd) (s : Ps), rem ts s < f → Ends ts (rem ts s + 1) (importsL ts f l s)
 | 0, _, _, hf => absurd hf (Nat.not_lt_zero _)
 | f + 1, l, s, hf => by
  unfold importsL
  split
  · refine ends_bind (imported_ends ts s) fun _ s1 e1 => ?_
    refine ends_bind (takeK_ends (by decide) s1) fun _ s2 e2 => ?_
    exact (importsL_ends ts f _ s2 (by omega)).mono (by omega)
  · exact ends_ok (Nat.lt_succ_self _)
theorem declsL_ends (ts : List Tok) (f0 : Nat) : ∀ (f : Nat) (l : List Nd) (s : Ps), 2 * rem ts s + 3 ≤ f0 → rem ts s < f → Ends ts (rem ts s + 1) (declsL ts f0 f l s)
 | 0, _, _, _, hf => absurd hf (Nat.not_lt_zero _)
 | f + 1, l, s, h0, hf => by
  unfold declsL
  split
  · exact ends_ok (Nat.lt_succ_self _)
  · refine ends_bind (decl_ends h0) fun _ s1 e1 => ?_
    refine ends_bind (takeK_ends (by decide) s1) fun _ s2 e2 => ?_
    exact (declsL_ends ts f0 f _ s2 (by omega) (by omega)).mono (by omega)
theorem file_ends {ts : List Tok} {f : Nat} {s : Ps} (hf : 2 * rem ts s + 3 ≤ f) : Ends ts (rem ts s) (fileP ts f s) := by
 refine ends_bind (take_ends (by decide) s) fun _ s1 e1 => ?_
 refine ends_bind (takeK_ends (by decide) s1) fun _ s2 e2 => ?_
 refine ends_bind (takeK_ends (by decide) s2) fun _ s3 e3 => ?_
 refine ends_bind (importsL_ends ts f [] s3 (by omega)) fun l s4 e4 => ?_
 refine ends_bind (declsL_ends ts f f l s4 (by omega) (by omega)) fun l s5 e5 => ends_ok (by omega)
end Go.Proofs.YtmlclgkhnekmnaaGreatDoor
namespace Go.Proofs.YtmlclgkhnekmnaaGreatDoor
open Go.RowKit
def endTok (x : List UInt8) : Tok := (0, [], x.length, x.length)
def fuelOf (l : List Tok) : Nat := 2 * l.length + 5
def deepR : Option (Pz Nd) → Except (Int × Nat) Nd
 | none => .error (0, 0)
 | some (.bad k e) => .error ((k : Int), e)
 | some (.ok n _) => match deepN 1 n with
  | some a => .error (a, 3)
  | none => .ok n
def parsR (ff : List UInt8 → Nat) (x : List UInt8) : Except (Int × Nat) Nd :=
 match tokensL ff x with
 | .error (k, e) => .error ((k : Int), e)
 | .ok l => deepR (fileP (l ++ [endTok x]) (fuelOf l) ⟨0, 0, 0⟩)
theorem file_some (l : List Tok) (t : Tok) : ∃ z, fileP (l ++ [t]) (fuelOf l) ⟨0, 0, 0⟩ = some z := by
 obtain ⟨z, h, _⟩ := file_ends (ts := l ++ [t]) (f := fuelOf l) (s := ⟨0, 0, 0⟩) (by unfold fuelOf rem; rw [List.length_append]; show 2 * (l.length + 1 - 0) + 3 ≤ _; omega)
 exact ⟨z, h⟩
def noTree : Nd := .mk 0 0 0 0 ⟨#[]⟩ []
def treeOf : Except (Int × Nat) Nd → Nd
 | .ok n => n
 | .error _ => noTree
def placeOf : Except (Int × Nat) Nd → Int
 | .ok _ => 0
 | .error x => x.1
def faultOf : Except (Int × Nat) Nd → Nat
 | .ok _ => 0
 | .error x => x.2
end Go.Proofs.YtmlclgkhnekmnaaGreatDoor
