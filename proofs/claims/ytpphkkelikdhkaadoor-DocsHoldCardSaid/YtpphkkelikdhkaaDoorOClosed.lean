/-
  PLAIN FACTS ABOUT THE CHAPTER's DOCUMENT: what Open and Change make of it. No program; no condition.
-/
import Derived.Test.YtpphkkelikdhkaaDoorOChange2
import Derived.Test.YtpphkkelikdhkaaDoorClosed
namespace Go.Proofs.YtpphkkelikdhkaaDoor

def validF : Nat → List UInt8 → Bool
  | 0, _ => true
  | f + 1, l => if l = [] then true else decide (0 ≤ pt l) && validF f (l.drop (wd l))
theorem validF_eq : ∀ (f : Nat) (l : List UInt8), l.length ≤ f → valid l = validF f l
  | 0, l, h => by rw [nil_of_zero h, valid_nil]; rfl
  | f + 1, l, h => by
    by_cases hl : l = []
    · rw [hl, valid_nil]; rfl
    · rw [valid_cons l hl, validF, if_neg hl, validF_eq f _ (by have := drop_lt l hl; omega)]
/-- The chapter's URI, its texts. -/
def uriB : ByteArray := ⟨#[102, 105, 108, 101, 58, 47, 47, 47, 103, 101, 111, 47, 97, 46, 103, 111]⟩
def xyB : ByteArray := ⟨#[120, 121]⟩
def wxzB : ByteArray := ⟨#[119, 120, 122]⟩
def zB : ByteArray := ⟨#[122]⟩
def wB : ByteArray := ⟨#[119]⟩
def xzB : ByteArray := ⟨#[120, 122]⟩
def d5 : Dc := ⟨uriB, xyB, 5⟩
def d6 : Dc := ⟨uriB, wxzB, 6⟩
def cz : Chg := ⟨false, 0, 1, 0, 2, zB⟩
def cw : Chg := ⟨false, 0, 0, 0, 0, wB⟩
theorem uri_dir : dirB uriB.data.toList = true := by kernel_rfl
theorem valid_xy : valid xyB.data.toList = true := by rw [validF_eq 2 _ (by decide)]; kernel_rfl
theorem valid_z : valid zB.data.toList = true := by rw [validF_eq 1 _ (by decide)]; kernel_rfl
theorem valid_w : valid wB.data.toList = true := by rw [validF_eq 1 _ (by decide)]; kernel_rfl
theorem open5 : openE [] uriB xyB = 0 := by
  unfold openE
  rw [uri_dir, valid_xy]
  rfl
theorem open5L : openL [] uriB xyB 5 = [d5] := by unfold openL; rw [open5]; rfl
theorem has5 : hasD [d5] uriB.data.toList = true := by kernel_rfl
theorem doc5 : docOr [d5] uriB.data.toList = d5 := by
  unfold docOr getD?
  rw [List.find?_cons, show (d5.k == uriB.data.toList) = true by kernel_rfl]
  rfl
theorem has6 : hasD [d6] uriB.data.toList = true := by kernel_rfl
theorem doc6 : docOr [d6] uriB.data.toList = d6 := by
  unfold docOr getD?
  rw [List.find?_cons, show (d6.k == uriB.data.toList) = true by kernel_rfl]
  rfl
theorem again5 (t : ByteArray) : openE [d5] uriB t = 6 := by
  unfold openE
  rw [uri_dir, has5]
  rfl
theorem cutE_z : cutE xyB.data.toList 0 1 0 2 = 0 := by
  unfold cutE
  rw [offPF_eq 2 _ 0 1 (by decide), offPF_eq 2 _ 0 2 (by decide)]
  kernel_rfl
theorem from_z : fromN cz xyB = 1 := by
  unfold fromN
  show offP xyB.data.toList 0 1 = 1
  rw [offPF_eq 2 _ 0 1 (by decide)]
  kernel_rfl
theorem to_z : toN cz xyB = 2 := by
  unfold toN
  show offP xyB.data.toList 0 2 = 2
  rw [offPF_eq 2 _ 0 2 (by decide)]
  kernel_rfl
theorem of_z : ofE cz xyB = 0 := by
  unfold ofE
  rw [show cz.s.data.toList = zB.data.toList from rfl, valid_z, from_z, to_z, show okC cz xyB = true by unfold okC; rw [show cutE xyB.data.toList cz.a cz.b cz.c cz.d = cutE xyB.data.toList 0 1 0 2 from rfl, cutE_z]; rfl]
  kernel_rfl
theorem ofT_z : ofT cz xyB = xzB := by
  unfold ofT
  rw [of_z, if_pos rfl, from_z, to_z]
  kernel_rfl
theorem cutE_w : cutE xzB.data.toList 0 0 0 0 = 0 := by
  unfold cutE
  rw [offPF_eq 2 _ 0 0 (by decide)]
  kernel_rfl
theorem from_w : fromN cw xzB = 0 := by
  unfold fromN
  show offP xzB.data.toList 0 0 = 0
  rw [offPF_eq 2 _ 0 0 (by decide)]
  kernel_rfl
theorem to_w : toN cw xzB = 0 := by
  unfold toN
  show offP xzB.data.toList 0 0 = 0
  rw [offPF_eq 2 _ 0 0 (by decide)]
  kernel_rfl
theorem of_w : ofE cw xzB = 0 := by
  unfold ofE
  rw [show cw.s.data.toList = wB.data.toList from rfl, valid_w, from_w, to_w, show okC cw xzB = true by unfold okC; rw [show cutE xzB.data.toList cw.a cw.b cw.c cw.d = cutE xzB.data.toList 0 0 0 0 from rfl, cutE_w]; rfl]
  kernel_rfl
theorem ofT_w : ofT cw xzB = wxzB := by
  unfold ofT
  rw [of_w, if_pos rfl, from_w, to_w]
  kernel_rfl
theorem chgs5 : chgs xyB [cz, cw] = (wxzB, 0) := by
  rw [chgs, of_z, if_pos rfl, ofT_z, chgs, of_w, if_pos rfl, ofT_w, chgs]
theorem change5 : changeE [d5] uriB 6 [cz, cw] = 0 := by
  unfold changeE
  rw [has5, doc5, show d5.t = xyB from rfl, chgs5]
  kernel_rfl
theorem change5L : changeL [d5] uriB 6 [cz, cw] = [d6] := by
  unfold changeL
  rw [change5, if_pos rfl, doc5, show d5.t = xyB from rfl, chgs5]
  kernel_rfl
end Go.Proofs.YtpphkkelikdhkaaDoor
