/-
  PLAIN FACTS ABOUT THE CHAPTER's EXAMPLES: what Dir, Open, Change and Close make of them. No program; no condition.
-/
import Derived.Test.YtpphkkelikdhkaaDoorOFoldLaw
namespace Go.Proofs.YtpphkkelikdhkaaDoor

def bNo : ByteArray := ⟨#[102, 105, 108, 101, 58, 47, 47, 47, 103, 101, 111, 47, 98]⟩
def bGo : ByteArray := ⟨#[102, 105, 108, 101, 58, 47, 47, 47, 103, 101, 111, 47, 98, 46, 103, 111]⟩
def ffB : ByteArray := ⟨#[255]⟩
def aB : ByteArray := ⟨#[97]⟩
def zeroT (n : Nat) : ByteArray := ⟨(List.replicate n 0).toArray⟩
theorem zeroT_size (n : Nat) : (zeroT n).size = n := by
  show (zeroT n).data.size = n
  simp [zeroT]
theorem zeroT_list (n : Nat) : (zeroT n).data.toList = List.replicate n 0 := by simp [zeroT]
theorem valid_zeros (n : Nat) : valid (List.replicate n 0) = true := by
  induction n with
  | zero => rw [List.replicate_zero, valid_nil]
  | succ n ih =>
    have hp : ∀ k, nth (List.replicate (n + 1) 0) k = 0 := fun k => by
      unfold nth
      rw [List.getD_eq_getElem?_getD, List.getElem?_replicate]
      split <;> rfl
    have hd : dec (List.replicate (n + 1) 0) = (0, 1) := by
      unfold dec
      rw [hp, hp, hp, hp]
      rfl
    rw [valid_cons _ (by simp)]
    unfold pt wd
    rw [hd]
    simpa using ih
theorem valid_ff : valid ffB.data.toList = false := by rw [validF_eq 1 _ (by decide)]; kernel_rfl
theorem valid_a : valid aB.data.toList = true := by rw [validF_eq 1 _ (by decide)]; kernel_rfl
theorem dir_no : dirB bNo.data.toList = false := by kernel_rfl
theorem dir_go : dirB bGo.data.toList = true := by kernel_rfl
def d7 : Dc := ⟨uriB, wxzB, 7⟩
theorem known_open1 (l : List Dc) (t : ByteArray) : openE l bNo t = 9 := by unfold openE; rw [dir_no]; rfl
theorem has_bgo : hasD [d5] bGo.data.toList = false := by kernel_rfl
theorem known_open2 : openE [d5] bGo ffB = 8 := by unfold openE; rw [dir_go, has_bgo, valid_ff]; rfl
theorem known_open3 : openE [d5] bGo (zeroT 65537) = 3 := by
  unfold openE
  rw [dir_go, has_bgo, zeroT_list, valid_zeros, if_neg (by decide), if_neg (by decide), if_neg (by decide), if_neg (by decide), if_pos (by rw [zeroT_size]; decide)]
theorem has_d6 : hasD [d6] uriB.data.toList = true := has6
theorem known_ver : changeE [d6] uriB 6 [] = 18 := by unfold changeE; rw [has6, doc6]; rfl
def carg : Chg := ⟨false, 0, 1, 0, 0, ⟨#[]⟩⟩
theorem valid_e : valid (⟨#[]⟩ : ByteArray).data.toList = true := valid_nil
theorem cut_arg : cutE wxzB.data.toList 0 1 0 0 = 2 := by
  unfold cutE
  rw [offPF_eq 3 _ 0 1 (by decide), offPF_eq 3 _ 0 0 (by decide)]
  kernel_rfl
theorem of_arg : ofE carg wxzB = 2 := by
  unfold ofE
  rw [show carg.s.data.toList = (⟨#[]⟩ : ByteArray).data.toList from rfl, valid_e, show okC carg wxzB = false by unfold okC; rw [show cutE wxzB.data.toList carg.a carg.b carg.c carg.d = cutE wxzB.data.toList 0 1 0 0 from rfl, cut_arg]; rfl]
  rfl
theorem known_arg : changeE [d6] uriB 7 [carg] = 2 := by
  unfold changeE
  rw [has6, doc6, show d6.t = wxzB from rfl, chgs, of_arg]
  rfl
def cff : Chg := ⟨true, 0, 0, 0, 0, ffB⟩
theorem of_ff (t : ByteArray) : ofE cff t = 8 := by unfold ofE; rw [show cff.s.data.toList = ffB.data.toList from rfl, valid_ff]; rfl
theorem known_utf : changeE [d6] uriB 7 [cff] = 8 := by
  unfold changeE
  rw [has6, doc6, chgs, of_ff]
  rfl
theorem known_none : changeE [d6] bGo 1 [] = 5 := by unfold changeE; rw [show hasD [d6] bGo.data.toList = false by kernel_rfl]; rfl
theorem known_ok : changeE [d6] uriB 7 [] = 0 := by unfold changeE; rw [has6, doc6]; rfl
theorem known_okL : changeL [d6] uriB 7 [] = [d7] := by
  unfold changeL
  rw [known_ok, if_pos rfl, doc6]
  kernel_rfl
theorem has7 : hasD [d7] uriB.data.toList = true := by kernel_rfl
theorem doc7 : docOr [d7] uriB.data.toList = d7 := doc_one wxzB 7
def czz : Chg := ⟨true, 0, 0, 0, 0, zeroT 65536⟩
def caa : Chg := ⟨false, 0, 0, 0, 0, aB⟩
theorem of_zz : ofE czz wxzB = 0 := by
  unfold ofE
  rw [show czz.s.data.toList = (zeroT 65536).data.toList from rfl, zeroT_list, valid_zeros, if_neg (by decide), if_neg (by decide), if_neg]
  rw [show czz.s.size = 65536 from zeroT_size 65536]
  show ¬ 65536 < 65536 + (wxzB.size - (wxzB.size - 0))
  decide
theorem ofT_zz : ofT czz wxzB = zeroT 65536 := by
  unfold ofT
  rw [of_zz, if_pos rfl]
  show wxzB.extract 0 0 ++ zeroT 65536 ++ wxzB.extract wxzB.size wxzB.size = zeroT 65536
  rw [show wxzB.extract 0 0 = ByteArray.empty from rfl, show wxzB.extract wxzB.size wxzB.size = ByteArray.empty from rfl, ByteArray.empty_append, ByteArray.append_empty]
theorem rows_head (l : List UInt8) : ∃ r, (rows l 0)[0]? = some r ∧ r.1 = 0 := by
  by_cases h : endI l < l.length
  · rw [rows_more l 0 h]; exact ⟨_, rfl, rfl⟩
  · rw [rows_last l 0 h]; exact ⟨_, rfl, rfl⟩
theorem byteAt_nought (l : List UInt8) : byteAt l 0 = 0 := by
  by_cases h : l = []
  · rw [h, byteAt_nil]
  · exact byteAt_lt l 0 h (by have := (un_12 l).1; omega)
theorem off00 (l : List UInt8) : offP l 0 0 = 0 := by
  obtain ⟨r, h1, h2⟩ := rows_head l
  rw [offP_row (n := 0) 0 h1, h2, byteAt_nought]
theorem of_aa : ofE caa (zeroT 65536) = 3 := by
  have h0 : cutE (zeroT 65536).data.toList 0 0 0 0 = 0 := by
    unfold cutE
    rw [off00]
    rfl
  unfold ofE
  rw [show caa.s.data.toList = aB.data.toList from rfl, valid_a, show okC caa (zeroT 65536) = true by unfold okC; rw [show cutE (zeroT 65536).data.toList caa.a caa.b caa.c caa.d = cutE (zeroT 65536).data.toList 0 0 0 0 from rfl, h0]; rfl]
  rw [if_neg (by decide), if_neg (by decide), if_pos]
  rw [zeroT_size, show fromN caa (zeroT 65536) = offP (zeroT 65536).data.toList 0 0 from rfl, show toN caa (zeroT 65536) = offP (zeroT 65536).data.toList 0 0 from rfl, off00]
  decide
theorem known_long : changeE [d7] uriB 8 [czz, caa] = 3 := by
  unfold changeE
  rw [has7, doc7, show d7.t = wxzB from rfl, chgs, of_zz, if_pos rfl, ofT_zz, chgs, of_aa]
  rfl
theorem known_close : closeE [d7] uriB = 0 := by unfold closeE; rw [has7]; rfl
theorem known_closeL : delD [d7] uriB.data.toList = [] := by kernel_rfl
theorem known_close2 : closeE [] uriB = 5 := by unfold closeE; rfl
end Go.Proofs.YtpphkkelikdhkaaDoor
