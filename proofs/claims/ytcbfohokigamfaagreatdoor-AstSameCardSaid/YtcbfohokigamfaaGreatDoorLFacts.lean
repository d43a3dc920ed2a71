/-
  WHAT THE ROWS' LIST OF PACKAGE-LEVEL VARIABLES SAYS OF A WORLD, as far as the words' walks read it (Facts). No condition beside the list.
-/
import Derived.Test.YtcbfohokigamfaaGreatDoorLWit
import Derived.Test.YtcbfohokigamfaaGreatDoorLPast
import Derived.OpenShut
namespace Go.Proofs.YtcbfohokigamfaaGreatDoor
open Go.ChangeShapes Go.WideShapes Go.ChangeAt Go.RowKit Go.Lib

theorem trod_str1 {H : Type} {enc : TypeId × Value → H} {P : Program} {w : World} {base fuel : Nat} {sp : Nat → Bool} {held : Bool} {t : TypeId} {cs : List Value} {l : List UInt8} {p : List MemPlace}
    (ht : P.underlying t = some .string) (h : DataW.trod enc P w base sp held fuel t cs = some (.lit (.string l), p)) : ∃ s : ByteArray, cs = [.string s] ∧ s.data.toList = l := by
  cases fuel with
  | zero => simp [DataW.trod] at h
  | succ n =>
    unfold DataW.trod at h
    rw [ht] at h
    split at h <;> simp_all
/-- An array of texts that reads as a row of texts. -/
theorem strs_of_reads {P : Program} {W : World} {name : String} {g : Nat} {t e : TypeId} {n : Nat} {l : List (List UInt8)} (hn : P.globalNamed name = some g) (hy : (P.globals[g]?).map (·.type) = some t)
    (ht : P.underlying t = some (.array n e)) (he : P.underlying e = some .string) (hc : P.cellsOf e = 1) (h : VarReads P W name (.agg (l.map fun x => .lit (.string x)))) :
    ∀ (j : Nat) (m : List UInt8), l[j]? = some m → W.cell? ⟨g, j, none⟩ = some (.string ⟨m.toArray⟩) := by
  obtain ⟨g', t', cs, fuel, p, hg, hty, hvar, hd⟩ := h
  obtain rfl := Option.some.inj (hn.symm.trans hg)
  obtain rfl := Option.some.inj (hy.symm.trans hty)
  obtain ⟨xs, m0, rfl, hx, hl, hxl, hall⟩ := DataW.trod_array ht hd
  have e0 := congrArg Prod.fst hx
  simp only [DataW.agg.injEq] at e0
  intro j m hj
  have hjl : j < l.length := (List.getElem?_eq_some_iff.1 hj).1
  have hlen : xs.length = l.length := by
    have := congrArg List.length e0
    simp at this
    omega
  have h1 := hall j (by omega)
  obtain ⟨b, hb⟩ : ∃ b, xs[j]? = some b := ⟨xs[j]'(by omega), List.getElem?_eq_getElem (by omega)⟩
  rw [hb, hc, Nat.mul_one] at h1
  have hb1 : b.1 = .lit (.string m) := by
    have := congrArg (·[j]?) e0
    simp only [List.getElem?_map, hb, hj, Option.map_some, Option.some.injEq] at this
    exact this.symm
  obtain ⟨b1, b2⟩ := b
  simp only at hb1
  subst hb1
  obtain ⟨s, hs, hsm⟩ := trod_str1 he h1
  have hs0 := congrArg (·[0]?) hs
  simp only [List.getElem?_take, List.getElem?_drop, List.getElem?_cons_zero] at hs0
  rw [if_pos (by omega), Nat.add_zero] at hs0
  rw [World.var?_cell hg hvar j, ← Array.getElem?_toList, hs0]
  have : s = ⟨m.toArray⟩ := by
    apply ByteArray.ext
    rw [← hsm]
  rw [this]
theorem marks_data : (Rows.laid_emend_lexer_marks : DataW Unit) = .agg (markB.map fun x => .lit (.string x)) := by kernel_rfl
/-- ████ What the list says. -/
theorem Wit.facts_of {W : World} (h : laidMet Tryz.prog Rows.lexerTokensRow.laid W) (_ : W.ShapedOpen Tryz.prog) : Facts W := by
  refine ⟨?_, ?_, ?_⟩
  · exact utf8Tabs_of_reads Tryz.lays260 Wit.extra
      (by have := laidMet.reads h (show (_, Rows.laid_unicode_utf8_first) ∈ _ from .tail _ (.tail _ (.tail _ (.tail _ (.tail _ (.tail _ (.tail _ (.tail _ (.tail _ (.tail _ (.tail _ (.tail _ (.tail _ (.tail _ (.tail _ (.head _)))))))))))))))); rw [Wit.first_is] at this; exact this)
      (by have := laidMet.reads h (show (_, Rows.laid_unicode_utf8_acceptRanges) ∈ _ from .tail _ (.tail _ (.tail _ (.tail _ (.tail _ (.tail _ (.tail _ (.tail _ (.tail _ (.head _)))))))))); rw [Wit.accept_is] at this; exact this)
  · have := laidMet.reads h (show (_, Rows.laid_emend_lexer_marks) ∈ _ from .tail _ (.tail _ (.tail _ (.tail _ (.tail _ (.tail _ (.tail _ (.tail _ (.tail _ (.tail _ (.tail _ (.tail _ (.head _)))))))))))))
    rw [marks_data] at this
    exact strs_of_reads (by kernel_rfl) (by kernel_rfl) Tryz.underlying145 Tryz.underlying9 (by kernel_rfl) this
  · obtain ⟨a, s, hv, _, _, _⟩ := laid_sentinel h.tail.tail.tail.tail.tail.tail.tail.tail.tail.tail Wit.gR (by kernel_rfl) Tryz.underlying147 Wit.rowErr Tryz.underlying184 Tryz.underlying186 rfl rfl Tryz.underlying9 (by kernel_rfl) (by kernel_rfl)
    exact ⟨_, by rw [World.var?_cell Wit.gR hv 0]; rfl, .inr ⟨_, _, rfl⟩⟩
end Go.Proofs.YtcbfohokigamfaaGreatDoor
