/-
  PLAIN FACTS ABOUT BYTES THAT SPLICES KEEP: each is the same byte where it stands then; they stay in their order; how many there are. No program; no condition but those that each theorem says.
-/
import Derived.Test.YtlgjlfljohapfaaEPlain4
namespace Go.Proofs.Ytlgjlfljohapfaa

/-- Places ahead of all splices. -/
theorem mov_ahead {n : Int} : ∀ (L : List Spl) (a b : Int), fitsF n a L = true → b < a → movD b L = 0 ∧ keptB b L = true
  | [], _, _, _, _ => ⟨rfl, rfl⟩
  | x :: L, a, b, hf, hb => by
    obtain ⟨f1, f2, f3, f4⟩ := fitsF_step hf
    obtain ⟨h1, h2⟩ := mov_ahead L x.t b f4 (by omega)
    refine ⟨?_, ?_⟩
    · show (if x.t ≤ b then grow x else 0) + movD b L = 0
      rw [if_neg (by omega), h1]
      rfl
    · rw [keptB_cons, h2, decide_eq_false (p := x.f ≤ b) (by omega)]
      rfl
/-- A place never falls behind where the fitting began. -/
theorem mov_low {n : Int} : ∀ (L : List Spl) (a b : Int), fitsF n a L = true → a ≤ b → a ≤ b + movD b L
  | [], a, b, _, hb => by show a ≤ b + 0; omega
  | x :: L, a, b, hf, hb => by
    obtain ⟨f1, f2, f3, f4⟩ := fitsF_step hf
    show a ≤ b + ((if x.t ≤ b then grow x else 0) + movD b L)
    by_cases ht : x.t ≤ b
    · have ih := mov_low L x.t b f4 ht
      rw [if_pos ht]
      unfold grow
      omega
    · rw [if_neg ht, (mov_ahead L x.t b f4 (by omega)).1]
      omega
/-- Kept bytes stay in their order. -/
theorem mov_mono {n : Int} : ∀ (L : List Spl) (a b c : Int), fitsF n a L = true → b < c → keptB b L = true → b + movD b L < c + movD c L
  | [], _, b, c, _, h, _ => by show b + 0 < c + 0; omega
  | x :: L, a, b, c, hf, h, hk => by
    obtain ⟨f1, f2, f3, f4⟩ := fitsF_step hf
    rw [keptB_cons, Bool.and_eq_true] at hk
    by_cases ht : x.t ≤ b
    · have ih := mov_mono L x.t b c f4 h hk.2
      show b + ((if x.t ≤ b then grow x else 0) + movD b L) < c + ((if x.t ≤ c then grow x else 0) + movD c L)
      rw [if_pos ht, if_pos (by omega)]
      omega
    · have hbf : b < x.f := by
        by_cases h' : b < x.f
        · exact h'
        · have := hk.1
          rw [decide_eq_true (p := x.f ≤ b) (by omega), decide_eq_true (p := b < x.t) (by omega)] at this
          cases this
      have h1 : fitsF n (b + 1) (x :: L) = true := by rw [fitsF_yes (by omega) f2 f3]; exact f4
      have h2 := mov_low (x :: L) (b + 1) c h1 (by omega)
      rw [(mov_ahead (x :: L) (b + 1) b h1 (by omega)).1]
      omega
theorem get_drop (l : List UInt8) (a k : Nat) : (l.drop a)[k]? = l[a + k]? := by rw [List.getElem?_drop]
/-- A kept byte is the same byte where it stands then; the end is the end. -/
theorem kept_same (text : ByteArray) (T : List UInt8) : ∀ (L : List Spl) (a : Nat) (sh : Int) (p : List UInt8) (b : Nat), a ≤ b → b ≤ text.size → fitsF text.size a L = true → (p.length : Int) = a + sh → T = p ++ cat (pcsF text a L) → keptB b L = true →
    ∃ k : Nat, (k : Int) = b + sh + movD b L ∧ (b < text.size → T[k]? = text.data.toList[b]?) ∧ (b = text.size → k = T.length)
  | [], a, sh, p, b, hab, hb, _, hp, hT, _ => by
    rw [cat_pcs_nil] at hT
    refine ⟨p.length + (b - a), by show ((p.length + (b - a) : Nat) : Int) = b + sh + 0; omega, fun h => ?_, fun h => ?_⟩
    · rw [hT, List.getElem?_append_right (by omega), get_drop, show a + (p.length + (b - a) - p.length) = b by omega]
    · rw [hT, List.length_append, List.length_drop, size_bytes]
      omega
  | x :: L, a, sh, p, b, hab, hb, hf, hp, hT, hk => by
    obtain ⟨f1, f2, f3, f4⟩ := fitsF_step hf
    rw [keptB_cons, Bool.and_eq_true] at hk
    obtain ⟨xf, xt, xs⟩ := x
    simp only at f1 f2 f3 f4 hk
    obtain ⟨f, rfl⟩ := Int.eq_ofNat_of_zero_le (show 0 ≤ xf by omega)
    obtain ⟨t, rfl⟩ := Int.eq_ofNat_of_zero_le (show 0 ≤ xt by omega)
    rw [cat_pcs_cons] at hT
    simp only [Int.toNat_natCast] at hT
    have hl1 : ((text.data.toList.drop a).take (f - a)).length = f - a := by
      rw [List.length_take, List.length_drop, size_bytes]
      omega
    by_cases ht : t ≤ b
    · have hp' : (((p ++ (text.data.toList.drop a).take (f - a)) ++ xs.data.toList).length : Int) = t + (sh + grow ⟨(f : Int), (t : Int), xs⟩) := by
        rw [List.length_append, List.length_append, hl1, size_bytes]
        unfold grow
        simp only
        omega
      have hT' : T = ((p ++ (text.data.toList.drop a).take (f - a)) ++ xs.data.toList) ++ cat (pcsF text t L) := by
        rw [hT]
        simp [List.append_assoc]
      obtain ⟨k, h1, h2, h3⟩ := kept_same text T L t _ _ b ht hb f4 hp' hT' hk.2
      refine ⟨k, ?_, h2, h3⟩
      rw [h1]
      show _ = (b : Int) + sh + ((if (t : Int) ≤ b then grow ⟨(f : Int), (t : Int), xs⟩ else 0) + movD b L)
      rw [if_pos (by omega)]
      omega
    · have hbf : b < f := by
        rcases Nat.lt_or_ge b f with h' | h'
        · exact h'
        · have := hk.1
          rw [decide_eq_true (p := (f : Int) ≤ b) (by omega), decide_eq_true (p := (b : Int) < t) (by omega)] at this
          cases this
      have hm : movD b L = 0 := (mov_ahead L t b f4 (by omega)).1
      refine ⟨p.length + (b - a), ?_, fun h => ?_, fun h => by omega⟩
      · show _ = (b : Int) + sh + ((if (t : Int) ≤ b then grow ⟨(f : Int), (t : Int), xs⟩ else 0) + movD b L)
        rw [if_neg (by omega), hm]
        omega
      · rw [hT, List.getElem?_append_right (by omega), show p.length + (b - a) - p.length = b - a by omega, List.getElem?_append_left (by rw [hl1]; omega), List.getElem?_take_of_lt (by omega), get_drop, show a + (b - a) = b by omega]
/-- How many bytes are kept among some. -/
def cntK (L : List Spl) (a m : Nat) : Nat := (List.range' a m).countP fun i : Nat => keptB (i : Int) L
theorem cntK_succ (L : List Spl) (m : Nat) : cntK L 0 (m + 1) = cntK L 0 m + (if keptB (m : Int) L = true then 1 else 0) := by
  unfold cntK
  rw [List.range'_concat, List.countP_append]
  simp [List.countP_cons]
theorem cntK_add (L : List Spl) (a m k : Nat) : cntK L a (m + k) = cntK L a m + cntK L (a + m) k := by
  unfold cntK
  rw [← List.range'_append_1, List.countP_append]
theorem cntK_all (L : List Spl) (a m : Nat) (h : ∀ i, a ≤ i → i < a + m → keptB (i : Int) L = true) : cntK L a m = m := by
  unfold cntK
  rw [List.countP_eq_length.2 (fun i hi => by have := List.mem_range'_1.1 hi; exact h i this.1 this.2), List.length_range']
theorem cntK_none (L : List Spl) (a m : Nat) (h : ∀ i, a ≤ i → i < a + m → keptB (i : Int) L = false) : cntK L a m = 0 := by
  unfold cntK
  rw [List.countP_eq_zero]
  intro i hi
  have := List.mem_range'_1.1 hi
  rw [h i this.1 this.2]
  simp
theorem cntK_same (L M : List Spl) (a m : Nat) (h : ∀ i, a ≤ i → i < a + m → keptB (i : Int) L = keptB (i : Int) M) : cntK L a m = cntK M a m := by
  unfold cntK
  exact List.countP_congr (fun i hi => by have := List.mem_range'_1.1 hi; simp only [h i this.1 this.2])
theorem cntK_le (L : List Spl) (a m : Nat) : cntK L a m ≤ m := by
  unfold cntK
  have := List.countP_le_length (p := fun i : Nat => keptB (i : Int) L) (l := List.range' a m)
  rw [List.length_range'] at this
  exact this
def sumS : List Spl → Nat
  | [] => 0
  | x :: L => x.s.size + sumS L
theorem made_cnt (text : ByteArray) : ∀ (L : List Spl) (a : Nat), a ≤ text.size → fitsF text.size a L = true → (cat (pcsF text a L)).length = cntK L a (text.size - a) + sumS L
  | [], a, ha, _ => by
    rw [cat_pcs_nil, List.length_drop, size_bytes, cntK_all [] a _ (fun _ _ _ => rfl)]
    rfl
  | x :: L, a, ha, hf => by
    obtain ⟨f1, f2, f3, f4⟩ := fitsF_step hf
    obtain ⟨xf, xt, xs⟩ := x
    simp only at f1 f2 f3 f4
    obtain ⟨f, rfl⟩ := Int.eq_ofNat_of_zero_le (show 0 ≤ xf by omega)
    obtain ⟨t, rfl⟩ := Int.eq_ofNat_of_zero_le (show 0 ≤ xt by omega)
    have ih := made_cnt text L t (by omega) f4
    rw [cat_pcs_cons]
    simp only [Int.toNat_natCast]
    rw [List.length_append, List.length_append, List.length_take, List.length_drop, size_bytes, size_bytes, ih,
      show text.size - a = (f - a) + ((t - f) + (text.size - t)) by omega, cntK_add, cntK_add, show a + (f - a) = f by omega, show f + (t - f) = t by omega]
    have c1 : cntK (⟨(f : Int), (t : Int), xs⟩ :: L) a (f - a) = f - a := cntK_all _ _ _ (fun i h1 h2 => by
      have := (mov_ahead (n := (text.size : Int)) (⟨(f : Int), (t : Int), xs⟩ :: L) (f : Int) (i : Int) ((fitsF_yes (n := (text.size : Int)) (a := (f : Int)) (x := ⟨(f : Int), (t : Int), xs⟩) (l := L) (Int.le_refl _) f2 f3).trans f4) (by omega)).2
      exact this)
    have c2 : cntK (⟨(f : Int), (t : Int), xs⟩ :: L) f (t - f) = 0 := cntK_none _ _ _ (fun i h1 h2 => by
      rw [keptB_cons]
      simp only
      rw [decide_eq_true (p := (f : Int) ≤ i) (by omega), decide_eq_true (p := (i : Int) < t) (by omega)]
      rfl)
    have c3 : cntK (⟨(f : Int), (t : Int), xs⟩ :: L) t (text.size - t) = cntK L t (text.size - t) := cntK_same _ _ _ _ (fun i h1 h2 => by
      rw [keptB_cons]
      simp only
      rw [decide_eq_false (p := (i : Int) < t) (by omega)]
      simp)
    rw [c1, c2, c3]
    show _ = _ + (xs.size + sumS L)
    omega
theorem fits_big {n : Nat} {L : List Spl} (hn : n ≤ 1000000) (h : fits n L = true) : fits big L = true := by
  unfold fits at h ⊢
  rw [Bool.and_eq_true] at h
  have key : ∀ (L : List Spl) (a : Int), fitsF (n : Int) a L = true → ∀ x ∈ L, x.t ≤ n := by
    intro L
    induction L with
    | nil => intro a _ x hx; cases hx
    | cons y L ih =>
      intro a hf x hx
      obtain ⟨_, _, f3, f4⟩ := fitsF_step hf
      rcases List.mem_cons.1 hx with rfl | hx
      · exact f3
      · exact ih _ f4 x hx
  have hk := key L 0 h.2
  rw [decide_eq_true (by decide), Bool.true_and, ← fitsF_max (n : Int) big L 0 hk (fun x hx => by have := hk x hx; unfold big; omega)]
  exact h.2
theorem kept_end {n : Int} : ∀ (L : List Spl) (a : Int), fitsF n a L = true → keptB n L = true
  | [], _, _ => rfl
  | x :: L, a, hf => by
    obtain ⟨f1, f2, f3, f4⟩ := fitsF_step hf
    rw [keptB_cons, kept_end L _ f4, decide_eq_false (p := n < x.t) (by omega)]
    simp
end Go.Proofs.Ytlgjlfljohapfaa
