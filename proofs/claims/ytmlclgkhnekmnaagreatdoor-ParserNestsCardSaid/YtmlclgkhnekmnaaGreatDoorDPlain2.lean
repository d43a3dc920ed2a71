/- PLAIN: a decimal of many digits (strconv's slow way): its number, its digits, its point; shifts to the left and to the right; the loops that bring it between a half and one. No program. PLAIN: what leftShift and rightShift hold in the midst of their rounds. No program. -/
namespace Go.Proofs.YtmlclgkhnekmnaaGreatDoor
theorem p10 (n : Nat) : 0 < 10 ^ n := Nat.pow_pos (by decide)
theorem p10s (n : Nat) : 10 ^ (n + 1) = 10 * 10 ^ n := by rw [Nat.pow_succ, Nat.mul_comm]
theorem p10a (a b : Nat) : 10 ^ a * 10 ^ b = 10 ^ (a + b) := (Nat.pow_add 10 a b).symm
theorem p10le {a b : Nat} (h : a ≤ b) : 10 ^ a ≤ 10 ^ b := Nat.pow_le_pow_right (by decide) h
theorem p10lt {a b : Nat} (h : 10 ^ a < 10 ^ b) : a < b := by
 rcases Nat.lt_or_ge a b with h1 | h1
 · exact h1
 · have := p10le h1; omega
structure Dc where
 D : Nat
 nd : Nat
 dp : Int
 tr : Bool
def dig (D nd i : Nat) : Nat := D / 10 ^ (nd - 1 - i) % 10
theorem dig_lt (D nd i : Nat) : dig D nd i < 10 := Nat.mod_lt _ (by decide)
theorem dig_last (D nd : Nat) : dig D (nd + 1) nd = D % 10 := by simp [dig]
theorem dig_div (D nd i : Nat) (h : i < nd) : dig (D / 10) nd i = dig D (nd + 1) i := by
 unfold dig
 rw [Nat.div_div_eq_div_mul, ← p10s]
 congr 3
 omega
theorem dig_cut (D n c i : Nat) (h : i < n) : dig (D / 10 ^ c) n i = dig D (n + c) i := by
 unfold dig
 rw [Nat.div_div_eq_div_mul, p10a]
 congr 3
 omega
structure Len (D nd : Nat) : Prop where
 n1 : 1 ≤ nd
 lo : 10 ^ (nd - 1) ≤ D
 hi : D < 10 ^ nd
def lead (D nd : Nat) : Nat := D / 10 ^ (nd - 1)
theorem Len.pos {D nd : Nat} (h : Len D nd) : 0 < D := Nat.lt_of_lt_of_le (p10 _) h.lo
theorem Len.lead1 {D nd : Nat} (h : Len D nd) : 1 ≤ lead D nd := (Nat.le_div_iff_mul_le (p10 _)).2 (by have := h.lo; omega)
theorem Len.lead9 {D nd : Nat} (h : Len D nd) : lead D nd < 10 := by
 unfold lead
 rw [Nat.div_lt_iff_lt_mul (p10 _), ← p10s]
 have := h.hi
 have e : nd - 1 + 1 = nd := by have := h.n1; omega
 rw [e]; exact this
theorem dig_lead {D nd : Nat} (h : Len D nd) : dig D nd 0 = lead D nd := by
 have := h.lead9
 unfold dig
 unfold lead at *
 rw [Nat.sub_zero, Nat.mod_eq_of_lt this]
theorem Len.cut {D nd : Nat} (h : Len D nd) (c : Nat) (hc : c < nd) : Len (D / 10 ^ c) (nd - c) := by
 refine ⟨by omega, ?_, ?_⟩
 · rw [Nat.le_div_iff_mul_le (p10 _), p10a]
   have := h.lo
   have e : nd - c - 1 + c = nd - 1 := by omega
   rw [e]; exact this
 · rw [Nat.div_lt_iff_lt_mul (p10 _), p10a]
   have e : nd - c + c = nd := by omega
   rw [e]; exact h.hi
theorem lead_cut (D nd c : Nat) (hc : c < nd) : lead (D / 10 ^ c) (nd - c) = lead D nd := by
 unfold lead
 rw [Nat.div_div_eq_div_mul, p10a]
 congr 2
 omega
def stripN : Nat → Nat → Nat × Nat
 | D, 0 => (D, 0)
 | D, nd + 1 => if D % 10 = 0 then stripN (D / 10) nd else (D, nd + 1)
theorem Len.tail {D nd : Nat} (h : Len D (nd + 1)) (h0 : D % 10 = 0) : Len (D / 10) nd := by
 have h1 : 1 ≤ nd := by
  rcases Nat.eq_zero_or_pos nd with e | e
  · subst e
    have := h.lo
    have := h.hi
    simp at *
    omega
  · exact e
 have := h.cut 1 (by omega)
 simpa using this
theorem strip_len (nd : Nat) : ∀ D, Len D nd → Len (stripN D nd).1 (stripN D nd).2 ∧ lead (stripN D nd).1 (stripN D nd).2 = lead D nd ∧ (stripN D nd).2 ≤ nd := by
 induction nd with
 | zero => intro D h; have := h.n1; omega
 | succ nd ih =>
  intro D h
  rw [stripN]
  split
  · rename_i h0
    have ht := h.tail h0
    obtain ⟨a, b, c⟩ := ih _ ht
    refine ⟨a, ?_, by omega⟩
    rw [b]
    have := lead_cut D (nd + 1) 1 (by have := ht.n1; omega)
    simpa using this
  · exact ⟨h, rfl, Nat.le_refl _⟩
structure Dc.Ok (x : Dc) : Prop where
 len : Len x.D x.nd
 n8 : x.nd ≤ 800
def Dc.lead (x : Dc) : Nat := Go.Proofs.YtmlclgkhnekmnaaGreatDoor.lead x.D x.nd
def dlt (k : Nat) : Nat := (k * 30103) / 100000 + 1
theorem dlt_facts : ∀ k, k < 61 → 1 ≤ k → 1 ≤ dlt k ∧ dlt k ≤ k ∧ dlt k ≤ 19 ∧ 10 ^ (dlt k - 1) ≤ 2 ^ k ∧ 2 ^ k < 10 ^ dlt k := by decide +kernel
def dl (k D nd : Nat) : Nat := if D * 2 ^ k < 10 ^ (nd + dlt k - 1) then dlt k - 1 else dlt k
theorem dl_len {k D nd : Nat} (h1 : 1 ≤ k) (h2 : k ≤ 60) (h : Len D nd) : Len (D * 2 ^ k) (nd + dl k D nd) := by
 obtain ⟨a1, a2, a3, a4, a5⟩ := dlt_facts k (by omega) h1
 have n1 := h.n1
 unfold dl
 split
 · rename_i hlt
   refine ⟨by omega, ?_, ?_⟩
   · have : 10 ^ (nd - 1) * 10 ^ (dlt k - 1) ≤ D * 2 ^ k := Nat.mul_le_mul h.lo a4
     rw [p10a] at this
     refine Nat.le_trans (p10le ?_) this
     omega
   · have e : nd + (dlt k - 1) = nd + dlt k - 1 := by omega
     rw [e]; exact hlt
 · rename_i hge
   refine ⟨by omega, by omega, ?_⟩
   have : D * 2 ^ k < 10 ^ nd * 10 ^ dlt k := Nat.lt_of_lt_of_le (Nat.mul_lt_mul_of_pos_right h.hi (Nat.pow_pos (by decide))) (Nat.mul_le_mul_left _ (Nat.le_of_lt a5))
   rw [p10a] at this
   exact this
theorem dl_le {k D nd : Nat} (h1 : 1 ≤ k) (h2 : k ≤ 60) : dl k D nd ≤ 19 := by
 obtain ⟨a1, a2, a3, a4, a5⟩ := dlt_facts k (by omega) h1
 unfold dl
 split <;> omega
def shl (k : Nat) (x : Dc) : Dc :=
 let n1 := x.nd + dl k x.D x.nd
 let r := stripN (x.D * 2 ^ k / 10 ^ (n1 - 800)) (min n1 800)
 ⟨r.1, r.2, x.dp + (dl k x.D x.nd : Nat), x.tr || decide (x.D * 2 ^ k % 10 ^ (n1 - 800) ≠ 0)⟩
theorem cut800 {N n1 : Nat} (h : Len N n1) : Len (N / 10 ^ (n1 - 800)) (min n1 800) ∧ lead (N / 10 ^ (n1 - 800)) (min n1 800) = lead N n1 := by
 have n1' := h.n1
 have e : min n1 800 = n1 - (n1 - 800) := by omega
 rw [e]
 exact ⟨h.cut _ (by omega), lead_cut _ _ _ (by omega)⟩
theorem shl_ok {k : Nat} {x : Dc} (h1 : 1 ≤ k) (h2 : k ≤ 60) (h : x.Ok) : (shl k x).Ok ∧ (shl k x).lead = lead (x.D * 2 ^ k) (x.nd + dl k x.D x.nd) := by
 obtain ⟨a, b⟩ := cut800 (dl_len h1 h2 h.len)
 obtain ⟨c, d, e⟩ := strip_len _ _ a
 exact ⟨⟨c, by simp only [shl]; omega⟩, by simp only [shl, Dc.lead]; rw [d, b]⟩
theorem shl_dp (k : Nat) (x : Dc) : (shl k x).dp = x.dp + (dl k x.D x.nd : Nat) := rfl
theorem lead_grows {k D nd : Nat} (h0 : dl k D nd = 0) : 2 ^ k * lead D nd ≤ lead (D * 2 ^ k) (nd + dl k D nd) := by
 rw [h0, Nat.add_zero]
 unfold lead
 rw [Nat.le_div_iff_mul_le (p10 _), Nat.mul_assoc, Nat.mul_comm]
 exact Nat.mul_le_mul_right _ (Nat.div_mul_le_self _ _)
theorem dl_zero {D nd : Nat} (h : Len D nd) (h5 : lead D nd < 5) : dl 1 D nd = 0 := by
 have hl := dl_len (k := 1) (by omega) (by omega) h
 have hd : D < 5 * 10 ^ (nd - 1) := by
  have := (Nat.div_lt_iff_lt_mul (p10 (nd - 1))).1 h5
  exact this
 have e : 10 ^ nd = 10 * 10 ^ (nd - 1) := by rw [← p10s]; congr 1; have := h.n1; omega
 have h2 : D * 2 ^ 1 < 10 ^ nd := by rw [e]; omega
 have := p10lt (Nat.lt_of_le_of_lt hl.lo h2)
 omega
def Pr (D nd r : Nat) : Nat := D * 10 ^ r / 10 ^ nd
theorem pr_zero {D nd : Nat} (h : D < 10 ^ nd) : Pr D nd 0 = 0 := by
 unfold Pr
 rw [Nat.pow_zero, Nat.mul_one]
 exact Nat.div_eq_of_lt h
theorem pr_low {D nd r : Nat} (h : r ≤ nd) : Pr D nd r = D / 10 ^ (nd - r) := by
 unfold Pr
 have e : 10 ^ nd = 10 ^ r * 10 ^ (nd - r) := by rw [p10a]; congr 1; omega
 rw [e, Nat.mul_comm D, Nat.mul_div_mul_left _ _ (p10 _)]
theorem pr_high {D nd r : Nat} (h : nd ≤ r) : Pr D nd r = D * 10 ^ (r - nd) := by
 unfold Pr
 have e : 10 ^ r = 10 ^ (r - nd) * 10 ^ nd := by rw [p10a]; congr 1; omega
 rw [e, ← Nat.mul_assoc, Nat.mul_div_cancel _ (p10 _)]
theorem pr_step {D nd r : Nat} (h : r < nd) : Pr D nd (r + 1) = Pr D nd r * 10 + dig D nd r := by
 rw [pr_low (by omega), pr_low (by omega)]
 unfold dig
 have e : nd - 1 - r = nd - (r + 1) := by omega
 have e2 : nd - r = (nd - (r + 1)) + 1 := by omega
 rw [e, e2, Nat.pow_succ, ← Nat.div_div_eq_div_mul]
 omega
theorem pr_more {D nd r : Nat} (h : nd ≤ r) : Pr D nd (r + 1) = Pr D nd r * 10 := by
 rw [pr_high (by omega), pr_high h]
 have e : r + 1 - nd = (r - nd) + 1 := by omega
 rw [e, Nat.pow_succ, Nat.mul_assoc]
theorem pr_div (D nd r : Nat) : Pr D nd (r + 1) / 10 = Pr D nd r := by
 rcases Nat.lt_or_ge r nd with h | h
 · rw [pr_step h]; have := dig_lt D nd r; omega
 · rw [pr_more h]; omega
theorem pr_bounds {D nd : Nat} (h : Len D nd) (r : Nat) : (1 ≤ r → 10 ^ (r - 1) ≤ Pr D nd r) ∧ Pr D nd r < 10 ^ r := by
 constructor
 · intro h1
   unfold Pr
   rw [Nat.le_div_iff_mul_le (p10 _), p10a]
   have : 10 ^ (nd - 1) * 10 ^ r ≤ D * 10 ^ r := Nat.mul_le_mul_right _ h.lo
   rw [p10a] at this
   refine Nat.le_trans (p10le ?_) this
   have := h.n1
   omega
 · unfold Pr
   rw [Nat.div_lt_iff_lt_mul (p10 _), Nat.mul_comm]
   exact Nat.mul_lt_mul_of_pos_left h.hi (p10 _)
def fnd (p : Nat → Bool) : Nat → Nat → Nat
 | 0, r => r
 | f + 1, r => if p r then r else fnd p f (r + 1)
theorem fnd_at (p : Nat → Bool) (R : Nat) (hR : p R = true) : ∀ f r, r ≤ R → R ≤ r + f → (∀ j, r ≤ j → j < R → p j = false) → fnd p f r = R
 | 0, r, h1, h2, _ => by rw [fnd]; omega
 | f + 1, r, h1, h2, h3 => by
  rw [fnd]
  by_cases h : r = R
  · rw [h, hR]; rfl
  · rw [h3 r (Nat.le_refl _) (by omega)]
    exact fnd_at p R hR f (r + 1) (by omega) (by omega) (fun j a b => h3 j (by omega) b)
def rA (k D nd : Nat) : Nat := fnd (fun r => decide (2 ^ k ≤ Pr D nd r)) 2000 0
def Er (k D nd r : Nat) : Nat := Pr D nd r - 10 * 2 ^ k * (Pr D nd (r - 1) / 2 ^ k)
def rB (k D nd : Nat) : Nat := fnd (fun r => decide (nd ≤ r ∧ rA k D nd ≤ r ∧ Er k D nd r = 0)) 2000 0
def Qr (k D nd r : Nat) : Nat := Pr D nd r / 2 ^ k
def shr (k : Nat) (x : Dc) : Dc :=
 let a := rA k x.D x.nd
 let b := rB k x.D x.nd
 let w := b - a
 let q := Qr k x.D x.nd (b - 1)
 let r := stripN (q / 10 ^ (w - 800)) (min w 800)
 ⟨r.1, r.2, x.dp - ((a : Int) - 1), x.tr || decide (q % 10 ^ (w - 800) ≠ 0)⟩
theorem pow2le {k : Nat} (h : k ≤ 60) : 2 ^ k ≤ 1152921504606846976 := by
 have := Nat.pow_le_pow_right (n := 2) (by decide) h
 have e : (2 : Nat) ^ 60 = 1152921504606846976 := by decide
 omega
theorem pr_mono {D nd : Nat} {a b : Nat} (h : a ≤ b) : Pr D nd a ≤ Pr D nd b := by
 unfold Pr
 exact Nat.div_le_div_right (Nat.mul_le_mul_left _ (p10le h))
theorem rA_facts {k D nd : Nat} (_h1 : 1 ≤ k) (h2 : k ≤ 60) (h : Len D nd) : 1 ≤ rA k D nd ∧ rA k D nd ≤ 20 ∧ 2 ^ k ≤ Pr D nd (rA k D nd) ∧ Pr D nd (rA k D nd - 1) < 2 ^ k := by
 have h20 : 2 ^ k ≤ Pr D nd 20 := by
  have := (pr_bounds h 20).1 (by omega)
  have e : (10 : Nat) ^ (20 - 1) = 10000000000000000000 := by decide
  have := pow2le h2
  omega
 have : ∃ R, R ≤ 20 ∧ 2 ^ k ≤ Pr D nd R ∧ ∀ j, j < R → Pr D nd j < 2 ^ k := by
  have : ∀ n, 2 ^ k ≤ Pr D nd n → ∃ R, R ≤ n ∧ 2 ^ k ≤ Pr D nd R ∧ ∀ j, j < R → Pr D nd j < 2 ^ k := by
   intro n
   induction n with
   | zero => intro hn; exact ⟨0, by omega, hn, fun j hj => by omega⟩
   | succ n ih =>
    intro hn
    by_cases hb : 2 ^ k ≤ Pr D nd n
    · obtain ⟨R, a, b, c⟩ := ih hb
      exact ⟨R, by omega, b, c⟩
    · refine ⟨n + 1, by omega, hn, fun j hj => ?_⟩
      have := pr_mono (D := D) (nd := nd) (show j ≤ n by omega)
      omega
  exact this 20 h20
 obtain ⟨R, a, b, c⟩ := this
 have e : rA k D nd = R := by
  unfold rA
  exact fnd_at _ R (by simpa using b) _ _ (by omega) (by omega) (fun j _ hj => by simpa using c j hj)
 rw [e]
 have h0 : R ≠ 0 := by
  intro h0
  rw [h0, pr_zero h.hi] at b
  have : 0 < 2 ^ k := Nat.pow_pos (by decide)
  omega
 exact ⟨by omega, a, b, c _ (by omega)⟩
theorem qr_step {k D nd r : Nat} : Qr k D nd (r + 1) / 10 = Qr k D nd r := by
 unfold Qr
 rw [Nat.div_div_eq_div_mul, Nat.mul_comm, ← Nat.div_div_eq_div_mul, pr_div]
theorem er_alt {k D nd r : Nat} (h : 1 ≤ r) : Pr D nd r = Er k D nd r + 10 * 2 ^ k * Qr k D nd (r - 1) := by
 unfold Er Qr
 have a : 2 ^ k * (Pr D nd (r - 1) / 2 ^ k) ≤ Pr D nd (r - 1) := Nat.mul_div_le _ _
 have b := pr_div D nd (r - 1)
 have e : r - 1 + 1 = r := by omega
 rw [e] at b
 have : 10 * 2 ^ k * (Pr D nd (r - 1) / 2 ^ k) ≤ Pr D nd r := by
  rw [Nat.mul_assoc]; omega
 omega
theorem er_lt {k D nd r : Nat} (h : 1 ≤ r) : Er k D nd r < 10 * 2 ^ k := by
 have a := er_alt (k := k) (D := D) (nd := nd) h
 have b := pr_div D nd (r - 1)
 have e : r - 1 + 1 = r := by omega
 rw [e] at b
 have c : Pr D nd (r - 1) < 2 ^ k * (Qr k D nd (r - 1) + 1) := by
  unfold Qr
  have := Nat.lt_mul_div_succ (Pr D nd (r - 1)) (Nat.pow_pos (n := k) (show 0 < 2 by decide))
  exact this
 rw [Nat.mul_add, Nat.mul_one] at c
 rw [Nat.mul_assoc] at a
 generalize 2 ^ k * Qr k D nd (r - 1) = X at *
 omega
theorem er_dig {k D nd r : Nat} (h : 1 ≤ r) : Er k D nd r / 2 ^ k = Qr k D nd r % 10 ∧ Er k D nd r % 2 ^ k = Pr D nd r % 2 ^ k := by
 have a := er_alt (k := k) (D := D) (nd := nd) h
 have hp : 0 < 2 ^ k := Nat.pow_pos (by decide)
 have e1 : Pr D nd r = Er k D nd r + 2 ^ k * (10 * Qr k D nd (r - 1)) := by
  rw [a]; congr 1; rw [Nat.mul_comm 10, Nat.mul_assoc]
 constructor
 · have b : Qr k D nd r = Er k D nd r / 2 ^ k + 10 * Qr k D nd (r - 1) := by
    conv => lhs; unfold Qr; rw [e1]
    rw [Nat.add_mul_div_left _ _ hp]
   have c : Er k D nd r / 2 ^ k < 10 := by
    rw [Nat.div_lt_iff_lt_mul hp]; exact er_lt h
   generalize Er k D nd r / 2 ^ k = i at *
   omega
 · rw [e1, Nat.add_mul_mod_self_left]
theorem er_next {k D nd r : Nat} (_h : 1 ≤ r) : Er k D nd (r + 1) = Pr D nd r % 2 ^ k * 10 + (if r < nd then dig D nd r else 0) := by
 unfold Er
 rw [Nat.add_sub_cancel]
 have c := Nat.div_add_mod (Pr D nd r) (2 ^ k)
 have e : Pr D nd (r + 1) = Pr D nd r * 10 + (if r < nd then dig D nd r else 0) := by
  split
  · rename_i hr; exact pr_step hr
  · rename_i hr; rw [pr_more (by omega), Nat.add_zero]
 rw [e, Nat.mul_assoc]
 generalize 2 ^ k * (Pr D nd r / 2 ^ k) = X at *
 omega
theorem er_first {k D nd : Nat} (h1 : 1 ≤ k) (h2 : k ≤ 60) (h : Len D nd) : Er k D nd (rA k D nd) = Pr D nd (rA k D nd) ∧ Qr k D nd (rA k D nd - 1) = 0 := by
 obtain ⟨a, b, c, d⟩ := rA_facts h1 h2 h
 have : Pr D nd (rA k D nd - 1) / 2 ^ k = 0 := Nat.div_eq_of_lt d
 unfold Er Qr
 rw [this]
 exact ⟨by omega, rfl⟩
theorem pow2_dvd (a n : Nat) : 2 ^ n ∣ a * 10 ^ n := by
 have : 10 ^ n = 2 ^ n * 5 ^ n := by rw [← Nat.mul_pow]
 rw [this]
 exact ⟨a * 5 ^ n, by rw [Nat.mul_left_comm]⟩
theorem er_end {k D nd r : Nat} (h : nd + k + 1 ≤ r) : Er k D nd r = 0 := by
 have e : r = (r - 1) + 1 := by omega
 by_cases h1 : 1 ≤ r - 1
 · rw [e, er_next h1, if_neg (by omega), pr_high (by omega)]
   have : D * 10 ^ (r - 1 - nd) % 2 ^ k = 0 := by
    have e2 : 10 ^ (r - 1 - nd) = 10 ^ k * 10 ^ (r - 1 - nd - k) := by rw [p10a]; congr 1; omega
    rw [e2, ← Nat.mul_assoc]
    exact Nat.mod_eq_zero_of_dvd (Nat.dvd_trans (pow2_dvd D k) ⟨_, rfl⟩)
   rw [this]
 · have : r = 1 := by omega
   subst this
   have h0 : nd = 0 := by omega
   have hk : k = 0 := by omega
   subst h0 hk
   unfold Er Pr
   simp
   omega
theorem rB_is {k D nd R : Nat} (hR : R ≤ 2000) (h1 : nd ≤ R) (h2 : rA k D nd ≤ R) (h : Er k D nd R = 0) (hl : ∀ j, j < R → nd ≤ j → rA k D nd ≤ j → Er k D nd j ≠ 0) : rB k D nd = R := by
 unfold rB
 refine fnd_at _ R (by simp [h1, h2, h]) _ _ (by omega) (by omega) (fun j _ hj => ?_)
 simp only [decide_eq_false_iff_not]
 rintro ⟨a, b, c⟩
 exact hl j hj a b c
theorem rB_facts {k D nd : Nat} (h1 : 1 ≤ k) (h2 : k ≤ 60) (h : Len D nd) (h8 : nd ≤ 800) : nd ≤ rB k D nd ∧ rA k D nd < rB k D nd ∧ rB k D nd ≤ 900 ∧ Er k D nd (rB k D nd) = 0 := by
 obtain ⟨a1, a2, a3, a4⟩ := rA_facts h1 h2 h
 have : ∃ R, R ≤ 900 ∧ nd ≤ R ∧ rA k D nd ≤ R ∧ Er k D nd R = 0 ∧ ∀ j, j < R → nd ≤ j → rA k D nd ≤ j → Er k D nd j ≠ 0 := by
  have : ∀ n, nd ≤ n → rA k D nd ≤ n → Er k D nd n = 0 → ∃ R, R ≤ n ∧ nd ≤ R ∧ rA k D nd ≤ R ∧ Er k D nd R = 0 ∧ ∀ j, j < R → nd ≤ j → rA k D nd ≤ j → Er k D nd j ≠ 0 := by
   intro n
   induction n with
   | zero => intro b c d; exact ⟨0, by omega, b, c, d, fun j hj => by omega⟩
   | succ n ih =>
    intro b c d
    by_cases hb : nd ≤ n ∧ rA k D nd ≤ n ∧ ∃ j, j ≤ n ∧ nd ≤ j ∧ rA k D nd ≤ j ∧ Er k D nd j = 0
    · obtain ⟨b1, b2, j, j1, j2, j3, j4⟩ := hb
      have : ∀ m, ∀ j, j ≤ m → nd ≤ j → rA k D nd ≤ j → Er k D nd j = 0 → ∃ R, R ≤ j ∧ nd ≤ R ∧ rA k D nd ≤ R ∧ Er k D nd R = 0 ∧ ∀ i, i < R → nd ≤ i → rA k D nd ≤ i → Er k D nd i ≠ 0 := by
       intro m
       induction m with
       | zero => intro j a b c d; exact ⟨j, by omega, b, c, d, fun i hi => by omega⟩
       | succ m ihm =>
        intro j a b c d
        by_cases hx : ∃ i, i < j ∧ nd ≤ i ∧ rA k D nd ≤ i ∧ Er k D nd i = 0
        · obtain ⟨i, i1, i2, i3, i4⟩ := hx
          obtain ⟨R, r1, r2⟩ := ihm i (by omega) i2 i3 i4
          exact ⟨R, by omega, r2⟩
        · refine ⟨j, by omega, b, c, d, fun i i1 i2 i3 i4 => hx ⟨i, i1, i2, i3, i4⟩⟩
      obtain ⟨R, r1, r2⟩ := this n j j1 j2 j3 j4
      exact ⟨R, by omega, r2⟩
    · refine ⟨n + 1, by omega, b, c, d, fun j j1 j2 j3 j4 => hb ⟨by omega, by omega, j, by omega, j2, j3, j4⟩⟩
  obtain ⟨R, r1, r2⟩ := this 900 (by omega) (by omega) (er_end (by omega))
  exact ⟨R, r1, r2⟩
 obtain ⟨R, r1, r2, r3, r4, r5⟩ := this
 have e := rB_is (by omega) r2 r3 r4 r5
 rw [e]
 refine ⟨r2, ?_, r1, r4⟩
 rcases Nat.lt_or_ge (rA k D nd) R with g | g
 · exact g
 · have : rA k D nd = R := by omega
   have h0 := (er_first h1 h2 h).1
   rw [this, r4] at h0
   rw [this] at a3
   have : 0 < 2 ^ k := Nat.pow_pos (by decide)
   omega
theorem qr_len {k D nd : Nat} (h1 : 1 ≤ k) (h2 : k ≤ 60) (h : Len D nd) : ∀ r, rA k D nd ≤ r → Len (Qr k D nd r) (r + 1 - rA k D nd) ∧ lead (Qr k D nd r) (r + 1 - rA k D nd) = Qr k D nd (rA k D nd) := by
 obtain ⟨a1, a2, a3, a4⟩ := rA_facts h1 h2 h
 have hp : 0 < 2 ^ k := Nat.pow_pos (by decide)
 intro r hr
 obtain ⟨n, rfl⟩ : ∃ n, r = rA k D nd + n := ⟨r - rA k D nd, by omega⟩
 clear hr
 induction n with
 | zero =>
  have e : rA k D nd + 0 + 1 - rA k D nd = 1 := by omega
  rw [e, Nat.add_zero]
  refine ⟨⟨by omega, ?_, ?_⟩, by simp [lead]⟩
  · unfold Qr
    simp only [Nat.sub_self, Nat.pow_zero]
    rw [Nat.le_div_iff_mul_le hp]; omega
  · unfold Qr
    rw [Nat.div_lt_iff_lt_mul hp, Nat.pow_one]
    have := pr_div D nd (rA k D nd - 1)
    have e : rA k D nd - 1 + 1 = rA k D nd := by omega
    rw [e] at this
    omega
 | succ n ih =>
  obtain ⟨b, c⟩ := ih
  have q : Qr k D nd (rA k D nd + (n + 1)) / 10 = Qr k D nd (rA k D nd + n) := qr_step
  have e : rA k D nd + (n + 1) + 1 - rA k D nd = (rA k D nd + n + 1 - rA k D nd) + 1 := by omega
  rw [e]
  have n1 := b.n1
  have l := b.lo
  have u := b.hi
  generalize rA k D nd + n + 1 - rA k D nd = m at *
  refine ⟨⟨by omega, ?_, ?_⟩, ?_⟩
  · rw [Nat.add_sub_cancel]
    have e3 : 10 ^ m = 10 * 10 ^ (m - 1) := by rw [← p10s]; congr 1; omega
    rw [e3]; omega
  · rw [p10s]; omega
  · rw [← c, ← q]
    have := lead_cut (Qr k D nd (rA k D nd + (n + 1))) (m + 1) 1 (by omega)
    simpa using this.symm
theorem shr_ok {k : Nat} {x : Dc} (h1 : 1 ≤ k) (h2 : k ≤ 60) (h : x.Ok) : (shr k x).Ok ∧ (shr k x).lead = Qr k x.D x.nd (rA k x.D x.nd) := by
 obtain ⟨b1, b2, b3, b4⟩ := rB_facts h1 h2 h.len h.n8
 obtain ⟨q1, q2⟩ := qr_len h1 h2 h.len (rB k x.D x.nd - 1) (by omega)
 have e : rB k x.D x.nd - 1 + 1 - rA k x.D x.nd = rB k x.D x.nd - rA k x.D x.nd := by omega
 rw [e] at q1 q2
 obtain ⟨a, b⟩ := cut800 q1
 obtain ⟨c, d, e⟩ := strip_len _ _ a
 exact ⟨⟨c, by simp only [shr]; omega⟩, by simp only [shr, Dc.lead]; rw [d, b, q2]⟩
theorem shr_dp (k : Nat) (x : Dc) : (shr k x).dp = x.dp - ((rA k x.D x.nd : Int) - 1) := rfl
theorem rA_two {k D nd : Nat} (h1 : 4 ≤ k) (h2 : k ≤ 60) (h : Len D nd) : 2 ≤ rA k D nd := by
 obtain ⟨a1, a2, a3, a4⟩ := rA_facts (by omega) h2 h
 rcases Nat.lt_or_ge (rA k D nd) 2 with g | g
 · have e : rA k D nd = 1 := by omega
   rw [e] at a3
   have := (pr_bounds h 1).2
   have := Nat.pow_le_pow_right (n := 2) (by decide) h1
   have e16 : (2 : Nat) ^ 4 = 16 := by decide
   omega
 · exact g
def mc (k : Nat) : Nat := k + 1 - dlt k
theorem five_ten (k : Nat) : 5 ^ k * 2 ^ k = 10 ^ k := by rw [← Nat.mul_pow]
theorem five_facts : ∀ k, k < 61 → 1 ≤ k → 1 ≤ mc k ∧ 5 ^ k % 10 ≠ 0 ∧ 5 ^ k < 10 ^ mc k := by decide +kernel
theorem dl_is {k D nd : Nat} (h1 : 1 ≤ k) (h2 : k ≤ 60) (h : 1 ≤ nd) : (D * 2 ^ k < 10 ^ (nd + dlt k - 1)) ↔ D * 10 ^ mc k < 5 ^ k * 10 ^ nd := by
 obtain ⟨a1, a2, a3, a4, a5⟩ := dlt_facts k (by omega) h1
 have hp : 0 < 2 ^ k := Nat.pow_pos (by decide)
 have e1 : 5 ^ k * 10 ^ nd * 2 ^ k = 10 ^ (nd + dlt k - 1) * 10 ^ mc k := by
  rw [Nat.mul_right_comm, five_ten, p10a, p10a]; congr 1; unfold mc; omega
 have e2 : D * 10 ^ mc k * 2 ^ k = D * 2 ^ k * 10 ^ mc k := Nat.mul_right_comm _ _ _
 constructor
 · intro hlt
   have : D * 10 ^ mc k * 2 ^ k < 5 ^ k * 10 ^ nd * 2 ^ k := by
    rw [e1, e2]; exact Nat.mul_lt_mul_of_pos_right hlt (p10 _)
   exact Nat.lt_of_mul_lt_mul_right this
 · intro hlt
   have : D * 2 ^ k * 10 ^ mc k < 10 ^ (nd + dlt k - 1) * 10 ^ mc k := by
    rw [← e1, ← e2]; exact Nat.mul_lt_mul_of_pos_right hlt hp
   exact Nat.lt_of_mul_lt_mul_right this
def SameTo (D nd C m i : Nat) : Prop := i ≤ nd ∧ i ≤ m ∧ D / 10 ^ (nd - i) = C / 10 ^ (m - i)
theorem same_zero {D nd C m : Nat} (h : D < 10 ^ nd) (h2 : C < 10 ^ m) : SameTo D nd C m 0 := ⟨by omega, by omega, by rw [Nat.sub_zero, Nat.sub_zero, Nat.div_eq_of_lt h, Nat.div_eq_of_lt h2]⟩
theorem pre_digit (D nd i : Nat) (h : i < nd) : D / 10 ^ (nd - (i + 1)) = 10 * (D / 10 ^ (nd - i)) + dig D nd i := by
 unfold dig
 have e : nd - 1 - i = nd - (i + 1) := by omega
 have e2 : nd - i = (nd - (i + 1)) + 1 := by omega
 rw [e, e2, Nat.pow_succ, ← Nat.div_div_eq_div_mul]
 omega
theorem same_next {D nd C m i : Nat} (h : SameTo D nd C m i) (h1 : i < nd) (h2 : i < m) (hd : dig D nd i = dig C m i) : SameTo D nd C m (i + 1) := by
 refine ⟨by omega, by omega, ?_⟩
 rw [pre_digit _ _ _ h1, pre_digit _ _ _ h2, h.2.2, hd]
theorem scale {nd m i : Nat} (h1 : i ≤ nd) (h2 : i ≤ m) : 10 ^ (nd - i) * 10 ^ m = 10 ^ (m - i) * 10 ^ nd := by
 rw [p10a, p10a]; congr 1; omega
theorem front_lt {D nd C m i : Nat} (h1 : i ≤ nd) (h2 : i ≤ m) (h : D / 10 ^ (nd - i) < C / 10 ^ (m - i)) : D * 10 ^ m < C * 10 ^ nd := by
 have a : D < 10 ^ (nd - i) * (D / 10 ^ (nd - i) + 1) := Nat.lt_mul_div_succ _ (p10 _)
 have b : 10 ^ (m - i) * (C / 10 ^ (m - i)) ≤ C := Nat.mul_div_le _ _
 have c : D * 10 ^ m < 10 ^ (nd - i) * (D / 10 ^ (nd - i) + 1) * 10 ^ m := Nat.mul_lt_mul_of_pos_right a (p10 _)
 have d : 10 ^ (m - i) * (C / 10 ^ (m - i)) * 10 ^ nd ≤ C * 10 ^ nd := Nat.mul_le_mul_right _ b
 have e : 10 ^ (nd - i) * (D / 10 ^ (nd - i) + 1) * 10 ^ m ≤ 10 ^ (m - i) * (C / 10 ^ (m - i)) * 10 ^ nd := by
  rw [Nat.mul_right_comm, scale h1 h2, Nat.mul_right_comm (10 ^ (m - i)) (C / 10 ^ (m - i))]
  exact Nat.mul_le_mul_left _ h
 omega
theorem front_ge {D nd C m i : Nat} (h1 : i ≤ nd) (h2 : i ≤ m) (h : C / 10 ^ (m - i) < D / 10 ^ (nd - i)) : ¬ D * 10 ^ m < C * 10 ^ nd := by
 have := front_lt (D := C) (C := D) h2 h1 h
 omega
theorem same_long {D nd C m : Nat} (h : SameTo D nd C m m) : ¬ D * 10 ^ m < C * 10 ^ nd := by
 obtain ⟨h1, h2, h3⟩ := h
 rw [Nat.sub_self, Nat.pow_zero, Nat.div_one] at h3
 have a : D / 10 ^ (nd - m) * 10 ^ (nd - m) ≤ D := Nat.div_mul_le_self _ _
 rw [h3] at a
 have b : C * 10 ^ (nd - m) * 10 ^ m ≤ D * 10 ^ m := Nat.mul_le_mul_right _ a
 have e : C * 10 ^ (nd - m) * 10 ^ m = C * 10 ^ nd := by rw [Nat.mul_assoc, p10a]; congr 2; omega
 omega
theorem same_short {D nd C m : Nat} (h : SameTo D nd C m nd) (hm : nd < m) (hc : C % 10 ≠ 0) : D * 10 ^ m < C * 10 ^ nd := by
 obtain ⟨h1, h2, h3⟩ := h
 rw [Nat.sub_self, Nat.pow_zero, Nat.div_one] at h3
 have a : C / 10 ^ (m - nd) * 10 ^ (m - nd) ≤ C := Nat.div_mul_le_self _ _
 rw [← h3] at a
 have ne : D * 10 ^ (m - nd) ≠ C := by
  intro e
  apply hc
  rw [← e]
  obtain ⟨j, hj⟩ : ∃ j, m - nd = j + 1 := ⟨m - nd - 1, by omega⟩
  rw [hj, p10s, Nat.mul_left_comm]
  exact Nat.mul_mod_right _ _
 have b : D * 10 ^ (m - nd) * 10 ^ nd < C * 10 ^ nd := Nat.mul_lt_mul_of_pos_right (by omega) (p10 _)
 have e : D * 10 ^ (m - nd) * 10 ^ nd = D * 10 ^ m := by rw [Nat.mul_assoc, p10a]; congr 2; omega
 omega
def shlF : Nat → Nat → Dc → Dc
 | 0, k, x => shl k x
 | f + 1, k, x => if 60 < k then shlF f (k - 60) (shl 60 x) else shl k x
def shrF : Nat → Nat → Dc → Dc
 | 0, k, x => shr k x
 | f + 1, k, x => if 60 < k then shrF f (k - 60) (shr 60 x) else shr k x
def shlN (k : Nat) (x : Dc) : Dc := shlF k k x
def shrN (k : Nat) (x : Dc) : Dc := shrF k k x
theorem shlF_ok : ∀ f k x, k ≤ f → 1 ≤ k → x.Ok → (shlF f k x).Ok ∧ x.dp ≤ (shlF f k x).dp ∧ (shlF f k x).dp ≤ x.dp + 19 * k
 | 0, k, x, h, h1, hx => by omega
 | f + 1, k, x, h, h1, hx => by
  rw [shlF]
  split
  · rename_i h6
    obtain ⟨a, b, c⟩ := shlF_ok f (k - 60) (shl 60 x) (by omega) (by omega) (shl_ok (by omega) (by omega) hx).1
    have e := shl_dp 60 x
    have l := dl_le (D := x.D) (nd := x.nd) (show 1 ≤ 60 by omega) (show 60 ≤ 60 by omega)
    exact ⟨a, by omega, by omega⟩
  · have e := shl_dp k x
    have l := dl_le (D := x.D) (nd := x.nd) h1 (show k ≤ 60 by omega)
    exact ⟨(shl_ok h1 (by omega) hx).1, by omega, by omega⟩
theorem shrF_ok : ∀ f k x, k ≤ f → 1 ≤ k → x.Ok → (shrF f k x).Ok ∧ (shrF f k x).dp ≤ x.dp ∧ x.dp - 19 * k ≤ (shrF f k x).dp
 | 0, k, x, h, h1, hx => by omega
 | f + 1, k, x, h, h1, hx => by
  rw [shrF]
  split
  · rename_i h6
    obtain ⟨a, b, c⟩ := shrF_ok f (k - 60) (shr 60 x) (by omega) (by omega) (shr_ok (by omega) (by omega) hx).1
    have e := shr_dp 60 x
    obtain ⟨a1, a2, _⟩ := rA_facts (show 1 ≤ 60 by omega) (show 60 ≤ 60 by omega) hx.len
    exact ⟨a, by omega, by omega⟩
  · have e := shr_dp k x
    obtain ⟨a1, a2, _⟩ := rA_facts h1 (show k ≤ 60 by omega) hx.len
    exact ⟨(shr_ok h1 (by omega) hx).1, by omega, by omega⟩
def pw (e : Nat) : Nat := if 9 ≤ e then 27 else [1, 3, 6, 9, 13, 16, 19, 23, 26].getD e 0
theorem pw_facts (e : Nat) : 1 ≤ pw e ∧ pw e ≤ 27 ∧ (1 ≤ e → 3 ≤ pw e) ∧ (2 ≤ e → 4 ≤ pw e) := by
 unfold pw
 split
 · omega
 · have : ∀ e, e < 9 → 1 ≤ [1, 3, 6, 9, 13, 16, 19, 23, 26].getD e 0 ∧ [1, 3, 6, 9, 13, 16, 19, 23, 26].getD e 0 ≤ 27 ∧ (1 ≤ e → 3 ≤ [1, 3, 6, 9, 13, 16, 19, 23, 26].getD e 0) ∧ (2 ≤ e → 4 ≤ [1, 3, 6, 9, 13, 16, 19, 23, 26].getD e 0) := by decide
   exact this e (by omega)
def muA (x : Dc) : Nat := 2 * x.dp.toNat + (if 8 ≤ x.lead then 1 else 0)
theorem muA_less {x : Dc} (h : x.Ok) (h0 : 0 < x.dp) : muA (shr (pw x.dp.toNat) x) < muA x := by
 obtain ⟨p1, p2, p3, p4⟩ := pw_facts x.dp.toNat
 have p3 := p3 (by omega)
 obtain ⟨o1, o2⟩ := shr_ok p1 (show pw x.dp.toNat ≤ 60 by omega) h
 obtain ⟨a1, a2, a3, a4⟩ := rA_facts p1 (show pw x.dp.toNat ≤ 60 by omega) h.len
 have e := shr_dp (pw x.dp.toNat) x
 have l9 := o1.len.lead9
 unfold muA
 rw [o2]
 by_cases h2 : 2 ≤ rA (pw x.dp.toNat) x.D x.nd
 · rw [e]
   split <;> split <;> omega
 · have e1 : rA (pw x.dp.toNat) x.D x.nd = 1 := by omega
   have hd : x.dp.toNat = 1 := by
    rcases Nat.lt_or_ge x.dp.toNat 2 with g | g
    · omega
    · have := rA_two (p4 g) (show pw x.dp.toNat ≤ 60 by omega) h.len
      omega
   have q3 : pw x.dp.toNat = 3 := by rw [hd]; decide
   have hl : Pr x.D x.nd 1 = x.lead := by
    rw [pr_low h.len.n1]; rfl
   have l9x : x.lead < 10 := h.len.lead9
   have e8 : (2 : Nat) ^ 3 = 8 := by decide
   rw [e1, hl, q3, e8] at a3
   have Q1 : Qr (pw x.dp.toNat) x.D x.nd (rA (pw x.dp.toNat) x.D x.nd) = 1 := by
    unfold Qr
    rw [e1, hl, q3, e8]; omega
   rw [Q1, e, e1]
   rw [if_neg (by omega), if_pos (by omega)]
   omega
def stepA (s : Dc × Int) : Dc × Int := (shr (pw s.1.dp.toNat) s.1, s.2 + (pw s.1.dp.toNat : Nat))
def loopA : Nat → Dc × Int → Dc × Int
 | 0, s => s
 | f + 1, s => if 0 < s.1.dp then loopA f (stepA s) else s
def muB (x : Dc) : Nat := (-x.dp).toNat * 16 + (10 - x.lead)
def condB (x : Dc) : Bool := decide (x.dp < 0) || (decide (x.dp = 0) && decide (x.lead < 5))
theorem muB_less {x : Dc} (h : x.Ok) (h0 : condB x = true) : muB (shl (pw (-x.dp).toNat) x) < muB x := by
 obtain ⟨p1, p2, p3, p4⟩ := pw_facts (-x.dp).toNat
 obtain ⟨o1, o2⟩ := shl_ok p1 (show pw (-x.dp).toNat ≤ 60 by omega) h
 have e := shl_dp (pw (-x.dp).toNat) x
 have l9 := o1.len.lead9
 have l1 := o1.len.lead1
 have l9x := h.len.lead9
 have l1x := h.len.lead1
 have x1 : Go.Proofs.YtmlclgkhnekmnaaGreatDoor.lead x.D x.nd = x.lead := rfl
 have x2 : Go.Proofs.YtmlclgkhnekmnaaGreatDoor.lead (shl (pw (-x.dp).toNat) x).D (shl (pw (-x.dp).toNat) x).nd = (shl (pw (-x.dp).toNat) x).lead := rfl
 rw [x1] at l9x l1x
 rw [x2] at l9 l1
 simp only [condB, Bool.or_eq_true, Bool.and_eq_true, decide_eq_true_eq] at h0
 unfold muB
 by_cases hz : dl (pw (-x.dp).toNat) x.D x.nd = 0
 · have g := lead_grows hz
   rw [← o2, x1] at g
   rw [hz] at e
   have : 2 ^ 1 ≤ 2 ^ pw (-x.dp).toNat := Nat.pow_le_pow_right (by decide) p1
   have : 2 ^ 1 * x.lead ≤ 2 ^ pw (-x.dp).toNat * x.lead := Nat.mul_le_mul_right _ this
   rw [e]
   omega
 · rcases h0 with h0 | ⟨h0, h5⟩
   · rw [e]; omega
   · have e0 : (-x.dp).toNat = 0 := by omega
     rw [e0] at hz
     have e1 : pw 0 = 1 := by decide
     rw [e1] at hz
     exact absurd (dl_zero h.len h5) hz
def stepB (s : Dc × Int) : Dc × Int := (shl (pw (-s.1.dp).toNat) s.1, s.2 - (pw (-s.1.dp).toNat : Nat))
def loopB : Nat → Dc × Int → Dc × Int
 | 0, s => s
 | f + 1, s => if condB s.1 then loopB f (stepB s) else s
end Go.Proofs.YtmlclgkhnekmnaaGreatDoor
namespace Go.Proofs.YtmlclgkhnekmnaaGreatDoor
def nL (k D e : Nat) : Nat := D % 10 ^ e * 2 ^ k / 10 ^ e
theorem nl_zero (k D : Nat) : nL k D 0 = 0 := by simp [nL, Nat.mod_one]
theorem nl_lt (k D e : Nat) : nL k D e < 2 ^ k := by
 unfold nL
 rw [Nat.div_lt_iff_lt_mul (p10 _), Nat.mul_comm]
 exact Nat.mul_lt_mul_of_pos_left (Nat.mod_lt _ (p10 _)) (Nat.pow_pos (by decide))
theorem split_at (D e : Nat) : D % 10 ^ (e + 1) = D / 10 ^ e % 10 * 10 ^ e + D % 10 ^ e := by
 rw [Nat.pow_succ, Nat.mod_mul, Nat.mul_comm]; omega
theorem nl_step (k D e : Nat) : (nL k D e + D / 10 ^ e % 10 * 2 ^ k) / 10 = nL k D (e + 1) ∧ (nL k D e + D / 10 ^ e % 10 * 2 ^ k) % 10 = D * 2 ^ k / 10 ^ e % 10 := by
 constructor
 · have : D % 10 ^ (e + 1) * 2 ^ k = D % 10 ^ e * 2 ^ k + 10 ^ e * (D / 10 ^ e % 10 * 2 ^ k) := by
    rw [split_at, Nat.add_mul, Nat.add_comm]; congr 1
    rw [Nat.mul_comm (D / 10 ^ e % 10), Nat.mul_assoc]
   conv => rhs; unfold nL
   rw [this, Nat.pow_succ, ← Nat.div_div_eq_div_mul, Nat.add_mul_div_left _ _ (p10 _)]
   rfl
 · have h : D * 2 ^ k = D % 10 ^ e * 2 ^ k + 10 ^ e * (D / 10 ^ e * 2 ^ k) := by
    conv => lhs; rw [← Nat.div_add_mod D (10 ^ e)]
    rw [Nat.add_mul, Nat.add_comm, Nat.mul_assoc]
   have h2 : D * 2 ^ k / 10 ^ e = nL k D e + D / 10 ^ e * 2 ^ k := by
    rw [h, Nat.add_mul_div_left _ _ (p10 _)]; rfl
   have h3 : D / 10 ^ e * 2 ^ k = 10 * (D / 10 ^ e / 10 * 2 ^ k) + D / 10 ^ e % 10 * 2 ^ k := by
    conv => lhs; rw [← Nat.div_add_mod (D / 10 ^ e) 10]
    rw [Nat.add_mul, Nat.mul_assoc]
   rw [h2, h3]
   omega
theorem nl_last {k D nd : Nat} (h : D < 10 ^ nd) : nL k D nd = D * 2 ^ k / 10 ^ nd := by
 unfold nL
 rw [Nat.mod_eq_of_lt h]
theorem more_mod (N e : Nat) : (N % 10 ^ (e + 1) ≠ 0) ↔ (N % 10 ^ e ≠ 0 ∨ N / 10 ^ e % 10 ≠ 0) := by
 rw [split_at]
 constructor
 · intro h
   by_cases g : N / 10 ^ e % 10 = 0
   · left; intro h2; rw [g, h2] at h; simp at h
   · exact .inr g
 · rintro (h | h) h2
   · omega
   · have : 0 < N / 10 ^ e % 10 * 10 ^ e := Nat.mul_pos (by omega) (p10 _)
     omega
def cutT (tr : Bool) (N e : Nat) : Bool := tr || decide (N % 10 ^ e ≠ 0)
theorem cutT_zero (tr : Bool) (N : Nat) : cutT tr N 0 = tr := by simp [cutT, Nat.mod_one]
theorem cutT_same {tr : Bool} {N e : Nat} (h : N / 10 ^ e % 10 = 0) : cutT tr N (e + 1) = cutT tr N e := by
 unfold cutT
 have := more_mod N e
 by_cases g : N % 10 ^ e ≠ 0
 · rw [decide_eq_true g, decide_eq_true (this.2 (.inl g))]
 · rw [decide_eq_false g, decide_eq_false (fun x => (this.1 x).elim g (fun y => y h))]
theorem cutT_true {tr : Bool} {N e : Nat} (h : N / 10 ^ e % 10 ≠ 0) : cutT tr N (e + 1) = true := by
 unfold cutT
 rw [decide_eq_true ((more_mod N e).2 (.inr h)), Bool.or_true]
theorem qr_div (k D nd r m : Nat) : Qr k D nd (r + m) / 10 ^ m = Qr k D nd r := by
 induction m with
 | zero => simp
 | succ m ih =>
  have e : r + (m + 1) = (r + m) + 1 := by omega
  rw [e, Nat.pow_succ, Nat.mul_comm, ← Nat.div_div_eq_div_mul, qr_step, ih]
theorem qr_digit {k D nd a b j : Nat} (h : a + j < b) : dig (Qr k D nd (b - 1)) (b - a) j = Qr k D nd (a + j) % 10 := by
 unfold dig
 have e : b - 1 = (a + j) + (b - a - 1 - j) := by omega
 rw [e, qr_div]
theorem qr_more {k D nd r e : Nat} (h : 1 ≤ r) : (Qr k D nd r % 10 ^ (e + 1) ≠ 0) ↔ (Qr k D nd (r - 1) % 10 ^ e ≠ 0 ∨ Qr k D nd r % 10 ≠ 0) := by
 have q := qr_step (k := k) (D := D) (nd := nd) (r := r - 1)
 have e1 : r - 1 + 1 = r := by omega
 rw [e1] at q
 have : Qr k D nd r % 10 ^ (e + 1) = 10 * (Qr k D nd (r - 1) % 10 ^ e) + Qr k D nd r % 10 := by
  rw [Nat.pow_succ, Nat.mul_comm, Nat.mod_mul, q]; omega
 rw [this]
 omega
theorem top_cut {N n1 : Nat} (i : Nat) (h : i < min n1 800) : dig (N / 10 ^ (n1 - 800)) (min n1 800) i = dig N n1 i := by
 have e : min n1 800 + (n1 - 800) = n1 := by omega
 rw [dig_cut _ _ _ _ h, e]
theorem top_done {N n1 w : Nat} (h : Len N n1) (hw : w ≤ n1) (h0 : N / 10 ^ (n1 - w) = 0) : w = 0 := by
 have : N < 10 ^ (n1 - w) := by
  rcases Nat.lt_or_ge N (10 ^ (n1 - w)) with g | g
  · exact g
  · have := Nat.div_pos g (p10 _); omega
 have := p10lt (Nat.lt_of_le_of_lt h.lo this)
 have := h.n1
 omega
theorem top_none {N n1 w : Nat} (h : Len N n1) (h0 : N / 10 ^ (n1 - w) ≠ 0) : 1 ≤ w := by
 rcases Nat.eq_zero_or_pos w with g | g
 · subst g
   rw [Nat.sub_zero, Nat.div_eq_of_lt h.hi] at h0
   exact absurd rfl h0
 · exact g
theorem top_next (N n1 w : Nat) (h1 : 1 ≤ w) (h2 : w ≤ n1) : N / 10 ^ (n1 - w) / 10 = N / 10 ^ (n1 - (w - 1)) ∧ N / 10 ^ (n1 - w) % 10 = dig N n1 (w - 1) := by
 constructor
 · rw [Nat.div_div_eq_div_mul, ← Nat.pow_succ]; congr 2; omega
 · unfold dig
   congr 3
   omega
end Go.Proofs.YtmlclgkhnekmnaaGreatDoor
