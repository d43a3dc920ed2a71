/- Part of a proof. -/
import Derived.Test.YtmlclgkhnekmnaaGreatDoorPSize
import Derived.Test.YtmlclgkhnekmnaaGreatDoorPFl
import Derived.Test.YtmlclgkhnekmnaaGreatDoorPText
namespace Go.Proofs.YtmlclgkhnekmnaaGreatDoor
open Go.RowKit
structure za2 (x : List UInt8) (ts : List Tok) : Prop where
 ord : ∀ (i : Nat) (t u : Tok), ts[i]? = some t → ts[i + 1]? = some u → t.2.2.2 ≤ u.2.2.1
 le : ∀ (i : Nat) (t : Tok), ts[i]? = some t → t.2.2.1 ≤ t.2.2.2 ∧ t.2.2.2 ≤ x.length
 real : ∀ (i : Nat) (t : Tok), ts[i]? = some t → t.2.1 ≠ [] → t.2.2.1 < t.2.2.2 ∧ t.2.2.1 + t.2.1.length = t.2.2.2 ∧ (x.drop t.2.2.1).take t.2.1.length = t.2.1
 kind : ∀ (i : Nat) (t : Tok), ts[i]? = some t → t.1 ≠ 0 → t.1 ≠ 7 → t.2.1 ≠ []
mutual
def Sn (x : List UInt8) : Nd → Prop
 | .mk k f t a s l => if k = 0 then f = 0 ∧ t = 0 ∧ a = 0 ∧ s = ⟨#[]⟩ ∧ l = [] else 0 ≤ f ∧ f < t ∧ t ≤ x.length ∧ f ≤ a ∧ a < t ∧ (k ≠ 2 → a + s.size ≤ t ∧ (x.drop a.toNat).take s.size = s.data.toList) ∧ Sl x f t l
def Sl (x : List UInt8) : Int → Int → List Nd → Prop
 | _, _, [] => True
 | lo, hi, n :: l => Sn x n ∧ (n.kind ≠ 0 → lo ≤ n.fro ∧ n.till ≤ hi) ∧ Sl x (if n.kind = 0 then lo else n.till) hi l
end
theorem za9 (x : List UInt8) (lo hi : Int) : Sl x lo hi [] := by rw [Sl]; trivial
theorem zc7 {x : List UInt8} {lo hi : Int} {n : Nd} {l : List Nd} (h1 : Sn x n) (h2 : n.kind ≠ 0 → lo ≤ n.fro ∧ n.till ≤ hi) (h3 : Sl x (if n.kind = 0 then lo else n.till) hi l) : Sl x lo hi (n :: l) := by rw [Sl]; exact ⟨h1, h2, h3⟩
theorem za8 {x : List UInt8} : ∀ {l : List Nd} {lo lo' hi hi' : Int}, Sl x lo hi l → lo' ≤ lo → hi ≤ hi' → Sl x lo' hi' l
 | [], _, _, _, _, _, _, _ => za9 ..
 | n :: l, lo, lo', hi, hi', h, h1, h2 => by
  rw [Sl] at h
  obtain ⟨a, b, c⟩ := h
  refine zc7 a (fun hk => ?_) (za8 c ?_ h2)
  · have := b hk; omega
  · split <;> omega
theorem zc6 {x : List UInt8} : ∀ {l : List Nd} {lo mid hi : Int} {n : Nd}, Sl x lo mid l → lo ≤ mid → Sn x n → n.kind ≠ 0 → mid ≤ n.fro → n.till ≤ hi → mid ≤ hi → Sl x lo hi (l ++ [n])
 | [], lo, mid, hi, n, _, h0, h1, _, h3, h4, _ => zc7 h1 (fun _ => by omega) (za9 ..)
 | m :: l, lo, mid, hi, n, h, h0, h1, h2, h3, h4, h5 => by
  rw [Sl] at h
  obtain ⟨a, b, c⟩ := h
  rw [List.cons_append]
  refine zc7 a (fun hk => ?_) (zc6 c ?_ h1 h2 h3 h4 h5)
  · have := b hk; omega
  · split
    · exact h0
    · rename_i hk; exact (b hk).2
theorem zh0 {x : List UInt8} {k f t a : Int} {s : List UInt8} {l : List Nd} (hk : k ≠ 0) (h0 : 0 ≤ f) (h1 : f < t) (h2 : t ≤ x.length) (h3 : f ≤ a) (h4 : a < t) (h5 : k ≠ 2 → a + s.length ≤ t ∧ (x.drop a.toNat).take s.length = s) (h6 : Sl x f t l) : Sn x (.mk k f t a (txt s) l) := by
 rw [Sn, if_neg hk]
 exact ⟨h0, h1, h2, h3, h4, h5, h6⟩
theorem sn_no (x : List UInt8) : Sn x noN := by
 unfold noN
 rw [Sn, if_pos rfl]
 exact ⟨rfl, rfl, rfl, rfl, rfl⟩
section
variable {x : List UInt8} {ts : List Tok}
def Pe (ts : List Tok) (s : Ps) : Nat := (tkP ts s).2.2.2
def Qb (ts : List Tok) (s : Ps) : Nat := (tk ts s).2.2.1
def ze3 (x : List UInt8) (t : Tok) : Prop := t.2.2.1 < t.2.2.2 ∧ t.2.2.2 ≤ x.length ∧ t.2.2.1 + t.2.1.length = t.2.2.2 ∧ (x.drop t.2.2.1).take t.2.1.length = t.2.1
theorem zb7 {s : Ps} (h : s.i < ts.length) : ts[s.i]? = some (tk ts s) := by
 unfold tk
 rw [List.getElem?_eq_getElem h]; rfl
theorem pos_le (hT : za2 x ts) {s : Ps} (hi : 1 ≤ s.i) (h : s.i < ts.length) : Pe ts s ≤ Qb ts s := by
 obtain ⟨i, hj⟩ : ∃ i, s.i = i + 1 := ⟨s.i - 1, by omega⟩
 have h1 : i < ts.length := by omega
 have e : tkP ts s = ts[i] := by unfold tkP; rw [show s.i - 1 = i by omega, List.getElem?_eq_getElem h1]; rfl
 have h2 := hT.ord i ts[i] (tk ts s) (List.getElem?_eq_getElem h1) (by rw [← hj]; exact zb7 h)
 unfold Pe Qb
 rw [e]; exact h2
structure Stp (x : List UInt8) (ts : List Tok) (s s' : Ps) (t : Tok) : Prop where
 i1 : s'.i = s.i + 1
 eq : t = tk ts s
 qb : Qb ts s = t.2.2.1
 pe : Pe ts s' = t.2.2.2
 le : t.2.2.1 ≤ t.2.2.2 ∧ t.2.2.2 ≤ x.length
 od : 1 ≤ s.i → Pe ts s ≤ Qb ts s
theorem zi9 (hT : za2 x ts) {s s' : Ps} (h : s.i < ts.length) (hi : s'.i = s.i + 1) : Stp x ts s s' (tk ts s) :=
 ⟨hi, rfl, rfl, by unfold Pe tkP tk; rw [hi]; rfl, hT.le _ _ (zb7 h), fun h1 => pos_le hT h1 h⟩
theorem zf3 (hT : za2 x ts) {s s' : Ps} {t : Tok} (h : s.i < ts.length) (hr : nextP ts s = some (.ok t s')) : Stp x ts s s' t := by
 obtain ⟨rfl, rfl⟩ := some_ok hr
 exact zi9 hT h rfl
theorem zb0 (hT : za2 x ts) {m : List UInt8} (hm : m ≠ []) {s s' : Ps} {t : Tok} (hr : takeP ts m s = some (.ok t s')) : Stp x ts s s' t ∧ ze3 x t := by
 unfold takeP at hr
 split at hr
 · rename_i h
   have hl := lt_of_at hm h
   have h1 := zf3 hT hl hr
   have e : t.2.1 ≠ [] := by rw [h1.eq]; unfold atB at h; rw [beq_iff_eq] at h; rw [h]; exact hm
   have h2 := hT.real s.i t (by rw [h1.eq]; exact zb7 hl) e
   exact ⟨h1, h2.1, h1.le.2, h2.2.1, h2.2.2⟩
 · cases hr
theorem za3 (hT : za2 x ts) {k : Nat} (hk : k ≠ 0) {s s' : Ps} {t : Tok} (hr : takeKP ts k s = some (.ok t s')) : Stp x ts s s' t ∧ (k ≠ 7 → ze3 x t) := by
 unfold takeKP at hr
 split at hr
 · rename_i h
   have hl := lt_of_kd hk h
   have h1 := zf3 hT hl hr
   refine ⟨h1, fun h7 => ?_⟩
   have hkk : t.1 = k := by rw [h1.eq]; unfold kdB at h; rw [beq_iff_eq] at h; exact h
   have e := hT.kind s.i t (by rw [h1.eq]; exact zb7 hl) (by omega) (by omega)
   have h2 := hT.real s.i t (by rw [h1.eq]; exact zb7 hl) e
   exact ⟨h2.1, h1.le.2, h2.2.1, h2.2.2⟩
 · cases hr
theorem zd7 (hT : za2 x ts) {m : List UInt8} (hm : m ≠ []) {s s' : Ps} {t : Tok} (hr : beginP ts m s = some (.ok t s')) : Stp x ts s s' t ∧ ze3 x t := by
 unfold beginP at hr
 split at hr
 · cases hr
 · obtain ⟨t1, s1, h1, h⟩ := bind_done hr
   obtain ⟨rfl, rfl⟩ := some_ok h
   obtain ⟨a, b⟩ := zb0 hT hm h1
   exact ⟨⟨a.i1, a.eq, a.qb, a.pe, a.le, a.od⟩, b⟩
theorem zc1 (hT : za2 x ts) {m : List UInt8} (hm : m ≠ []) {s s' : Ps} {u : Unit} (hr : finishP ts m s = some (.ok u s')) : ∃ t, Stp x ts s s' t ∧ ze3 x t := by
 unfold finishP at hr
 obtain ⟨t1, s1, h1, h⟩ := bind_done hr
 obtain ⟨-, rfl⟩ := some_ok h
 obtain ⟨a, b⟩ := zb0 hT hm h1
 exact ⟨t1, ⟨a.i1, a.eq, a.qb, a.pe, a.le, a.od⟩, b⟩
structure Rs (x : List UInt8) (ts : List Tok) (s : Ps) (n : Nd) (s' : Ps) : Prop where
 sn : Sn x n
 nz : n.kind ≠ 0
 n2 : n.kind ≠ 2
 i : 1 ≤ s'.i
 o : Pe ts s ≤ Qb ts s
 f : (Qb ts s : Int) ≤ n.fro
 t : n.till ≤ (Pe ts s' : Int)
 lt : Qb ts s < Pe ts s'
 le : Pe ts s' ≤ x.length
 ft : n.fro < n.till
def RS (x : List UInt8) (ts : List Tok) (r : Rd) : Prop := ∀ s n s', 1 ≤ s.i → r s = some (.ok n s') → Rs x ts s n s'
theorem za5 {s s1 : Ps} {k f a : Nat} {nm : List UInt8} {l : List Nd} (hk : (k : Int) ≠ 0) (hk2 : (k : Int) ≠ 2) (ho : Pe ts s ≤ Qb ts s) (hq : Qb ts s ≤ f) (hi : 1 ≤ s1.i) (hfp : f < Pe ts s1) (hle : Pe ts s1 ≤ x.length) (hfa : f ≤ a) (hap : a < Pe ts s1) (hn : a + nm.length ≤ Pe ts s1 ∧ (x.drop a).take nm.length = nm) (hl : Sl x f (Pe ts s1) l) : Rs x ts s (mkN ts k f a nm l s1) s1 := by
 refine ⟨zh0 hk (by omega) (by show (f : Int) < (Pe ts s1 : Int); omega) (by show ((Pe ts s1 : Nat) : Int) ≤ _; omega) (by omega) (by show (a : Int) < (Pe ts s1 : Int); omega) (fun _ => ?_) hl, hk, hk2, hi, ho, by show (Qb ts s : Int) ≤ (f : Int); omega, by show ((Pe ts s1 : Nat) : Int) ≤ _; exact Int.le_refl _, by omega, hle, by show (f : Int) < (Pe ts s1 : Int); omega⟩
 obtain ⟨h3, h4⟩ := hn
 exact ⟨by show (a : Int) + (nm.length : Int) ≤ (Pe ts s1 : Int); omega, by rw [Int.toNat_natCast]; exact h4⟩
theorem za7 {t : Tok} {P : Nat} (h : ze3 x t) (hp : t.2.2.2 ≤ P) : t.2.2.1 + t.2.1.length ≤ P ∧ (x.drop t.2.2.1).take t.2.1.length = t.2.1 := ⟨by have := h.2.2.1; omega, h.2.2.2⟩
theorem zc5 {a P : Nat} (h : a < P) : a + ([] : List UInt8).length ≤ P ∧ (x.drop a).take ([] : List UInt8).length = [] := ⟨by show a + 0 ≤ P; omega, rfl⟩
end
end Go.Proofs.YtmlclgkhnekmnaaGreatDoor
namespace Go.Proofs.YtmlclgkhnekmnaaGreatDoor
open Go.RowKit
section
variable {x : List UInt8} {ts : List Tok}
structure OsP (x : List UInt8) (ts : List Tok) (s : Ps) (n : Nd) (s' : Ps) : Prop where
 sn : Sn x n
 i : 1 ≤ s'.i
 pp : Pe ts s ≤ Pe ts s'
 at' : n.kind ≠ 0 → (Pe ts s : Int) ≤ n.fro ∧ n.till ≤ (Pe ts s' : Int)
theorem Rs.os {s s' : Ps} {n : Nd} (h : Rs x ts s n s') : OsP x ts s n s' := ⟨h.sn, h.i, by have := h.o; have := h.lt; omega, fun _ => ⟨by have := h.o; have := h.f; omega, h.t⟩⟩
theorem ze8 {s : Ps} (h : 1 ≤ s.i) : OsP x ts s noN s := ⟨sn_no x, h, Nat.le_refl _, fun hk => absurd rfl hk⟩
theorem za6 {s s' : Ps} {n : Nd} {l : List Nd} {lo hi : Int} (h : OsP x ts s n s') (h1 : lo ≤ (Pe ts s : Int)) (hl : Sl x (Pe ts s' : Int) hi l) (h2 : (Pe ts s' : Int) ≤ hi) : Sl x lo hi (n :: l) := by
 have hp := h.pp
 refine zc7 h.sn (fun hk => ?_) (za8 hl ?_ (Int.le_refl _))
 · have := h.at' hk; omega
 · split
   · omega
   · rename_i hk; have := h.at' hk; omega
theorem zb6 {b : Bool} {r : Rd} {s s' : Ps} {n : Nd} (h : optP b r s = some (.ok n s')) : (n = noN ∧ s' = s) ∨ (b = true ∧ r s = some (.ok n s')) := by
 unfold optP at h
 split at h
 · rename_i hb; exact .inr ⟨hb, h⟩
 · obtain ⟨rfl, rfl⟩ := some_ok h
   exact .inl ⟨rfl, rfl⟩
theorem ze9 {b : Bool} {r : Rd} {s s' : Ps} {n : Nd} (hi : 1 ≤ s.i) (h : optP b r s = some (.ok n s')) (hr : b = true → r s = some (.ok n s') → OsP x ts s n s') : OsP x ts s n s' := by
 rcases zb6 h with ⟨rfl, rfl⟩ | ⟨hb, h⟩
 · exact ze8 hi
 · exact hr hb h
theorem zb4 (hT : za2 x ts) {m : List UInt8} (hm : m ≠ []) {s : Ps} (h : atB ts s m = true) : Stp x ts s (adv s) (tk ts s) ∧ ze3 x (tk ts s) := zb0 hT hm (s' := adv s) (by unfold takeP; rw [if_pos h]; rfl)
theorem zj8 (hT : za2 x ts) {k : Nat} (hk : k ≠ 0) (h7 : k ≠ 7) {s : Ps} (h : kdB ts s k = true) : Stp x ts s (adv s) (tk ts s) ∧ ze3 x (tk ts s) := by
 have h1 := za3 hT hk (s := s) (s' := adv s) (t := tk ts s) (by unfold takeKP; rw [if_pos h]; rfl)
 exact ⟨h1.1, h1.2 h7⟩
theorem Stp.lt {s s' : Ps} {t : Tok} (h : Stp x ts s s' t) (ht : ze3 x t) : Qb ts s < Pe ts s' ∧ Pe ts s' ≤ x.length := by
 have h1 := h.qb; have h2 := h.pe; have h3 := ht.1; have h4 := ht.2.1
 omega
theorem Stp.i {s s' : Ps} {t : Tok} (h : Stp x ts s s' t) : 1 ≤ s'.i := by have := h.i1; omega
structure Ls (x : List UInt8) (ts : List Tok) (s : Ps) (l : List Nd) (s' : Ps) : Prop where
 i : 1 ≤ s'.i
 o : Pe ts s ≤ Qb ts s
 lt : Qb ts s < Pe ts s'
 le : Pe ts s' ≤ x.length
 sl : Sl x (Qb ts s : Int) (Pe ts s' : Int) l
theorem ze1 (hT : za2 x ts) {one : Rd} (h1 : RS x ts one) {lo : Int} : ∀ (f : Nat) (l : List Nd) (s : Ps) (l' : List Nd) (s' : Ps), 1 ≤ s.i → Sl x lo (Pe ts s : Int) l → lo ≤ (Pe ts s : Int) → linesL ts one f l s = some (.ok l' s') → 1 ≤ s'.i ∧ Sl x lo (Pe ts s' : Int) l' ∧ Pe ts s ≤ Pe ts s'
 | 0, _, _, _, _, _, _, _, h => by cases h
 | f + 1, l, s, l', s', hi, hl, hlo, h => by
  unfold linesL at h
  split at h
  · obtain ⟨rfl, rfl⟩ := some_ok h
    exact ⟨hi, hl, Nat.le_refl _⟩
  · obtain ⟨n, s1, hn, h⟩ := bind_done h
    have r := h1 s n s1 hi hn
    have a1 := r.o; have a2 := r.f; have a3 := r.t; have a4 := r.lt
    have hl1 : Sl x lo (Pe ts s1 : Int) (l ++ [n]) := zc6 hl hlo r.sn r.nz (by omega) a3 (by omega)
    split at h
    · obtain ⟨b1, b2, b3⟩ := ze1 hT h1 f _ s1 l' s' r.i hl1 (by omega) h
      exact ⟨b1, b2, by omega⟩
    · obtain ⟨t, s2, ht, h⟩ := bind_done h
      have k := (za3 hT (by decide) ht).1
      have c1 := k.od r.i; have c2 := k.qb; have c3 := k.pe; have c4 := k.le.1
      obtain ⟨b1, b2, b3⟩ := ze1 hT h1 f _ s2 l' s' k.i (za8 hl1 (Int.le_refl _) (by omega)) (by omega) h
      exact ⟨b1, b2, by omega⟩
theorem zh5 (hT : za2 x ts) {one : Rd} (h1 : RS x ts one) {f : Nat} {s s' : Ps} {l : List Nd} (hi : 1 ≤ s.i) (h : linesP ts one f s = some (.ok l s')) : Ls x ts s l s' := by
 unfold linesP at h
 obtain ⟨t, s1, ht, h⟩ := bind_done h
 obtain ⟨k1, k2⟩ := zd7 hT (by decide) ht
 obtain ⟨l1, s2, hl, h⟩ := bind_done h
 have a := k1.lt k2
 obtain ⟨b1, b2, b3⟩ := ze1 hT h1 (lo := (Qb ts s : Int)) f [] s1 l1 s2 k1.i (za9 ..) (by omega) hl
 obtain ⟨u, s3, hu, h⟩ := bind_done h
 obtain ⟨t2, m1, m2⟩ := zc1 hT (by decide) hu
 obtain ⟨rfl, rfl⟩ := some_ok h
 have c := m1.lt m2
 have d := m1.od b1
 exact ⟨m1.i, k1.od hi, by omega, c.2, za8 b2 (Int.le_refl _) (by omega)⟩
theorem zh2 (hT : za2 x ts) {one : Rd} (h1 : RS x ts one) {lo : Int} : ∀ (f : Nat) (more : Bool) (l : List Nd) (s : Ps) (l' : List Nd) (s' : Ps), 1 ≤ s.i → Sl x lo (Pe ts s : Int) l → lo ≤ (Pe ts s : Int) → rowL ts one f more l s = some (.ok l' s') → 1 ≤ s'.i ∧ Sl x lo (Pe ts s' : Int) l' ∧ Pe ts s ≤ Pe ts s'
 | 0, _, _, _, _, _, _, _, _, h => by cases h
 | f + 1, more, l, s, l', s', hi, hl, hlo, h => by
  unfold rowL at h
  split at h
  · obtain ⟨n, s1, hn, h⟩ := bind_done h
    have r := h1 s n s1 hi hn
    have a1 := r.o; have a2 := r.f; have a3 := r.t; have a4 := r.lt
    have hl1 : Sl x lo (Pe ts s1 : Int) (l ++ [n]) := zc6 hl hlo r.sn r.nz (by omega) a3 (by omega)
    split at h
    · rename_i hc
      obtain ⟨k, k2⟩ := zb4 hT (by decide) hc
      have c1 := k.od r.i; have c2 := k.lt k2
      obtain ⟨b1, b2, b3⟩ := zh2 hT h1 f true _ (adv s1) l' s' k.i (za8 hl1 (Int.le_refl _) (by omega)) (by omega) h
      exact ⟨b1, b2, by omega⟩
    · obtain ⟨b1, b2, b3⟩ := zh2 hT h1 f false _ s1 l' s' r.i hl1 (by omega) h
      exact ⟨b1, b2, by omega⟩
  · obtain ⟨rfl, rfl⟩ := some_ok h
    exact ⟨hi, hl, Nat.le_refl _⟩
theorem zi3 (hT : za2 x ts) {a b : List UInt8} (ha : a ≠ []) (hb : b ≠ []) {one : Rd} (h1 : RS x ts one) {f : Nat} {s s' : Ps} {l : List Nd} (hi : 1 ≤ s.i) (h : rowP ts a b one f s = some (.ok l s')) : Ls x ts s l s' := by
 unfold rowP at h
 obtain ⟨t, s1, ht, h⟩ := bind_done h
 obtain ⟨k1, k2⟩ := zd7 hT ha ht
 obtain ⟨l1, s2, hl, h⟩ := bind_done h
 have a := k1.lt k2
 obtain ⟨b1, b2, b3⟩ := zh2 hT h1 (lo := (Qb ts s : Int)) f _ [] s1 l1 s2 k1.i (za9 ..) (by omega) hl
 obtain ⟨u, s3, hu, h⟩ := bind_done h
 obtain ⟨t2, m1, m2⟩ := zc1 hT hb hu
 obtain ⟨rfl, rfl⟩ := some_ok h
 have c := m1.lt m2
 have d := m1.od b1
 exact ⟨m1.i, k1.od hi, by omega, c.2, za8 b2 (Int.le_refl _) (by omega)⟩
theorem ze4 (hT : za2 x ts) {k : Nat} (hk : (k : Int) ≠ 0) (hk2 : (k : Int) ≠ 2) {s s' : Ps} {n : Nd} (hi : 1 ≤ s.i) (hl : s.i < ts.length) (ho : ze3 x (tk ts s)) (h : leafP ts k s = some (.ok n s')) : Rs x ts s n s' := by
 unfold leafP at h
 obtain ⟨t, s1, ht, h⟩ := bind_done h
 have k1 := zf3 hT hl ht
 obtain ⟨rfl, rfl⟩ := some_ok h
 have e := k1.eq
 subst e
 have a := k1.lt ho
 have b1 := k1.qb; have b2 := k1.pe
 exact za5 hk hk2 (k1.od hi) (by omega) k1.i (by omega) a.2 (Nat.le_refl _) (by omega) (za7 ho (by omega)) (za9 ..)
theorem zd1 {s s1 s2 : Ps} {e : Nd} {k a : Nat} {nm : List UInt8} {l : List Nd} (he : Rs x ts s e s1) (hk : (k : Int) ≠ 0) (hk2 : (k : Int) ≠ 2) (hi : 1 ≤ s2.i) (hle : Pe ts s2 ≤ x.length) (ha : Pe ts s1 ≤ a) (hap : a < Pe ts s2) (hn : a + nm.length ≤ Pe ts s2 ∧ (x.drop a).take nm.length = nm) (hl : Sl x e.fro (Pe ts s2) l) : Rs x ts s (mkE ts k e a nm l s2) s2 := by
 have h1 := he.f; have h2 := he.ft; have h3 := he.t; have h4 := he.lt
 refine ⟨zh0 hk (by omega) (by show e.fro < (Pe ts s2 : Int); omega) (by show ((Pe ts s2 : Nat) : Int) ≤ _; omega) (by omega) (by show (a : Int) < (Pe ts s2 : Int); omega) (fun _ => ⟨by show (a : Int) + (nm.length : Int) ≤ (Pe ts s2 : Int); omega, by rw [Int.toNat_natCast]; exact hn.2⟩) hl, hk, hk2, hi, he.o, h1, by show ((Pe ts s2 : Nat) : Int) ≤ _; exact Int.le_refl _, by omega, hle, by show e.fro < (Pe ts s2 : Int); omega⟩
theorem zb3 {s s' : Ps} {n : Nd} {lo hi : Int} (h : OsP x ts s n s') (h1 : lo ≤ (Pe ts s : Int)) (h2 : (Pe ts s' : Int) ≤ hi) : Sl x lo hi [n] := za6 h h1 (za9 ..) h2
theorem zb5 {s s' : Ps} {n : Nd} {hi : Int} {l : List Nd} (h : Rs x ts s n s') (hl : Sl x (Pe ts s' : Int) hi l) (h2 : (Pe ts s' : Int) ≤ hi) : Sl x n.fro hi (n :: l) := by
 have := h.t
 refine zc7 h.sn (fun _ => by omega) (za8 hl ?_ (Int.le_refl _))
 rw [if_neg h.nz]; omega
theorem keyed_s (hT : za2 x ts) {ex : Rd} (h1 : RS x ts ex) : RS x ts (keyedP ts ex) := fun s n s' hi h => by
 unfold keyedP at h
 obtain ⟨t, s1, ht, h⟩ := bind_done h
 obtain ⟨k1, k2⟩ := za3 hT (by decide) ht
 have k2 := k2 (by decide)
 obtain ⟨u, s2, hu, h⟩ := bind_done h
 obtain ⟨m1, m2⟩ := zb0 hT (by decide) hu
 obtain ⟨e, s3, he, h⟩ := bind_done h
 have r := h1 s2 e s3 m1.i he
 obtain ⟨rfl, rfl⟩ := some_ok h
 have a := k1.lt k2; have b := m1.lt m2; have c := m1.od k1.i
 have d1 := r.o; have d2 := r.lt; have q := k1.qb; have p := k1.pe
 exact za5 (by decide) (by decide) (k1.od hi) (by omega) r.i (by omega) r.le (Nat.le_refl _) (by omega) (za7 k2 (by omega)) (zb3 r.os (by omega) (Int.le_refl _))
theorem zh7 {k : Int} {e : Nd} (h : Sn x e) (h0 : e.kind ≠ 0) (h2 : e.kind ≠ 2) (hk : k ≠ 0) : Sn x (ofKind k e) := by
 cases e with
 | mk k0 f t a s l =>
  have h0' : ¬ k0 = 0 := h0
  have h2' : k0 ≠ 2 := h2
  rw [Sn, if_neg h0'] at h
  refine (show Sn x (.mk k f t a s l) = _ from by rw [Sn]) ▸ ?_
  rw [if_neg hk]
  obtain ⟨b1, b2, b3, b4, b5, b6, b7⟩ := h
  exact ⟨b1, b2, b3, b4, b5, fun _ => b6 h2', b7⟩
theorem ze5 {k : Int} {s s' : Ps} {e : Nd} (h : Rs x ts s e s') (hk : k ≠ 0) (hk2 : k ≠ 2) : Rs x ts s (ofKind k e) s' := by
 have hs := zh7 h.sn h.nz h.n2 hk
 cases e
 exact ⟨hs, hk, hk2, h.i, h.o, h.f, h.t, h.lt, h.le, h.ft⟩
theorem zi1 (hT : za2 x ts) {ex : Rd} (h1 : RS x ts ex) {f : Nat} {e : Nd} {s0 s s' : Ps} {n : Nd} (he : Rs x ts s0 e s) (h : literalP ts ex f e s = some (.ok n s')) : Rs x ts s0 n s' := by
 unfold literalP at h
 obtain ⟨l, s1, hl, h⟩ := bind_done h
 have r := zi3 hT (by decide) (by decide) (keyed_s hT h1) he.i hl
 obtain ⟨rfl, rfl⟩ := some_ok h
 have a1 := r.o; have a2 := r.lt
 have hk : Rs x ts s0 (ofKind (if kN e 25 then 8 else 9) e) s := ze5 he (by split <;> decide) (by split <;> decide)
 have ef : (ofKind (if kN e 25 then 8 else 9) e).fro = e.fro := by cases e; rfl
 refine zd1 he (by decide) (by decide) r.i r.le a1 a2 (zc5 a2) ?_
 rw [← ef]
 exact zb5 hk (za8 r.sl (by show (Pe ts s : Int) ≤ (Qb ts s : Int); omega) (Int.le_refl _)) (by omega)
end
end Go.Proofs.YtmlclgkhnekmnaaGreatDoor
namespace Go.Proofs.YtmlclgkhnekmnaaGreatDoor
open Go.RowKit
section
variable {x : List UInt8} {ts : List Tok}
theorem zd6 (hT : za2 x ts) {s : Ps} {m : List UInt8} {b : Bool} (hm : m ≠ []) (hb : b = true → s.i < ts.length ∧ ze3 x (tk ts s)) (h : (atB ts s m || b) = true) : s.i < ts.length ∧ ze3 x (tk ts s) := by
 rcases Bool.or_eq_true_iff.mp h with h | h
 · exact ⟨lt_of_at hm h, (zb4 hT hm h).2⟩
 · exact hb h
theorem zg1 (hT : za2 x ts) {s : Ps} {m : List UInt8} (hm : m ≠ []) (h : atB ts s m = true) : s.i < ts.length ∧ ze3 x (tk ts s) := ⟨lt_of_at hm h, (zb4 hT hm h).2⟩
theorem zh1 (hT : za2 x ts) {s : Ps} {k : Nat} (hk : k ≠ 0) (h7 : k ≠ 7) (h : kdB ts s k = true) : s.i < ts.length ∧ ze3 x (tk ts s) := ⟨lt_of_kd hk h, (zj8 hT hk h7 h).2⟩
theorem zc8 (hT : za2 x ts) {s s1 : Ps} {t : Tok} (hl : s.i < ts.length ∧ ze3 x (tk ts s)) (ht : nextP ts s = some (.ok t s1)) : Stp x ts s s1 t ∧ ze3 x t := by
 have k := zf3 hT hl.1 ht
 exact ⟨k, by rw [k.eq]; exact hl.2⟩
theorem zh9 (hT : za2 x ts) {ex : Rd} (h1 : RS x ts ex) {f : Nat} : RS x ts (operandP ts ex f) := fun s n s' hi h => by
 unfold operandP at h
 split at h
 · rename_i hc; have q := zh1 hT (by decide) (by decide) hc; exact ze4 hT (by decide) (by decide) hi q.1 q.2 h
 split at h
 · rename_i hc; have q := zh1 hT (by decide) (by decide) hc; exact ze4 hT (by decide) (by decide) hi q.1 q.2 h
 split at h
 · rename_i hc; have q := zh1 hT (by decide) (by decide) hc; exact ze4 hT (by decide) (by decide) hi q.1 q.2 h
 split at h
 · rename_i hc; have q := zh1 hT (by decide) (by decide) hc; exact ze4 hT (by decide) (by decide) hi q.1 q.2 h
 split at h
 · rename_i hc; have q := zd6 hT (by decide) (zg1 hT (by decide)) hc; exact ze4 hT (by decide) (by decide) hi q.1 q.2 h
 split at h
 · rename_i hc
   have q := zd6 hT (by decide) (zd6 hT (by decide) (zd6 hT (by decide) (zd6 hT (by decide) (zg1 hT (by decide))))) hc
   obtain ⟨t, s1, ht, h⟩ := bind_done h
   obtain ⟨k1, k2⟩ := zc8 hT q ht
   obtain ⟨l, s2, hl, h⟩ := bind_done h
   have r := zi3 hT (by decide) (by decide) h1 k1.i hl
   obtain ⟨rfl, rfl⟩ := some_ok h
   have a := k1.lt k2; have b1 := r.o; have b2 := r.lt; have c1 := k1.qb; have c2 := k1.pe; have c3 := k2.1
   exact za5 (by decide) (by decide) (k1.od hi) (by omega) r.i (by omega) r.le (Nat.le_refl _) (by omega) (za7 k2 (by omega)) (za8 r.sl (by omega) (Int.le_refl _))
 · obtain ⟨t, s1, ht, h⟩ := bind_done h
   obtain ⟨k1, k2⟩ := zd7 hT (by decide) ht
   obtain ⟨e, s2, he, h⟩ := bind_done h
   have r := h1 s1 e s2 k1.i he
   obtain ⟨u, s3, hu, h⟩ := bind_done h
   obtain ⟨t2, m1, m2⟩ := zc1 hT (by decide) hu
   obtain ⟨rfl, rfl⟩ := some_ok h
   have a := k1.lt k2; have b := m1.lt m2; have b0 := m1.od r.i; have b1 := r.o; have b2 := r.lt; have c1 := k1.qb; have c2 := k1.pe; have c3 := k2.1
   exact za5 (by decide) (by decide) (k1.od hi) (by omega) m1.i (by omega) b.2 (Nat.le_refl _) (by omega) (zc5 (by omega)) (zb3 r.os (by omega) (by omega))
theorem zc3 (hT : za2 x ts) {ex : Rd} (h1 : RS x ts ex) {f0 : Nat} {s0 : Ps} : ∀ (f : Nat) (e : Nd) (s : Ps) (n : Nd) (s' : Ps), Rs x ts s0 e s → chainL ts ex f0 f e s = some (.ok n s') → Rs x ts s0 n s'
 | 0, _, _, _, _, _, h => by cases h
 | f + 1, e, s, n, s', he, h => by
  unfold chainL at h
  split at h
  · rename_i hc
    obtain ⟨k1, k2⟩ := zb4 hT (by decide) hc
    obtain ⟨t, s1, ht, h⟩ := bind_done h
    obtain ⟨m1, m2⟩ := za3 hT (by decide) ht
    have m2 := m2 (by decide)
    have a0 := k1.od he.i; have a := k1.lt k2; have b0 := m1.od k1.i; have b := m1.lt m2; have c1 := m1.qb; have c2 := m1.pe; have c3 := m2.1
    exact zc3 hT h1 f _ s1 n s' (zd1 he (by decide) (by decide) m1.i b.2 (by omega) (by omega) (za7 m2 (by omega)) (zb5 he (za9 ..) (by omega))) h
  split at h
  · obtain ⟨l, s1, hl, h⟩ := bind_done h
    have r := zi3 hT (by decide) (by decide) h1 he.i hl
    have a1 := r.o; have a2 := r.lt
    exact zc3 hT h1 f _ s1 n s' (zd1 he (by decide) (by decide) r.i r.le a1 a2 (zc5 a2) (zb5 he (za8 r.sl (by show (Pe ts s : Int) ≤ (Qb ts s : Int); omega) (Int.le_refl _)) (by omega))) h
  split at h
  · obtain ⟨e2, s1, he2, h⟩ := bind_done h
    exact zc3 hT h1 f e2 s1 n s' (zi1 hT h1 he he2) h
  · obtain ⟨rfl, rfl⟩ := some_ok h
    exact he
theorem zf1 (hT : za2 x ts) {ex : Rd} (h1 : RS x ts ex) {f : Nat} : RS x ts (chainP ts ex f) := fun s n s' hi h => by
 unfold chainP at h
 obtain ⟨e, s1, he, h⟩ := bind_done h
 exact zc3 hT h1 f e s1 n s' (zh9 hT h1 s e s1 hi he) h
theorem unary_s (hT : za2 x ts) {un ex : Rd} (hu : RS x ts un) (h1 : RS x ts ex) {f : Nat} : RS x ts (unaryP ts un ex f) := fun s n s' hi h => by
 unfold unaryP at h
 split at h
 · rename_i hc
   have q := zd6 hT (by decide) (zg1 hT (by decide)) hc
   obtain ⟨t, s1, ht, h⟩ := bind_done h
   obtain ⟨k1, k2⟩ := zc8 hT q ht
   obtain ⟨e, s2, he, h⟩ := bind_done h
   have r := hu s1 e s2 k1.i he
   obtain ⟨rfl, rfl⟩ := some_ok h
   have a := k1.lt k2; have b1 := r.o; have b2 := r.lt; have c1 := k1.qb; have c2 := k1.pe; have c3 := k2.1
   exact za5 (by decide) (by decide) (k1.od hi) (by omega) r.i (by omega) r.le (Nat.le_refl _) (by omega) (za7 k2 (by omega)) (zb3 r.os (by omega) (Int.le_refl _))
 · exact zf1 hT h1 s n s' hi h
theorem zi8 {y : List UInt8} {l : Nat} (hl : 1 ≤ l) (h : ¬ levelB y < l) : y ≠ [] := by
 rintro rfl
 exact h (by show 0 < l; omega)
theorem zj6 (hT : za2 x ts) {bi : Nat → Rd} (h1 : ∀ l, 1 ≤ l → RS x ts (bi l)) {least : Nat} (hl : 1 ≤ least) {s0 : Ps} : ∀ (f : Nat) (e : Nd) (s : Ps) (n : Nd) (s' : Ps), Rs x ts s0 e s → binL ts bi least f e s = some (.ok n s') → Rs x ts s0 n s'
 | 0, _, _, _, _, _, h => by cases h
 | f + 1, e, s, n, s', he, h => by
  unfold binL at h
  split at h
  · obtain ⟨rfl, rfl⟩ := some_ok h
    exact he
  · rename_i hc
    have hlt := lt_of_level hl hc
    have k1 := zi9 hT hlt (s' := adv s) rfl
    have k2 : ze3 x (tk ts s) := by
     have h2 := hT.real s.i _ (zb7 hlt) (zi8 hl hc)
     exact ⟨h2.1, k1.le.2, h2.2.1, h2.2.2⟩
    obtain ⟨r, s1, hr, h⟩ := bind_done h
    have r1 := h1 _ (by omega) (adv s) r s1 k1.i hr
    have a0 := k1.od he.i; have a := k1.lt k2; have b1 := r1.o; have b2 := r1.lt; have c1 := k1.qb; have c2 := k1.pe; have c3 := k2.1
    exact zj6 hT h1 hl f _ s1 n s' (zd1 he (by decide) (by decide) r1.i r1.le (by omega) (by omega) (za7 k2 (by omega)) (zb5 he (zb3 r1.os (by omega) (Int.le_refl _)) (by omega))) h
theorem exF_s (hT : za2 x ts) : ∀ f : Nat, RS x ts (exF ts f).1 ∧ ∀ l, 1 ≤ l → RS x ts ((exF ts f).2 l)
 | 0 => ⟨(fun _ _ _ _ h => by cases h), (fun _ _ _ _ _ _ h => by cases h)⟩
 | f + 1 => by
  obtain ⟨hu, hb⟩ := exF_s hT f
  refine ⟨unary_s hT hu (hb 1 (Nat.le_refl _)), fun l hl s n s' hi h => ?_⟩
  change binaryP ts (exF ts f).1 (exF ts f).2 f l s = _ at h
  unfold binaryP at h
  obtain ⟨e, s1, he, h⟩ := bind_done h
  exact zj6 hT hb hl f e s1 n s' (hu s e s1 hi he) h
theorem zj4 (hT : za2 x ts) (f : Nat) : RS x ts (exprP ts f) := (exF_s hT f).2 1 (Nat.le_refl _)
theorem ze6 (hT : za2 x ts) : RS x ts (ownTypeP ts) := fun s n s' hi h => by
 unfold ownTypeP at h
 obtain ⟨t, s1, ht, h⟩ := bind_done h
 obtain ⟨k1, k2⟩ := za3 hT (by decide) ht
 have k2 := k2 (by decide)
 obtain ⟨rfl, rfl⟩ := some_ok h
 have a := k1.lt k2; have c1 := k1.qb; have c2 := k1.pe; have c3 := k2.1
 exact za5 (by decide) (by decide) (k1.od hi) (by omega) k1.i (by omega) a.2 (Nat.le_refl _) (by omega) (za7 k2 (by omega)) (za9 ..)
theorem zi2 (hT : za2 x ts) : RS x ts (typP ts) := fun s n s' hi h => by
 unfold typP at h
 split at h
 · rename_i hc
   have q := zd6 hT (by decide) (zd6 hT (by decide) (zd6 hT (by decide) (zg1 hT (by decide)))) hc
   obtain ⟨t, s1, ht, h⟩ := bind_done h
   obtain ⟨k1, k2⟩ := zc8 hT q ht
   obtain ⟨rfl, rfl⟩ := some_ok h
   have a := k1.lt k2; have c1 := k1.qb; have c2 := k1.pe; have c3 := k2.1
   exact za5 (by decide) (by decide) (k1.od hi) (by omega) k1.i (by omega) a.2 (Nat.le_refl _) (by omega) (za7 k2 (by omega)) (za9 ..)
 · obtain ⟨e, s1, he, h⟩ := bind_done h
   have r := ze6 hT s e s1 hi he
   split at h
   · rename_i hc
     obtain ⟨k1, k2⟩ := zb4 hT (by decide) hc
     obtain ⟨t, s2, ht, h⟩ := bind_done h
     obtain ⟨m1, m2⟩ := za3 hT (by decide) ht
     have m2 := m2 (by decide)
     obtain ⟨rfl, rfl⟩ := some_ok h
     have a0 := k1.od r.i; have a := k1.lt k2; have b0 := m1.od k1.i; have b := m1.lt m2; have c1 := m1.qb; have c2 := m1.pe; have c3 := m2.1
     have r2 : Rs x ts s (ofKind 25 e) s1 := ze5 r (by decide) (by decide)
     have ef : (ofKind 25 e).fro = e.fro := by cases e; rfl
     refine zd1 r (by decide) (by decide) m1.i b.2 (by omega) (by omega) (za7 m2 (by omega)) ?_
     rw [← ef]
     exact zb5 r2 (za9 ..) (by omega)
   · obtain ⟨rfl, rfl⟩ := some_ok h
     exact r
theorem nt_s (hT : za2 x ts) {k : Nat} (hk : (k : Int) ≠ 0) (hk2 : (k : Int) ≠ 2) : RS x ts (ntP ts k) := fun s n s' hi h => by
 unfold ntP at h
 obtain ⟨t, s1, ht, h⟩ := bind_done h
 obtain ⟨k1, k2⟩ := za3 hT (by decide) ht
 have k2 := k2 (by decide)
 obtain ⟨e, s2, he, h⟩ := bind_done h
 have r := zi2 hT s1 e s2 k1.i he
 obtain ⟨rfl, rfl⟩ := some_ok h
 have a := k1.lt k2; have b1 := r.o; have b2 := r.lt; have c1 := k1.qb; have c2 := k1.pe; have c3 := k2.1
 exact za5 hk hk2 (k1.od hi) (by omega) r.i (by omega) r.le (Nat.le_refl _) (by omega) (za7 k2 (by omega)) (zb3 r.os (by omega) (Int.le_refl _))
theorem zc9 (hT : za2 x ts) {st : Rd} (h1 : RS x ts st) {f : Nat} : RS x ts (blockP ts st f) := fun s n s' hi h => by
 unfold blockP at h
 obtain ⟨l, s1, hl, h⟩ := bind_done h
 have r := zh5 hT h1 hi hl
 obtain ⟨rfl, rfl⟩ := some_ok h
 exact za5 (by decide) (by decide) r.o (Nat.le_refl _) r.i r.lt r.le (Nat.le_refl _) r.lt (zc5 r.lt) r.sl
theorem zg2 (hT : za2 x ts) {ex : Rd} (h1 : RS x ts ex) : RS x ts (variableP ts ex) := fun s n s' hi h => by
 unfold variableP at h
 obtain ⟨v, s1, hv, h⟩ := bind_done h
 obtain ⟨k1, k2⟩ := zb0 hT (by decide) hv
 obtain ⟨t, s2, ht, h⟩ := bind_done h
 obtain ⟨m1, m2⟩ := za3 hT (by decide) ht
 have m2 := m2 (by decide)
 obtain ⟨y, s3, hy, h⟩ := bind_done h
 have oy := ze9 m1.i hy (fun _ h => (zi2 hT s2 y s3 m1.i h).os)
 obtain ⟨e, s4, he, h⟩ := bind_done h
 have oe : OsP x ts s3 e s4 := ze9 oy.i he (fun hb h => by
  obtain ⟨w1, w2⟩ := zb4 hT (by decide) hb
  have r := (h1 (adv s3) e s4 w1.i h).os
  have a := w1.lt w2; have a0 := w1.od oy.i
  exact ⟨r.sn, r.i, by have := r.pp; omega, fun hk => by have := r.at' hk; omega⟩)
 obtain ⟨rfl, rfl⟩ := some_ok h
 have a := k1.lt k2; have b0 := m1.od k1.i; have b := m1.lt m2; have c1 := k1.qb; have c2 := k1.pe; have c3 := k2.1; have d1 := m1.qb; have d2 := m1.pe; have d3 := m2.1
 have e1 := oy.pp; have e2 := oe.pp
 have hle : Pe ts s4 ≤ x.length := by
  rcases zb6 he with ⟨-, rfl⟩ | ⟨hb, h⟩
  · rcases zb6 hy with ⟨-, rfl⟩ | ⟨_, h⟩
    · exact b.2
    · exact (zi2 hT s2 y s4 m1.i h).le
  · obtain ⟨w1, w2⟩ := zb4 hT (by decide) hb
    exact (h1 (adv s3) e s4 w1.i h).le
 exact za5 (by decide) (by decide) (k1.od hi) (by omega) oe.i (by omega) hle (by omega) (by omega) (za7 m2 (by omega)) (za6 oy (by omega) (zb3 oe (Int.le_refl _) (Int.le_refl _)) (by omega))
theorem zg3 (hT : za2 x ts) {ex : Rd} (h1 : RS x ts ex) : RS x ts (returnedP ts ex) := fun s n s' hi h => by
 unfold returnedP at h
 obtain ⟨v, s1, hv, h⟩ := bind_done h
 obtain ⟨k1, k2⟩ := zb0 hT (by decide) hv
 have a := k1.lt k2; have c1 := k1.qb; have c2 := k1.pe; have c3 := k2.1
 split at h
 · obtain ⟨rfl, rfl⟩ := some_ok h
   exact za5 (by decide) (by decide) (k1.od hi) (by omega) k1.i (by omega) a.2 (Nat.le_refl _) (by omega) (zc5 (by omega)) (za9 ..)
 · obtain ⟨e, s2, he, h⟩ := bind_done h
   have r := h1 s1 e s2 k1.i he
   obtain ⟨rfl, rfl⟩ := some_ok h
   have b1 := r.o; have b2 := r.lt
   exact za5 (by decide) (by decide) (k1.od hi) (by omega) r.i (by omega) r.le (Nat.le_refl _) (by omega) (zc5 (by omega)) (zb3 r.os (by omega) (Int.le_refl _))
theorem zj2 (hT : za2 x ts) {k : Nat} (hk : (k : Int) ≠ 0) (hk2 : (k : Int) ≠ 2) {s s' : Ps} {n : Nd} (hi : 1 ≤ s.i) (hl : s.i < ts.length ∧ ze3 x (tk ts s)) (h : jumpP ts k s = some (.ok n s')) : Rs x ts s n s' := by
 unfold jumpP at h
 obtain ⟨v, s1, hv, h⟩ := bind_done h
 obtain ⟨k1, k2⟩ := zc8 hT hl hv
 have a := k1.lt k2; have c1 := k1.qb; have c2 := k1.pe; have c3 := k2.1
 split at h
 · rename_i hc
   obtain ⟨t, s2, ht, h⟩ := bind_done h
   obtain ⟨m1, m2⟩ := zc8 hT (zh1 hT (by decide) (by decide) hc) ht
   obtain ⟨rfl, rfl⟩ := some_ok h
   have b0 := m1.od k1.i; have b := m1.lt m2; have d1 := m1.qb; have d2 := m1.pe; have d3 := m2.1
   exact za5 hk hk2 (k1.od hi) (by omega) m1.i (by omega) b.2 (by omega) (by omega) (za7 m2 (by omega)) (za9 ..)
 · obtain ⟨rfl, rfl⟩ := some_ok h
   exact za5 hk hk2 (k1.od hi) (by omega) k1.i (by omega) a.2 (Nat.le_refl _) (by omega) (zc5 (by omega)) (za9 ..)
theorem zf5 (hT : za2 x ts) {ex : Rd} (h1 : RS x ts ex) : RS x ts (defineP ts ex) := fun s n s' hi h => by
 unfold defineP at h
 obtain ⟨t, s1, ht, h⟩ := bind_done h
 obtain ⟨k1, k2⟩ := za3 hT (by decide) ht
 have k2 := k2 (by decide)
 obtain ⟨u, s2, hu, h⟩ := bind_done h
 obtain ⟨m1, m2⟩ := zb0 hT (by decide) hu
 obtain ⟨e, s3, he, h⟩ := bind_done h
 have r := h1 s2 e s3 m1.i he
 obtain ⟨rfl, rfl⟩ := some_ok h
 have a := k1.lt k2; have b := m1.lt m2; have c := m1.od k1.i
 have d1 := r.o; have d2 := r.lt; have q := k1.qb; have p := k1.pe
 exact za5 (by decide) (by decide) (k1.od hi) (by omega) r.i (by omega) r.le (Nat.le_refl _) (by omega) (za7 k2 (by omega)) (zb3 r.os (by omega) (Int.le_refl _))
theorem zd9 (hT : za2 x ts) {ex : Rd} (h1 : RS x ts ex) {e : Nd} {s0 s s' : Ps} {n : Nd} (he : Rs x ts s0 e s) (h : simpleP ts ex e s = some (.ok n s')) : Rs x ts s0 n s' := by
 unfold simpleP at h
 split at h
 · rename_i hc
   obtain ⟨k1, k2⟩ := zb4 hT (by decide) (Bool.and_eq_true_iff.mp hc).2
   obtain ⟨v, s1, hv, h⟩ := bind_done h
   have r := h1 (adv s) v s1 k1.i hv
   obtain ⟨rfl, rfl⟩ := some_ok h
   have a0 := k1.od he.i; have a := k1.lt k2; have b1 := r.o; have b2 := r.lt; have c1 := k1.qb; have c2 := k1.pe; have c3 := k2.1
   exact zd1 he (by decide) (by decide) r.i r.le a0 (by show Qb ts s < _; omega) (zc5 (by show Qb ts s < _; omega)) (zb5 he (zb3 r.os (by omega) (Int.le_refl _)) (by omega))
 split at h
 · obtain ⟨rfl, rfl⟩ := some_ok h
   have h1 := he.f; have h2 := he.ft; have h3 := he.t; have h4 := he.lt; have h5 := he.le
   refine ⟨zh0 (s := []) (by decide) (by omega) (by show e.fro < (Pe ts s : Int); omega) (by show ((Pe ts s : Nat) : Int) ≤ _; omega) (Int.le_refl _) (by show e.fro < (Pe ts s : Int); omega) (fun _ => ⟨by show e.fro + 0 ≤ (Pe ts s : Int); omega, rfl⟩) (zb5 he (za9 ..) (Int.le_refl _)), (by show (20 : Int) ≠ 0; decide), (by show (20 : Int) ≠ 2; decide), he.i, he.o, h1, Int.le_refl _, h4, h5, by show e.fro < (Pe ts s : Int); omega⟩
 · cases h
end
end Go.Proofs.YtmlclgkhnekmnaaGreatDoor
namespace Go.Proofs.YtmlclgkhnekmnaaGreatDoor
open Go.RowKit
section
variable {x : List UInt8} {ts : List Tok}
theorem Rs.same {s0 s s' : Ps} {n : Nd} (h : Rs x ts s0 n s') (e1 : Pe ts s0 = Pe ts s) (e2 : Qb ts s0 = Qb ts s) : Rs x ts s n s' :=
 ⟨h.sn, h.nz, h.n2, h.i, by rw [← e1, ← e2]; exact h.o, by rw [← e2]; exact h.f, h.t, by rw [← e2]; exact h.lt, h.le, h.ft⟩
theorem zh4 (hT : za2 x ts) {st co : Rd} (h2 : RS x ts st) (h3 : RS x ts co) {f : Nat} : RS x ts (otherP ts st co f) := fun s n s' hi h => by
 unfold otherP at h
 split at h
 · exact h3 s n s' hi h
 · exact zc9 hT h2 s n s' hi h
theorem cond_s (hT : za2 x ts) {ex st co : Rd} (h1 : RS x ts ex) (h2 : RS x ts st) (h3 : RS x ts co) {f : Nat} : RS x ts (condP ts ex st co f) := fun s n s' hi h => by
 unfold condP at h
 obtain ⟨v, s1, hv, h⟩ := bind_done h
 obtain ⟨k1, k2⟩ := zb0 hT (by decide) hv
 obtain ⟨e, s2, he, h⟩ := bind_done h
 have r : Rs x ts s1 e s2 := (h1 (headP s1) e s2 k1.i he).same rfl rfl
 obtain ⟨b, s3, hb, h⟩ := bind_done h
 have rb : Rs x ts s2 b s3 := (zc9 hT h2 (bodyP s2) b s3 r.i hb).same rfl rfl
 obtain ⟨o, s4, ho, h⟩ := bind_done h
 have oo : OsP x ts s3 o s4 := ze9 rb.i ho (fun hb h => by
  obtain ⟨w1, w2⟩ := zb4 hT (by decide) hb
  have q := (zh4 hT h2 h3 (adv s3) o s4 w1.i h).os
  have a := w1.lt w2; have a0 := w1.od rb.i
  exact ⟨q.sn, q.i, by have := q.pp; omega, fun hk => by have := q.at' hk; omega⟩)
 obtain ⟨rfl, rfl⟩ := some_ok h
 have a := k1.lt k2; have c1 := k1.qb; have c2 := k1.pe; have c3 := k2.1
 have b1 := r.o; have b2 := r.lt; have d1 := rb.o; have d2 := rb.lt; have e2 := oo.pp
 have hle : Pe ts s4 ≤ x.length := by
  rcases zb6 ho with ⟨-, rfl⟩ | ⟨hb, h⟩
  · exact rb.le
  · obtain ⟨w1, w2⟩ := zb4 hT (by decide) hb
    exact (zh4 hT h2 h3 (adv s3) o s4 w1.i h).le
 exact za5 (by decide) (by decide) (k1.od hi) (by omega) oo.i (by omega) hle (Nat.le_refl _) (by omega) (zc5 (by omega)) (za6 r.os (by omega) (za6 rb.os (Int.le_refl _) (zb3 oo (Int.le_refl _) (Int.le_refl _)) (by omega)) (by omega))
structure Hs (x : List UInt8) (ts : List Tok) (s : Ps) (r : Nd × Nd × Nd) (s' : Ps) : Prop where
 i : 1 ≤ s'.i
 pp : Pe ts s ≤ Pe ts s'
 le : Pe ts s ≤ x.length → Pe ts s' ≤ x.length
 sl : ∀ lo hi l, lo ≤ (Pe ts s : Int) → Sl x (Pe ts s' : Int) hi l → (Pe ts s' : Int) ≤ hi → Sl x lo hi (r.1 :: r.2.1 :: r.2.2 :: l)
theorem zb9 (hT : za2 x ts) {ex : Rd} (h1 : RS x ts ex) {f : Nat} {a : Nd} {s0 s s' : Ps} {r : Nd × Nd × Nd} (ha : OsP x ts s0 a s) (_h0 : Pe ts s0 ≤ x.length → Pe ts s ≤ x.length) (h : loopTail ts ex f a s = some (.ok r s')) : Hs x ts s0 r s' := by
 unfold loopTail at h
 obtain ⟨t1, s1, ht1, h⟩ := bind_done h
 have k1 := (za3 hT (by decide) ht1).1
 obtain ⟨e, s2, he, h⟩ := bind_done h
 have oe := ze9 k1.i he (fun _ h => (h1 s1 e s2 k1.i h).os)
 obtain ⟨t2, s3, ht2, h⟩ := bind_done h
 have m1 := (za3 hT (by decide) ht2).1
 obtain ⟨z, s4, hz, h⟩ := bind_done h
 have rz : ∀ z s4, (chainP ts ex f s3).bind (fun e s => simpleP ts ex e s) = some (.ok z s4) → Rs x ts s3 z s4 := fun z s4 h => by
  obtain ⟨e2, s5, he2, h⟩ := bind_done h
  exact zd9 hT h1 (zf1 hT h1 s3 e2 s5 m1.i he2) h
 have oz := ze9 m1.i hz (fun _ h => (rz z s4 h).os)
 obtain ⟨rfl, rfl⟩ := some_ok h
 have a0 := ha.pp; have a1 := k1.od ha.i; have a2 := k1.qb; have a3 := k1.pe; have a4 := k1.le
 have b0 := oe.pp; have b1 := m1.od oe.i; have b2 := m1.qb; have b3 := m1.pe; have b4 := m1.le; have c0 := oz.pp
 refine ⟨oz.i, by omega, fun _ => ?_, fun lo hi l hlo hl hh => ?_⟩
 · rcases zb6 hz with ⟨-, rfl⟩ | ⟨_, h⟩
   · omega
   · exact (rz z s4 h).le
 · exact za6 ha hlo (za6 oe (by omega) (za6 oz (by omega) hl hh) (by omega)) (by omega)
theorem zg5 (hT : za2 x ts) {ex : Rd} (h1 : RS x ts ex) {f : Nat} {s s' : Ps} {r : Nd × Nd × Nd} (hi : 1 ≤ s.i) (h : loopHeadP ts ex f s = some (.ok r s')) : Hs x ts s r s' := by
 unfold loopHeadP at h
 split at h
 · exact zb9 hT h1 (ze8 hi) id h
 split at h
 · obtain ⟨a, s1, ha, h⟩ := bind_done h
   have q := zf5 hT h1 s a s1 hi ha
   exact zb9 hT h1 q.os (fun _ => q.le) h
 · obtain ⟨e, s1, he, h⟩ := bind_done h
   have q := h1 s e s1 hi he
   split at h
   · obtain ⟨rfl, rfl⟩ := some_ok h
     have := q.os.pp
     exact ⟨q.i, this, fun _ => q.le, fun lo top l hlo hl hh => za6 (ze8 hi) hlo (za6 q.os (Int.le_refl _) (za6 (ze8 q.i) (Int.le_refl _) hl hh) hh) (by omega)⟩
   · obtain ⟨a, s2, ha, h⟩ := bind_done h
     have q2 := zd9 hT h1 q ha
     exact zb9 hT h1 q2.os (fun _ => q2.le) h
theorem zj0 (hT : za2 x ts) {ex st : Rd} (h1 : RS x ts ex) (h2 : RS x ts st) {f : Nat} : RS x ts (loopP ts ex st f) := fun s n s' hi h => by
 unfold loopP at h
 obtain ⟨v, s1, hv, h⟩ := bind_done h
 obtain ⟨k1, k2⟩ := zb0 hT (by decide) hv
 obtain ⟨r, s2, hr, h⟩ := bind_done h
 have q : Hs x ts s1 r s2 := by
  unfold loopMid at hr
  split at hr
  · obtain ⟨rfl, rfl⟩ := some_ok hr
    exact ⟨k1.i, Nat.le_refl _, id, fun lo hi l hlo hl hh => za6 (s := s1) (s' := s1) (ze8 k1.i) hlo (za6 (s := s1) (s' := s1) (ze8 k1.i) (Int.le_refl _) (za6 (s := s1) (s' := s1) (ze8 k1.i) (Int.le_refl _) hl hh) hh) hh⟩
  · have q := zg5 hT h1 (s := headP s1) k1.i hr
    exact ⟨q.i, q.pp, q.le, q.sl⟩
 obtain ⟨b, s3, hb, h⟩ := bind_done h
 have rb : Rs x ts s2 b s3 := (zc9 hT h2 (bodyP s2) b s3 q.i hb).same rfl rfl
 obtain ⟨rfl, rfl⟩ := some_ok h
 have a := k1.lt k2; have c1 := k1.qb; have c2 := k1.pe; have c3 := k2.1
 have b1 := q.pp; have d1 := rb.o; have d2 := rb.lt
 exact za5 (by decide) (by decide) (k1.od hi) (by omega) rb.i (by omega) rb.le (Nat.le_refl _) (by omega) (zc5 (by omega)) (q.sl _ _ _ (by omega) (zb3 rb.os (Int.le_refl _) (Int.le_refl _)) (by omega))
theorem zg6 (hT : za2 x ts) {ex st : Rd} (h1 : RS x ts ex) (h2 : RS x ts st) {f : Nat} : RS x ts (labelledP ts ex st f) := fun s n s' hi h => by
 unfold labelledP at h
 obtain ⟨t, s1, ht, h⟩ := bind_done h
 obtain ⟨k1, k2⟩ := za3 hT (by decide) ht
 have k2 := k2 (by decide)
 obtain ⟨u, s2, hu, h⟩ := bind_done h
 obtain ⟨m1, m2⟩ := zb0 hT (by decide) hu
 obtain ⟨e, s3, he, h⟩ := bind_done h
 have r := zj0 hT h1 h2 s2 e s3 m1.i he
 obtain ⟨rfl, rfl⟩ := some_ok h
 have a := k1.lt k2; have b := m1.lt m2; have c := m1.od k1.i
 have d1 := r.o; have d2 := r.lt; have q := k1.qb; have p := k1.pe
 exact za5 (by decide) (by decide) (k1.od hi) (by omega) r.i (by omega) r.le (Nat.le_refl _) (by omega) (za7 k2 (by omega)) (zb3 r.os (by omega) (Int.le_refl _))
theorem stmt_s (hT : za2 x ts) {ex st co : Rd} (h1 : RS x ts ex) (h2 : RS x ts st) (h3 : RS x ts co) {f : Nat} : RS x ts (stmtP ts ex st co f) := fun s n s' hi h => by
 unfold stmtP at h
 split at h
 · exact zc9 hT h2 s n s' hi h
 split at h
 · exact h3 s n s' hi h
 split at h
 · exact zj0 hT h1 h2 s n s' hi h
 split at h
 · exact zg2 hT h1 s n s' hi h
 split at h
 · exact zg3 hT h1 s n s' hi h
 split at h
 · rename_i hc; exact zj2 hT (by decide) (by decide) hi (zg1 hT (by decide) hc) h
 split at h
 · rename_i hc; exact zj2 hT (by decide) (by decide) hi (zg1 hT (by decide) hc) h
 split at h
 · exact zg6 hT h1 h2 s n s' hi h
 split at h
 · exact zf5 hT h1 s n s' hi h
 · obtain ⟨e, s1, he, h⟩ := bind_done h
   exact zd9 hT h1 (zf1 hT h1 s e s1 hi he) h
theorem stF_s (hT : za2 x ts) : ∀ f : Nat, RS x ts (stF ts f).1 ∧ RS x ts (stF ts f).2
 | 0 => ⟨(fun _ _ _ _ h => by cases h), (fun _ _ _ _ h => by cases h)⟩
 | f + 1 => by
  obtain ⟨hs, hc⟩ := stF_s hT f
  exact ⟨stmt_s hT (zj4 hT f) hs hc, cond_s hT (zj4 hT f) hs hc⟩
theorem zg4 (hT : za2 x ts) : RS x ts (receiverP ts) := fun s n s' hi h => by
 unfold receiverP at h
 obtain ⟨v, s1, hv, h⟩ := bind_done h
 obtain ⟨k1, k2⟩ := zd7 hT (by decide) hv
 obtain ⟨t, s2, ht, h⟩ := bind_done h
 obtain ⟨m1, m2⟩ := za3 hT (by decide) ht
 have m2 := m2 (by decide)
 obtain ⟨y, s3, hy, h⟩ := bind_done h
 have r := ze6 hT s2 y s3 m1.i hy
 obtain ⟨u, s4, hu, h⟩ := bind_done h
 obtain ⟨t2, w1, w2⟩ := zc1 hT (by decide) hu
 obtain ⟨rfl, rfl⟩ := some_ok h
 have a := k1.lt k2; have b0 := m1.od k1.i; have b := m1.lt m2; have d1 := m1.qb; have d2 := m1.pe; have d3 := m2.1
 have e1 := r.o; have e2 := r.lt; have f0 := w1.od r.i; have f1 := w1.lt w2
 have q := za5 (x := x) (ts := ts) (s := s1) (s1 := s3) (k := 7) (f := t.2.2.1) (a := t.2.2.1) (nm := t.2.1) (l := [y]) (by decide) (by decide) b0 (by omega) r.i (by omega) r.le (Nat.le_refl _) (by omega) (za7 m2 (by omega)) (zb3 r.os (by omega) (Int.le_refl _))
 exact ⟨q.sn, q.nz, q.n2, w1.i, k1.od hi, by have := q.f; omega, by have := q.t; omega, by omega, f1.2, q.ft⟩
theorem zi7 (hT : za2 x ts) {f : Nat} : RS x ts (paramsP ts f) := fun s n s' hi h => by
 unfold paramsP at h
 obtain ⟨l, s1, hl, h⟩ := bind_done h
 have r := zi3 hT (by decide) (by decide) (nt_s hT (by decide) (by decide)) hi hl
 obtain ⟨rfl, rfl⟩ := some_ok h
 exact za5 (by decide) (by decide) r.o (Nat.le_refl _) r.i r.lt r.le (Nat.le_refl _) r.lt (zc5 r.lt) r.sl
theorem zg9 (hT : za2 x ts) {f : Nat} : RS x ts (functionP ts f) := fun s n s' hi h => by
 unfold functionP at h
 obtain ⟨v, s1, hv, h⟩ := bind_done h
 obtain ⟨k1, k2⟩ := zb0 hT (by decide) hv
 obtain ⟨rc, s2, hr, h⟩ := bind_done h
 have orc := ze9 k1.i hr (fun _ h => (zg4 hT s1 rc s2 k1.i h).os)
 obtain ⟨t, s3, ht, h⟩ := bind_done h
 obtain ⟨m1, m2⟩ := za3 hT (by decide) ht
 have m2 := m2 (by decide)
 obtain ⟨ps, s4, hp, h⟩ := bind_done h
 have rp := zi7 hT s3 ps s4 m1.i hp
 obtain ⟨y, s5, hy, h⟩ := bind_done h
 have oy := ze9 rp.i hy (fun _ h => (zi2 hT s4 y s5 rp.i h).os)
 obtain ⟨b, s6, hb, h⟩ := bind_done h
 have rb := zc9 hT (stF_s hT f).1 s5 b s6 oy.i hb
 obtain ⟨rfl, rfl⟩ := some_ok h
 have a := k1.lt k2; have c1 := k1.qb; have c2 := k1.pe; have c3 := k2.1; have e0 := orc.pp
 have b0 := m1.od orc.i; have b := m1.lt m2; have d1 := m1.qb; have d2 := m1.pe; have d3 := m2.1
 have f1 := rp.o; have f2 := rp.lt; have g1 := oy.pp; have i1 := rb.o; have i2 := rb.lt
 exact za5 (by decide) (by decide) (k1.od hi) (by omega) rb.i (by omega) rb.le (by omega) (by omega) (za7 m2 (by omega)) (za6 orc (by omega) (za6 rp.os (by omega) (za6 oy (Int.le_refl _) (zb3 rb.os (Int.le_refl _) (Int.le_refl _)) (by omega)) (by omega)) (by omega))
theorem zi5 (hT : za2 x ts) {f : Nat} : RS x ts (structP ts f) := fun s n s' hi h => by
 unfold structP at h
 obtain ⟨v, s1, hv, h⟩ := bind_done h
 obtain ⟨k1, k2⟩ := zb0 hT (by decide) hv
 obtain ⟨t, s2, ht, h⟩ := bind_done h
 obtain ⟨m1, m2⟩ := za3 hT (by decide) ht
 have m2 := m2 (by decide)
 obtain ⟨u, s3, hu, h⟩ := bind_done h
 obtain ⟨w1, w2⟩ := zb0 hT (by decide) hu
 obtain ⟨l, s4, hl, h⟩ := bind_done h
 have r := zh5 hT (nt_s hT (by decide) (by decide)) w1.i hl
 obtain ⟨rfl, rfl⟩ := some_ok h
 have a := k1.lt k2; have c1 := k1.qb; have c2 := k1.pe; have c3 := k2.1
 have b0 := m1.od k1.i; have b := m1.lt m2; have d1 := m1.qb; have d2 := m1.pe; have d3 := m2.1
 have e0 := w1.od m1.i; have e1 := w1.lt w2; have f1 := r.o; have f2 := r.lt
 exact za5 (by decide) (by decide) (k1.od hi) (by omega) r.i (by omega) r.le (by omega) (by omega) (za7 m2 (by omega)) (za8 r.sl (by omega) (Int.le_refl _))
theorem decl_s (hT : za2 x ts) {f : Nat} : RS x ts (declP ts f) := fun s n s' hi h => by
 unfold declP at h
 split at h
 · exact zi5 hT s n s' hi h
 · exact zg9 hT s n s' hi h
theorem zg7 (hT : za2 x ts) {s s' : Ps} {n : Nd} (hi : 1 ≤ s.i) (h : importedP ts s = some (.ok n s')) : OsP x ts s n s' ∧ n.kind ≠ 0 ∧ Pe ts s' ≤ x.length ∧ (Pe ts s : Int) ≤ n.fro ∧ n.till ≤ (Pe ts s' : Int) := by
 unfold importedP at h
 obtain ⟨v, s1, hv, h⟩ := bind_done h
 obtain ⟨k1, k2⟩ := zb0 hT (by decide) hv
 split at h
 · rename_i hc
   split at h
   · obtain ⟨m1, m2⟩ := zj8 hT (by decide) (by decide) hc
     obtain ⟨rfl, rfl⟩ := some_ok h
     have a := k1.lt k2; have a0 := k1.od hi; have b0 := m1.od k1.i; have b := m1.lt m2; have c1 := k1.qb; have c2 := k1.pe; have d1 := m1.qb; have d2 := m1.pe
     have e1 : (Pe ts s : Int) ≤ (mkN ts 2 v.2.2.1 (tk ts s1).2.2.1 (valT (tk ts s1).2.1) [] (adv s1)).fro := by show (Pe ts s : Int) ≤ (v.2.2.1 : Int); omega
     have e2 : (mkN ts 2 v.2.2.1 (tk ts s1).2.2.1 (valT (tk ts s1).2.1) [] (adv s1)).till ≤ (Pe ts (adv s1) : Int) := Int.le_refl _
     refine ⟨⟨zh0 (by decide) (by omega) (by show ((v.2.2.1 : Nat) : Int) < (Pe ts (adv s1) : Int); omega) (by show ((Pe ts (adv s1) : Nat) : Int) ≤ _; omega) (by omega) (by show (((tk ts s1).2.2.1 : Nat) : Int) < (Pe ts (adv s1) : Int); omega) (fun hn => absurd rfl hn) (za9 ..), m1.i, by omega, fun _ => ⟨e1, e2⟩⟩, by show ((2 : Nat) : Int) ≠ 0; decide, b.2, e1, e2⟩
   · cases h
 · cases h
theorem zd4 (hT : za2 x ts) : ∀ (f : Nat) (l : List Nd) (s : Ps) (l' : List Nd) (s' : Ps), 1 ≤ s.i → Sl x 0 (Pe ts s : Int) l → importsL ts f l s = some (.ok l' s') → 1 ≤ s'.i ∧ Sl x 0 (Pe ts s' : Int) l'
 | 0, _, _, _, _, _, _, h => by cases h
 | f + 1, l, s, l', s', hi, hl, h => by
  unfold importsL at h
  split at h
  · obtain ⟨n, s1, hn, h⟩ := bind_done h
    obtain ⟨r, r0, r1, r2, r3⟩ := zg7 hT hi hn
    obtain ⟨t, s2, ht, h⟩ := bind_done h
    have k := (za3 hT (by decide) ht).1
    have c1 := k.od r.i; have c2 := k.qb; have c3 := k.pe; have c4 := k.le.1; have c5 := r.pp
    exact zd4 hT f _ s2 l' s' k.i (zc6 hl (by omega) r.sn r0 r2 (by omega) (by omega)) h
  · obtain ⟨rfl, rfl⟩ := some_ok h
    exact ⟨hi, hl⟩
theorem zf9 (hT : za2 x ts) (f0 : Nat) : ∀ (f : Nat) (l : List Nd) (s : Ps) (l' : List Nd) (s' : Ps), 1 ≤ s.i → Sl x 0 (Pe ts s : Int) l → declsL ts f0 f l s = some (.ok l' s') → 1 ≤ s'.i ∧ Sl x 0 (Pe ts s' : Int) l'
 | 0, _, _, _, _, _, _, h => by cases h
 | f + 1, l, s, l', s', hi, hl, h => by
  unfold declsL at h
  split at h
  · obtain ⟨rfl, rfl⟩ := some_ok h
    exact ⟨hi, hl⟩
  · obtain ⟨n, s1, hn, h⟩ := bind_done h
    have r := decl_s hT s n s1 hi hn
    obtain ⟨t, s2, ht, h⟩ := bind_done h
    have k := (za3 hT (by decide) ht).1
    have c1 := k.od r.i; have c2 := k.qb; have c3 := k.pe; have c4 := k.le.1; have c5 := r.o; have c6 := r.f; have c7 := r.t; have c8 := r.lt
    exact zf9 hT f0 f _ s2 l' s' k.i (zc6 hl (by omega) r.sn r.nz (by omega) (by omega) (by omega)) h
end
end Go.Proofs.YtmlclgkhnekmnaaGreatDoor
namespace Go.Proofs.YtmlclgkhnekmnaaGreatDoor
open Go.RowKit
theorem zf4 {x : List UInt8} : ∀ (us : List Tok) (k : Nat) (b : Bool), TileL x k b us → (∀ (i : Nat) (t u : Tok), us[i]? = some t → us[i + 1]? = some u → t.2.2.2 ≤ u.2.2.1) ∧ ∀ t ∈ us, t.2.2.1 ≤ t.2.2.2 ∧ t.2.2.2 ≤ x.length ∧ (x.drop t.2.2.1).take (t.2.2.2 - t.2.2.1) = t.2.1
 | [], _, _, _ => ⟨fun i t u h => by simp at h, fun t h => by cases h⟩
 | a :: us, k, b, h => by
  obtain ⟨h1, h2⟩ := h
  obtain ⟨o, e⟩ := zf4 us _ _ h2
  refine ⟨fun i t u ht hu => ?_, fun t ht => ?_⟩
  · cases i with
    | zero =>
     obtain rfl : a = t := by simpa using ht
     cases us with
     | nil => simp at hu
     | cons c us =>
      obtain rfl : c = u := by simpa using hu
      exact h2.1.1
    | succ i => exact o i t u (by simpa using ht) (by simpa using hu)
  · rcases List.mem_cons.1 ht with rfl | ht
    · exact ⟨h1.2.1, h1.2.2.1, h1.2.2.2.1⟩
    · exact e t ht
theorem wf_ne {ff : List UInt8 → Nat} {p : Option Tok} {us : List Tok} (h : WF ff p us) : ∀ t ∈ us, t.1 ≠ 7 → t.2.1 ≠ [] := by
 induction h with
 | nil p hp => intro t ht; cases ht
 | semi p k us hw _ ih =>
  intro t ht h7
  rcases List.mem_cons.1 ht with rfl | ht
  · exact absurd rfl h7
  · exact ih t ht h7
 | real p t us hr _ ih =>
  intro u hu h7
  rcases List.mem_cons.1 hu with rfl | hu
  · exact hr.ne
  · exact ih u hu h7
theorem zd3 {ff : List UInt8 → Nat} {x : List UInt8} {l : List Tok} (h : tokensL ff x = .ok l) : za2 x (l ++ [endTok x]) := by
 obtain ⟨ho, he⟩ := zf4 l 0 true (tiles_of ff x l h)
 have hn := wf_ne (tokens_WF ff x l h).1
 have hm : ∀ t ∈ l ++ [endTok x], t ∈ l ∨ t = endTok x := fun t ht => by
  rcases List.mem_append.1 ht with h | h
  · exact .inl h
  · exact .inr (List.mem_singleton.1 h)
 refine ⟨fun i t u ht hu => ?_, fun i t ht => ?_, fun i t ht hne => ?_, fun i t ht h0 h7 => ?_⟩
 · have hi : i < l.length := by
    have := (List.getElem?_eq_some_iff.1 hu).1
    rw [List.length_append, List.length_singleton] at this; omega
   rw [List.getElem?_append_left hi] at ht
   rcases Nat.lt_or_ge (i + 1) l.length with h1 | h1
   · rw [List.getElem?_append_left h1] at hu
     exact ho i t u ht hu
   · rw [List.getElem?_append_right h1, show i + 1 - l.length = 0 by omega] at hu
     obtain rfl : endTok x = u := by simpa using hu
     exact (he t (List.mem_of_getElem? ht)).2.1
 · rcases hm t (List.mem_of_getElem? ht) with h | rfl
   · exact ⟨(he t h).1, (he t h).2.1⟩
   · exact ⟨Nat.le_refl _, Nat.le_refl _⟩
 · rcases hm t (List.mem_of_getElem? ht) with h | rfl
   · obtain ⟨a, b, c⟩ := he t h
     have d : t.2.1.length = t.2.2.2 - t.2.2.1 := by rw [← c, List.length_take, List.length_drop]; omega
     have e : 0 < t.2.1.length := List.length_pos_iff.2 hne
     exact ⟨by omega, by omega, by rw [d]; exact c⟩
   · exact absurd rfl hne
 · rcases hm t (List.mem_of_getElem? ht) with h | rfl
   · exact hn t h h7
   · exact absurd rfl h0
section
variable {x : List UInt8} {ts : List Tok}
theorem pe_le (hT : za2 x ts) (s : Ps) : Pe ts s ≤ x.length := by
 unfold Pe tkP
 rcases Nat.lt_or_ge (s.i - 1) ts.length with h | h
 · rw [List.getElem?_eq_getElem h]
   exact (hT.le (s.i - 1) _ (List.getElem?_eq_getElem h)).2
 · rw [List.getElem?_eq_none h]; exact Nat.zero_le _
theorem qb_le (hT : za2 x ts) (s : Ps) : Qb ts s ≤ x.length := by
 unfold Qb tk
 rcases Nat.lt_or_ge s.i ts.length with h | h
 · rw [List.getElem?_eq_getElem h]
   have := hT.le s.i _ (List.getElem?_eq_getElem h)
   exact Nat.le_trans this.1 this.2
 · rw [List.getElem?_eq_none h]; exact Nat.zero_le _
theorem zj3 (hT : za2 x ts) (he : (endT ts).2.2.2 = x.length) {f : Nat} {s s' : Ps} {n : Nd} (h : fileP ts f s = some (.ok n s')) : Sn x n ∧ n.kind = 1 ∧ n.till = (x.length : Int) := by
 unfold fileP at h
 obtain ⟨v, s1, hv, h⟩ := bind_done h
 obtain ⟨k1, k2⟩ := zb0 hT (by decide) hv
 obtain ⟨t, s2, ht, h⟩ := bind_done h
 obtain ⟨m1, m2⟩ := za3 hT (by decide) ht
 have m2 := m2 (by decide)
 obtain ⟨u, s3, hu, h⟩ := bind_done h
 have w1 := (za3 hT (by decide) hu).1
 obtain ⟨l1, s4, h1, h⟩ := bind_done h
 obtain ⟨i4, q4⟩ := zd4 hT f [] s3 l1 s4 w1.i (za9 ..) h1
 obtain ⟨l2, s5, h2, h⟩ := bind_done h
 obtain ⟨i5, q5⟩ := zf9 hT f f l1 s4 l2 s5 i4 q4 h2
 obtain ⟨rfl, rfl⟩ := some_ok h
 have a := pe_le hT s5; have b1 := m2.1; have b2 := m2.2.1; have b3 := m2.2.2.1
 rw [he]
 exact ⟨zh0 (by decide) (Int.le_refl _) (by omega) (Int.le_refl _) (by omega) (by omega) (fun _ => ⟨by omega, by rw [Int.toNat_natCast]; exact m2.2.2.2⟩) (za8 q5 (Int.le_refl _) (by omega)), rfl, rfl⟩
theorem mix_in {a b : Option Int} {P : Int → Prop} (ha : ∀ y, a = some y → P y) (hb : ∀ y, b = some y → P y) : ∀ y, dMix a b = some y → P y := by
 intro y h
 cases a with
 | none => exact hb y h
 | some p =>
  cases b with
  | none => exact ha y h
  | some q =>
   change (if p < q then some p else some q) = some y at h
   split at h
   · exact ha y h
   · exact hb y h
mutual
theorem zf7 : ∀ (n : Nd) (d : Nat), Sn x n → n.kind ≠ 0 → ∀ y, deepN d n = some y → 0 ≤ y ∧ y ≤ (x.length : Int)
 | .mk k f t a s l, d, h, hk => by
  have hk' : ¬ k = 0 := hk
  rw [Sn, if_neg hk'] at h
  rw [deepN]
  refine zf8 l (d + 1) _ f t (fun y hy => ?_) h.2.2.2.2.2.2
  split at hy
  · injection hy with hy; omega
  · cases hy
theorem zf8 : ∀ (l : List Nd) (d : Nat) (b : Option Int) (lo hi : Int), (∀ y, b = some y → 0 ≤ y ∧ y ≤ (x.length : Int)) → Sl x lo hi l → ∀ y, deepL d b l = some y → 0 ≤ y ∧ y ≤ (x.length : Int)
 | [], d, b, _, _, hb, _ => by rw [deepL]; exact hb
 | n :: l, d, b, lo, hi, hb, h => by
  rw [Sl] at h
  rw [deepL]
  refine zf8 l d _ _ hi ?_ h.2.2
  split
  · exact hb
  · rename_i hk
    exact mix_in (zf7 n d h.1 hk) hb
end
def Bd {α : Type} (x : List UInt8) (r : Pf α) : Prop := ∀ k e, r = some (.bad k e) → k ≤ x.length ∧ e ≠ 0
theorem za1 {α : Type} {a : α} {s : Ps} : Bd x (some (.ok a s)) := fun k e h => by injection h with h; cases h
theorem zb1 {α : Type} : Bd x (none : Pf α) := fun k e h => by cases h
theorem zb8 (hT : za2 x ts) {α : Type} {e : Nat} {s : Ps} (he : e ≠ 0) : Bd x (failP ts e s : Pf α) := fun k e' h => by
 injection h with h; injection h with h1 h2
 subst h1 h2
 exact ⟨qb_le hT s, he⟩
theorem za0 {α β : Type} {r : Pf α} {f : α → Ps → Pf β} (h : Bd x r) (hf : ∀ a s, Bd x (f a s)) : Bd x (r.bind f) := by
 match r, h with
 | none, _ => exact zb1
 | some (.bad k e), h => exact fun k' e' hh => by injection hh with hh; injection hh with h1 h2; subst h1 h2; exact h k e rfl
 | some (.ok a s), _ => exact hf a s
theorem zb2 (hT : za2 x ts) (m : List UInt8) (s : Ps) : Bd x (takeP ts m s) := by
 unfold takeP; split
 · exact za1
 · exact zb8 hT (by decide)
theorem za4 (hT : za2 x ts) (k : Nat) (s : Ps) : Bd x (takeKP ts k s) := by
 unfold takeKP; split
 · exact za1
 · exact zb8 hT (by decide)
theorem zd2 (s : Ps) : Bd x (nextP ts s) := za1
theorem zd8 (hT : za2 x ts) (m : List UInt8) (s : Ps) : Bd x (beginP ts m s) := by
 unfold beginP; split
 · exact zb8 hT (by decide)
 · exact za0 (zb2 hT m s) fun _ _ => za1
theorem zc2 (hT : za2 x ts) (m : List UInt8) (s : Ps) : Bd x (finishP ts m s) := za0 (zb2 hT m s) fun _ _ => za1
def BD (x : List UInt8) (r : Rd) : Prop := ∀ s, Bd x (r s)
theorem ze2 (hT : za2 x ts) {one : Rd} (h1 : BD x one) : ∀ (f : Nat) (l : List Nd) (s : Ps), Bd x (linesL ts one f l s)
 | 0, _, _ => zb1
 | f + 1, l, s => by
  unfold linesL; split
  · exact za1
  · refine za0 (h1 s) fun n s1 => ?_
    split
    · exact ze2 hT h1 f _ s1
    · exact za0 (za4 hT 7 s1) fun _ s2 => ze2 hT h1 f _ s2
theorem zh6 (hT : za2 x ts) {one : Rd} (h1 : BD x one) (f : Nat) (s : Ps) : Bd x (linesP ts one f s) :=
 za0 (zd8 hT _ s) fun _ s1 => za0 (ze2 hT h1 f [] s1) fun _ s2 => za0 (zc2 hT _ s2) fun _ _ => za1
theorem zh3 {one : Rd} (h1 : BD x one) : ∀ (f : Nat) (more : Bool) (l : List Nd) (s : Ps), Bd x (rowL ts one f more l s)
 | 0, _, _, _ => zb1
 | f + 1, more, l, s => by
  unfold rowL; split
  · refine za0 (h1 s) fun n s1 => ?_
    split
    · exact zh3 h1 f true _ _
    · exact zh3 h1 f false _ s1
  · exact za1
theorem zi4 (hT : za2 x ts) {a b : List UInt8} {one : Rd} (h1 : BD x one) (f : Nat) (s : Ps) : Bd x (rowP ts a b one f s) :=
 za0 (zd8 hT _ s) fun _ s1 => za0 (zh3 h1 f _ [] s1) fun _ s2 => za0 (zc2 hT _ s2) fun _ _ => za1
theorem leaf_b (k : Nat) : BD x (leafP ts k) := fun s => za0 (zd2 s) fun _ _ => za1
theorem keyed_b (hT : za2 x ts) {ex : Rd} (h1 : BD x ex) : BD x (keyedP ts ex) := fun s =>
 za0 (za4 hT 1 s) fun _ s1 => za0 (zb2 hT _ s1) fun _ s2 => za0 (h1 s2) fun _ _ => za1
theorem zi0 (hT : za2 x ts) {ex : Rd} (h1 : BD x ex) (f : Nat) : BD x (operandP ts ex f) := fun s => by
 unfold operandP
 repeat' split
 all_goals first
  | exact leaf_b _ s
  | exact za0 (zd2 s) fun _ s1 => za0 (zi4 hT h1 f s1) fun _ _ => za1
  | exact za0 (zd8 hT _ s) fun _ s1 => za0 (h1 s1) fun _ s2 => za0 (zc2 hT _ s2) fun _ _ => za1
theorem zc4 (hT : za2 x ts) {ex : Rd} (h1 : BD x ex) (f0 : Nat) : ∀ (f : Nat) (e : Nd) (s : Ps), Bd x (chainL ts ex f0 f e s)
 | 0, _, _ => zb1
 | f + 1, e, s => by
  unfold chainL
  repeat' split
  · exact za0 (za4 hT 1 _) fun _ s1 => zc4 hT h1 f0 f _ s1
  · exact za0 (zi4 hT h1 f0 s) fun _ s1 => zc4 hT h1 f0 f _ s1
  · exact za0 (za0 (zi4 hT (keyed_b hT h1) f0 s) fun _ _ => za1) fun _ s1 => zc4 hT h1 f0 f _ s1
  · exact za1
theorem zf2 (hT : za2 x ts) {ex : Rd} (h1 : BD x ex) (f : Nat) : BD x (chainP ts ex f) := fun s => za0 (zi0 hT h1 f s) fun e s1 => zc4 hT h1 f f e s1
theorem unary_b (hT : za2 x ts) {un ex : Rd} (hu : BD x un) (h1 : BD x ex) (f : Nat) : BD x (unaryP ts un ex f) := fun s => by
 unfold unaryP; split
 · exact za0 (zd2 s) fun _ s1 => za0 (hu s1) fun _ _ => za1
 · exact zf2 hT h1 f s
theorem zj7 {bi : Nat → Rd} (h1 : ∀ l, BD x (bi l)) (least : Nat) : ∀ (f : Nat) (e : Nd) (s : Ps), Bd x (binL ts bi least f e s)
 | 0, _, _ => zb1
 | f + 1, e, s => by
  unfold binL; split
  · exact za1
  · exact za0 (h1 _ _) fun _ s1 => zj7 h1 least f _ s1
theorem exF_b (hT : za2 x ts) : ∀ f : Nat, BD x (exF ts f).1 ∧ ∀ l, BD x ((exF ts f).2 l)
 | 0 => ⟨fun _ => zb1, fun _ _ => zb1⟩
 | f + 1 => by
  obtain ⟨hu, hb⟩ := exF_b hT f
  exact ⟨unary_b hT hu (hb 1) f, fun l s => za0 (hu s) fun e s1 => zj7 hb l f e s1⟩
theorem zj5 (hT : za2 x ts) (f : Nat) : BD x (exprP ts f) := (exF_b hT f).2 1
theorem ze7 (hT : za2 x ts) : BD x (ownTypeP ts) := fun s => za0 (za4 hT 1 s) fun _ _ => za1
theorem typ_b (hT : za2 x ts) : BD x (typP ts) := fun s => by
 unfold typP; split
 · exact za0 (zd2 s) fun _ _ => za1
 · refine za0 (ze7 hT s) fun e s1 => ?_
   split
   · exact za0 (za4 hT 1 _) fun _ _ => za1
   · exact za1
theorem nt_b (hT : za2 x ts) (k : Nat) : BD x (ntP ts k) := fun s => za0 (za4 hT 1 s) fun _ s1 => za0 (typ_b hT s1) fun _ _ => za1
theorem zf0 {b : Bool} {r : Rd} {s : Ps} (h : Bd x (r s)) : Bd x (optP b r s) := by
 unfold optP; split
 · exact h
 · exact za1
theorem zd0 (hT : za2 x ts) {st : Rd} (h1 : BD x st) (f : Nat) : BD x (blockP ts st f) := fun s => za0 (zh6 hT h1 f s) fun _ _ => za1
theorem ze0 (hT : za2 x ts) {ex : Rd} (h1 : BD x ex) (e : Nd) : BD x (simpleP ts ex e) := fun s => by
 unfold simpleP
 repeat' split
 · exact za0 (h1 _) fun _ _ => za1
 · exact za1
 · exact zb8 hT (by decide)
theorem zf6 (hT : za2 x ts) {ex : Rd} (h1 : BD x ex) : BD x (defineP ts ex) := fun s => za0 (za4 hT 1 s) fun _ s1 => za0 (zb2 hT _ s1) fun _ s2 => za0 (h1 s2) fun _ _ => za1
theorem zc0 (hT : za2 x ts) {ex : Rd} (h1 : BD x ex) (f : Nat) (a : Nd) (s : Ps) : Bd x (loopTail ts ex f a s) :=
 za0 (za4 hT 7 s) fun _ s1 => za0 (zf0 (h1 s1)) fun _ s2 => za0 (za4 hT 7 s2) fun _ s3 => za0 (zf0 (za0 (zf2 hT h1 f s3) fun e s4 => ze0 hT h1 e s4)) fun _ _ => za1
theorem zj1 (hT : za2 x ts) {ex st : Rd} (h1 : BD x ex) (h2 : BD x st) (f : Nat) : BD x (loopP ts ex st f) := fun s => by
 refine za0 (zb2 hT _ s) fun _ s1 => za0 ?_ fun _ s2 => za0 (zd0 hT h2 f _) fun _ _ => za1
 unfold loopMid loopHeadP
 repeat' split
 · exact za1
 · exact zc0 hT h1 f _ _
 · exact za0 (zf6 hT h1 _) fun a s2 => zc0 hT h1 f a s2
 · refine za0 (h1 _) fun e s2 => ?_
   split
   · exact za1
   · exact za0 (ze0 hT h1 e s2) fun a s3 => zc0 hT h1 f a s3
theorem cond_b (hT : za2 x ts) {ex st co : Rd} (h1 : BD x ex) (h2 : BD x st) (h3 : BD x co) (f : Nat) : BD x (condP ts ex st co f) := fun s => by
 refine za0 (zb2 hT _ s) fun _ s1 => za0 (h1 _) fun _ s2 => za0 (zd0 hT h2 f _) fun _ s3 => za0 (zf0 ?_) fun _ _ => za1
 show Bd x (otherP ts st co f (adv s3))
 unfold otherP; split
 · exact h3 _
 · exact zd0 hT h2 f _
theorem stmt_b (hT : za2 x ts) {ex st co : Rd} (h1 : BD x ex) (h2 : BD x st) (h3 : BD x co) (f : Nat) : BD x (stmtP ts ex st co f) := fun s => by
 have hj : ∀ k, Bd x (jumpP ts k s) := fun k => by
  refine za0 (zd2 s) fun _ s1 => ?_
  split
  · exact za0 (zd2 s1) fun _ _ => za1
  · exact za1
 unfold stmtP
 repeat' split
 · exact zd0 hT h2 f s
 · exact h3 s
 · exact zj1 hT h1 h2 f s
 · exact za0 (zb2 hT _ s) fun _ s1 => za0 (za4 hT 1 s1) fun _ s2 => za0 (zf0 (typ_b hT s2)) fun _ s3 => za0 (zf0 (h1 (adv s3))) fun _ _ => za1
 · refine za0 (zb2 hT _ s) fun _ s1 => ?_
   split
   · exact za1
   · exact za0 (h1 s1) fun _ _ => za1
 · exact hj 17
 · exact hj 18
 · exact za0 (za4 hT 1 s) fun _ s1 => za0 (zb2 hT _ s1) fun _ s2 => za0 (zj1 hT h1 h2 f s2) fun _ _ => za1
 · exact zf6 hT h1 s
 · exact za0 (zf2 hT h1 f s) fun e s1 => ze0 hT h1 e s1
theorem stF_b (hT : za2 x ts) : ∀ f : Nat, BD x (stF ts f).1 ∧ BD x (stF ts f).2
 | 0 => ⟨fun _ => zb1, fun _ => zb1⟩
 | f + 1 => by
  obtain ⟨hs, hc⟩ := stF_b hT f
  exact ⟨stmt_b hT (zj5 hT f) hs hc f, cond_b hT (zj5 hT f) hs hc f⟩
theorem decl_b (hT : za2 x ts) (f : Nat) : BD x (declP ts f) := fun s => by
 unfold declP; split
 · exact za0 (zb2 hT _ s) fun _ s1 => za0 (za4 hT 1 s1) fun _ s2 => za0 (zb2 hT _ s2) fun _ s3 => za0 (zh6 hT (nt_b hT 4) f s3) fun _ _ => za1
 · exact za0 (zb2 hT _ s) fun _ s1 => za0 (zf0 (za0 (zd8 hT _ s1) fun _ s2 => za0 (za4 hT 1 s2) fun _ s3 => za0 (ze7 hT s3) fun _ s4 => za0 (zc2 hT _ s4) fun _ _ => za1)) fun _ s2 => za0 (za4 hT 1 s2) fun _ s3 => za0 (za0 (zi4 hT (nt_b hT 7) f s3) fun _ _ => za1) fun _ s4 => za0 (zf0 (typ_b hT s4)) fun _ s5 => za0 (zd0 hT (stF_b hT f).1 f s5) fun _ _ => za1
theorem zg8 (hT : za2 x ts) : BD x (importedP ts) := fun s => by
 refine za0 (zb2 hT _ s) fun _ s1 => ?_
 repeat' split
 · exact za1
 · exact zb8 hT (by decide)
 · exact zb8 hT (by decide)
theorem zd5 (hT : za2 x ts) : ∀ (f : Nat) (l : List Nd) (s : Ps), Bd x (importsL ts f l s)
 | 0, _, _ => zb1
 | f + 1, l, s => by
  unfold importsL; split
  · exact za0 (zg8 hT s) fun _ s1 => za0 (za4 hT 7 s1) fun _ s2 => zd5 hT f _ s2
  · exact za1
theorem zg0 (hT : za2 x ts) (f0 : Nat) : ∀ (f : Nat) (l : List Nd) (s : Ps), Bd x (declsL ts f0 f l s)
 | 0, _, _ => zb1
 | f + 1, l, s => by
  unfold declsL; split
  · exact za1
  · exact za0 (decl_b hT f0 s) fun _ s1 => za0 (za4 hT 7 s1) fun _ s2 => zg0 hT f0 f _ s2
theorem file_b (hT : za2 x ts) (f : Nat) : BD x (fileP ts f) := fun s =>
 za0 (zb2 hT _ s) fun _ s1 => za0 (za4 hT 1 s1) fun _ s2 => za0 (za4 hT 7 s2) fun _ s3 => za0 (zd5 hT f [] s3) fun l s4 => za0 (zg0 hT f f l s4) fun _ _ => za1
end
theorem zi6 {ff : List UInt8 → Nat} {x : List UInt8} {n : Nd} (h : parsR ff x = .ok n) : Sn x n ∧ n.kind = 1 ∧ n.till = (x.length : Int) := by
 unfold parsR at h
 split at h
 · cases h
 · rename_i l hl
   have hT := zd3 hl
   have he : (endT (l ++ [endTok x])).2.2.2 = x.length := by
    unfold endT
    rw [List.length_append, List.length_singleton, Nat.add_sub_cancel, List.getElem?_append_right (Nat.le_refl _), Nat.sub_self]
    rfl
   unfold deepR at h
   split at h
   · cases h
   · cases h
   · rename_i m s hz
     split at h
     · cases h
     · injection h with h
       subst h
       exact zj3 hT he hz
theorem zh8 {ff : List UInt8 → Nat} {x : List UInt8} {k : Int} {e : Nat} (h : parsR ff x = .error (k, e)) : 0 ≤ k ∧ k ≤ (x.length : Int) ∧ e ≠ 0 := by
 unfold parsR at h
 split at h
 · rename_i p q hl
   injection h with h; injection h with h1 h2
   subst h1 h2
   have h3 := tokens_fault hl
   by_cases h4 : x.length ≤ 65536
   · have := (place_in ff x p q hl h4).1
     exact ⟨by omega, by omega, h3⟩
   · unfold tokensL at hl
     rw [if_pos (by omega)] at hl
     injection hl with hl; injection hl with h5 h6
     exact ⟨by omega, by omega, h3⟩
 · rename_i l hl
   have hT := zd3 hl
   obtain ⟨z, hz⟩ := file_some l (endTok x)
   rw [hz] at h
   cases z with
   | bad a b =>
    injection h with h; injection h with h1 h2
    subst h1 h2
    have h3 := file_b hT (fuelOf l) ⟨0, 0, 0⟩ a b hz
    exact ⟨by omega, by omega, h3.2⟩
   | ok n s =>
    have he : (endT (l ++ [endTok x])).2.2.2 = x.length := by
     unfold endT
     rw [List.length_append, List.length_singleton, Nat.add_sub_cancel, List.getElem?_append_right (Nat.le_refl _), Nat.sub_self]
     rfl
    have hf := zj3 hT he hz
    change (match deepN 1 n with | some a => Except.error (a, 3) | none => Except.ok n) = _ at h
    split at h
    · rename_i y hy
      injection h with h; injection h with h1 h2
      subst h1 h2
      have h3 := zf7 n 1 hf.1 (by rw [hf.2.1]; decide) y hy
      exact ⟨h3.1, h3.2, by decide⟩
    · cases h
end Go.Proofs.YtmlclgkhnekmnaaGreatDoor
