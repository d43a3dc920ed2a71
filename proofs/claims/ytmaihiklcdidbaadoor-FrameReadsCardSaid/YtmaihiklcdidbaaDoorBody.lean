/-
  frame's bodyIn AT EVERY STREAM: where the body stands of the first frame. No memory that was there turns. Conditions: where the stream lies; its length; what the variables that are read hold (Facts).
-/
import Derived.Test.YtmaihiklcdidbaaDoorHead
import Derived.Shelf.Bytes.SlEqualAll
import Derived.Lib.SlBytesConst
namespace Go.Proofs.YtmaihiklcdidbaaDoor
open Go.RowKit

def nums (l : List UInt8) : List Int := l.map fun c => (c.toNat : Int)
theorem nums_len (l : List UInt8) : (nums l).length = l.length := List.length_map _
theorem bytesOf_nums (l : List UInt8) : Lib.bytesOf (nums l) = l := by
  unfold Lib.bytesOf nums
  rw [List.map_map]
  conv => rhs; rw [← List.map_id l]
  refine List.map_congr_left (fun c _ => ?_)
  simp
theorem nums_range {l : List UInt8} : ∀ x ∈ nums l, 0 ≤ x ∧ x < 256 := by
  intro x hx
  obtain ⟨c, _, rfl⟩ := List.mem_map.1 hx
  have := c.toNat_lt
  omega
theorem nums_take (l : List UInt8) (k : Nat) : nums (l.take k) = (nums l).take k := List.map_take
theorem str_nums (l : List UInt8) : strOfNums (nums l) = txt l := by
  have := bytesOf_nums l
  unfold Lib.bytesOf at this
  unfold strOfNums txt
  rw [this]
/-- A stream's bytes lie at an address. -/
def BIn (W : World) (p : Option Addr) (l : List UInt8) : Prop := Lib.BytesIn W p l.length (nums l)
theorem BIn.take {W : World} {p : Option Addr} {l : List UInt8} (h : BIn W p l) (k : Nat) : BIn W p (l.take k) := by
  intro hn
  rw [List.length_take] at hn
  obtain ⟨b, o, hp, hc⟩ := h (by omega)
  refine ⟨b, o, hp, fun i hi => ?_⟩
  rw [List.length_take] at hi
  rw [hc i (by omega), nums_take]
  congr 2
  rw [List.getD_eq_getElem?_getD, List.getD_eq_getElem?_getD, List.getElem?_take_of_lt (by omega)]
theorem BIn.below {W W' : World} {p : Option Addr} {l : List UInt8} (h : BIn W p l) (hb : Below W.heap.size W W') : BIn W' p l := by
  intro hn
  obtain ⟨b, o, hp, hc⟩ := h hn
  exact ⟨b, o, hp, fun i hi => cell_keep hb (hc i hi)⟩
structure BodyQ where
  f : Nat
  t : Nat
  e : Nat
/-- What bodyIn tells. -/
def bodyQ (l : List UInt8) : BodyQ :=
  let f := l.take 1024
  if 0 ≤ Lib.index f hend then
    match headP (f.take (Lib.index f hend).toNat) with
    | none => ⟨0, 0, 4⟩
    | some n => if 262144 < n then ⟨0, 0, 3⟩ else ⟨(Lib.index f hend).toNat + 4, (Lib.index f hend).toNat + 4 + n, 0⟩
  else if f.length < 1024 then ⟨0, 0, 0⟩ else ⟨0, 0, 4⟩
set_option maxHeartbeats 2000000 in
set_option maxRecDepth 100000 in
theorem bodyIn_any (p : Option Addr) (cap : Nat) (l : List UInt8) (w : World) (hp : p = none → cap = 0) (hB : BIn w p l) (hc : l.length ≤ cap) (hl : l.length ≤ 100000000) (hF : Facts w) :
    Calls Tryd.prog 24 #[.slice p l.length cap] w fun e w' => e = .returned (.tuple #[.int .i64 ((bodyQ l).f : Int), .int .i64 ((bodyQ l).t : Int), .int .i64 ((bodyQ l).e : Int)]) ∧ Below w.heap.size w w' := by
  have kc := fun (w : World) (C : Array Value) (n c : Nat) => Lib.run_convert_bytes_const (P := Tryd.prog) w 42 5 C n c Tryd.underlying42 Tryd.underlying5
  obtain ⟨W1, hW1⟩ : ∃ W1, W1 = w.alloc (.cells #[.int .u8 13, .int .u8 10, .int .u8 13, .int .u8 10] 5 (4, 5)) := ⟨_, rfl⟩
  have hb1 : Below w.heap.size w W1 := by rw [hW1]; exact alloc_below _ _
  have h1 : W1.heap[w.heap.size]? = some (.cells #[.int .u8 13, .int .u8 10, .int .u8 13, .int .u8 10] 5 (4, 5)) := by
    rw [hW1]; unfold World.alloc; exact Array.getElem?_push_size
  obtain ⟨f, hf⟩ : ∃ f, f = l.take 1024 := ⟨_, rfl⟩
  have hfl : f.length = (min (l.length : Int) 1024).toNat := by rw [hf, List.length_take]; omega
  have HB1 : Hid (BIn W1 p f) := Lib.hid (by rw [hf]; exact (hB.take 1024).below hb1)
  have HF1 := Lib.hid (hF.below hb1)
  obtain ⟨m, hm⟩ := HF1.out.max
  have hE : Lib.BytesIn W1 (some ⟨w.heap.size, 0, none⟩) 4 (nums hend) := by
    intro _
    refine ⟨w.heap.size, 0, rfl, fun i hi => ?_⟩
    rw [cell_at h1]
    rcases (show i = 0 ∨ i = 1 ∨ i = 2 ∨ i = 3 by omega) with rfl | rfl | rfl | rfl <;> rfl
  have HC := Lib.hid (Tryd.bytes_Cut_all p (some ⟨w.heap.size, 0, none⟩) f.length cap 4 4 (nums f) (nums hend) m W1 (nums_len f) (nums_len hend) nums_range nums_range HB1.out hE hp (by rw [hf, List.length_take]; omega) (by rw [hf, List.length_take]; omega) (by omega) hm)
  rw [bytesOf_nums, bytesOf_nums, hfl, hW1] at HC
  have HW1 := Lib.hid hW1
  have hq : bodyQ l = if 0 ≤ Lib.index f hend then
    (match headP (f.take (Lib.index f hend).toNat) with
    | none => ⟨0, 0, 4⟩
    | some n => if 262144 < n then ⟨0, 0, 3⟩ else ⟨(Lib.index f hend).toNat + 4, (Lib.index f hend).toNat + 4 + n, 0⟩)
    else if f.length < 1024 then ⟨0, 0, 0⟩ else ⟨0, 0, 4⟩ := by rw [hf]; rfl
  have hroom := fun h => index_len (s := f) (sub := hend) h
  rw [hq]
  clear hq hm hE h1 hW1
  unfold Lib.cutV at HC
  by_cases hi : 0 ≤ Lib.index f hend
  · have hr := hroom hi
    obtain ⟨i, hi2⟩ : ∃ i : Nat, Lib.index f hend = i := ⟨(Lib.index f hend).toNat, by omega⟩
    rw [hi2] at HC hr hi ⊢
    rw [if_pos hi] at HC ⊢
    simp only [Int.toNat_natCast] at HC hr ⊢
    unfold Lib.fromV at HC
    generalize (if cap = i + 4 then p else p.map (fun x => x.add (i + 4))) = p2 at HC
    have hti : (f.take i).length = i := by rw [List.length_take]; omega
    have HL := Lib.hid (fun q => lengthIn_any (txt (f.take i)) (by show (f.take i).toArray.size ≤ _; simp; rw [hf, List.length_take]; omega) (W1.drewN q) (hF.below (drewN_below hb1 q)))
    have HS : Hid (∀ q, (convert 42 9 (.slice p i cap)).run Tryd.prog (W1.drewN q) = .ok (.string (txt (f.take i))) (W1.drewN q)) := Lib.hid (fun q => by
      have := ((HB1.out.take i).below (drewN_below (Below.refl _ _) q)).convert (nums_len _) cap 42 5 9 Tryd.underlying42 Tryd.underlying5 Tryd.underlying9
      rw [str_nums, hti] at this
      exact this)
    have hb2 : ∀ q, Below w.heap.size w (W1.drewN q) := fun q => drewN_below hb1 q
    have hti2 : (txt (f.take i)).data.toList = f.take i := rfl
    rw [hti2] at HL
    rw [HW1.out] at HS HL hb2
    have hi1024 : i + 4 ≤ 1024 := by have : f.length ≤ 1024 := by rw [hf, List.length_take]; omega
                                     have h4 : hend.length = 4 := rfl
                                     omega
    clear hi hi2 hr hroom hfl HB1 HF1 hb1 HW1
    generalize headP (f.take i) = o at *
    generalize txt (f.take i) = t at *
    cases o with
    | none =>
      go_enter Tryd.func24, Tryd.ntmps24
      go_wp2_with fail
      refine HC.out.mono ?_
      rintro e w2 ⟨rfl, q, hw2⟩
      have hs2 := HS.out q
      go_wp2_with fail
      refine (HL.out q).mono ?_
      rintro e w3 ⟨rfl, hb3⟩
      have HB3 := Lib.hid ((hb2 q).trans (hb3.mono (hb2 q).size))
      clear hb3
      go_wp2_with fail
      go_ret3
      exact ⟨rfl, HB3.out⟩
    | some n =>
      have hz : intO (some n) = (n : Int) := rfl
      rw [hz] at HL
      simp only
      by_cases hn : 262144 < n
      · rw [if_pos hn]
        have hn2 : (262144 : Int) < (n : Int) := by omega
        have hn1 : ((n : Int) = -1) = False := by simp
        go_enter Tryd.func24, Tryd.ntmps24
        go_wp2_with fail
        refine HC.out.mono ?_
        rintro e w2 ⟨rfl, q, hw2⟩
        have hs2 := HS.out q
        go_wp2_with fail
        refine (HL.out q).mono ?_
        rintro e w3 ⟨rfl, hb3⟩
        have HB3 := Lib.hid ((hb2 q).trans (hb3.mono (hb2 q).size))
        clear hb3
        go_wp2_with fail
        go_ret3
        exact ⟨rfl, HB3.out⟩
      · rw [if_neg hn]
        have hn2 : (n : Int) ≤ 262144 := by omega
        have hn1 : ((n : Int) = -1) = False := by simp
        go_enter Tryd.func24, Tryd.ntmps24
        go_wp2_with fail
        refine HC.out.mono ?_
        rintro e w2 ⟨rfl, q, hw2⟩
        have hs2 := HS.out q
        go_wp2_with fail
        refine (HL.out q).mono ?_
        rintro e w3 ⟨rfl, hb3⟩
        have HB3 := Lib.hid ((hb2 q).trans (hb3.mono (hb2 q).size))
        clear hb3
        go_wp2_with fail
        go_ret3
        exact ⟨by simp, HB3.out⟩
  · rw [if_neg hi] at HC ⊢
    have HL := Lib.hid (fun w h => lengthIn_any (txt f) (by show f.toArray.size ≤ _; simp; rw [hf, List.length_take]; omega) w h)
    have HS : Hid (∀ (w : World), BIn w p f → (convert 42 9 (.slice p (min (l.length : Int) 1024).toNat cap)).run Tryd.prog w = .ok (.string (txt f)) w) := Lib.hid (fun w h => by
      have := h.convert (nums_len f) cap 42 5 9 Tryd.underlying42 Tryd.underlying5 Tryd.underlying9
      rw [str_nums, hfl] at this
      exact this)
    by_cases h10 : f.length < 1024
    · rw [if_pos h10]
      have d10 : (min (l.length : Int) 1024) < 1024 := by omega
      go_enter Tryd.func24, Tryd.ntmps24
      go_wp2_with fail
      refine HC.out.mono ?_
      rintro e w2 ⟨rfl, q, hw2⟩
      have hb2 := Lib.hid (drewN_below hb1 q)
      rw [HW1.out] at hb2
      go_wp2_with fail
      go_ret3
      exact ⟨rfl, hb2.out⟩
    · rw [if_neg h10]
      have d10 : (min (l.length : Int) 1024) = 1024 := by omega
      have hb2 : ∀ q, Below w.heap.size w (W1.drewN q) := fun q => drewN_below hb1 q
      have HS2 := Lib.hid (fun q => HS.out (W1.drewN q) (HB1.out.below (drewN_below (Below.refl _ _) q)))
      have HL2 := Lib.hid (fun q => HL.out (W1.drewN q) (hF.below (hb2 q)))
      rw [d10] at HC HS2
      rw [HW1.out] at HS2 HL2 hb2
      go_enter Tryd.func24, Tryd.ntmps24
      go_wp2_with fail
      refine HC.out.mono ?_
      rintro e w2 ⟨rfl, q, hw2⟩
      have hs2 := HS2.out q
      rw [show (1024 : Int).toNat = 1024 from rfl] at hs2
      have HL3 := Lib.hid (HL2.out q)
      generalize headP (txt f).data.toList = o at HL3
      generalize intO o = z at HL3
      clear HL2 HL HS HS2 hf hfl
      go_wp2_with fail
      refine HL3.out.mono ?_
      rintro e w3 ⟨rfl, hb3⟩
      have HB3 := Lib.hid ((hb2 q).trans (hb3.mono (hb2 q).size))
      clear hb3
      go_wp2_with fail
      go_ret3
      exact ⟨rfl, HB3.out⟩
end Go.Proofs.YtmaihiklcdidbaaDoor
