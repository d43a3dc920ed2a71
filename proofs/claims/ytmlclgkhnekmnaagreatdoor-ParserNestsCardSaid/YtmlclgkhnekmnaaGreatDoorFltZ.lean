/- Part of a proof. -/
import Derived.Test.YtmlclgkhnekmnaaGreatDoorFltG
import Derived.Test.YtmlclgkhnekmnaaGreatDoorLFactsK
import Derived.Test.YtmlclgkhnekmnaaGreatDoorRead3
namespace Go.Proofs.YtmlclgkhnekmnaaGreatDoor
open Go.ChangeShapes Go.WideShapes Go.ChangeAt Go.RowKit Go.Lib
theorem pairs_of_reads {P : Program} {W : World} {name : String} {g : Nat} {t e k : TypeId} {n : Nat} {fs : Array Field} {f0 f1 : Field} {l : List (Nat × Nat)} (hn : P.globalNamed name = some g) (hy : (P.globals[g]?).map (·.type) = some t)
 (ht : P.underlying t = some (.array n e)) (he : P.underlying e = some (.struct fs)) (hc : P.cellsOf e = 2) (hk : P.underlying k = some (.int .u64)) (hk1 : P.cellsOf k = 1) (hf0 : fs[0]? = some f0) (hf1 : fs[1]? = some f1) (ht0 : f0.type = k) (ht1 : f1.type = k) (ho0 : f0.offset = 0) (ho1 : f1.offset = 1)
 (h : VarReads P W name (.agg (l.map fun x => .agg [.lit (.int .u64 x.1), .lit (.int .u64 x.2)]))) :
 ∀ (j : Nat) (r : Nat × Nat), l[j]? = some r → W.cell? ⟨g, j * 2, none⟩ = some (.int .u64 (r.1 : Int)) ∧ W.cell? ⟨g, j * 2 + 1, none⟩ = some (.int .u64 (r.2 : Int)) := by
 obtain ⟨g', t', cs, fuel, p, hg, hty, hvar, hd⟩ := h
 obtain rfl := Option.some.inj (hn.symm.trans hg)
 obtain rfl := Option.some.inj (hy.symm.trans hty)
 obtain ⟨xs, m0, rfl, hx, hl, hxl, hall⟩ := DataW.trod_array ht hd
 have e0 := congrArg Prod.fst hx
 simp only [DataW.agg.injEq] at e0
 intro j r hj
 have hjl : j < l.length := (List.getElem?_eq_some_iff.1 hj).1
 have hlen : xs.length = l.length := by
  have := congrArg List.length e0
  simp at this
  omega
 have h1 := hall j (by omega)
 obtain ⟨b, hb⟩ : ∃ b, xs[j]? = some b := ⟨xs[j]'(by omega), List.getElem?_eq_getElem (by omega)⟩
 rw [hb, hc] at h1
 have hb1 : b.1 = .agg [.lit (.int .u64 r.1), .lit (.int .u64 r.2)] := by
  have := congrArg (·[j]?) e0
  simp only [List.getElem?_map, hb, hj, Option.map_some, Option.some.injEq] at this
  exact this.symm
 obtain ⟨b1, b2⟩ := b
 simp only at hb1
 subst hb1
 obtain ⟨ys, m1, hm1, hy2, hyl, hyl2, hall2⟩ := DataW.trod_struct he h1
 have y0 := hall2 0 f0 hf0
 have y1 := hall2 1 f1 hf1
 rw [ht0, ho0, hk1] at y0
 rw [ht1, ho1, hk1] at y1
 have e1 := congrArg Prod.fst hy2
 simp only [DataW.agg.injEq] at e1
 have hlen2 : ys.length = 2 := by
  have := congrArg List.length e1
  simp at this
  omega
 obtain ⟨a, b, rfl⟩ : ∃ a b, ys = [a, b] := by
  cases ys with
  | nil => simp at hlen2
  | cons a l1 =>
   cases l1 with
   | nil => simp at hlen2
   | cons b l2 =>
    cases l2 with
    | nil => exact ⟨a, b, rfl⟩
    | cons c l3 => simp at hlen2
 · simp only [List.map_cons, List.map_nil, List.cons.injEq, and_true] at e1
   obtain ⟨q0, q1⟩ := e1
   simp only [List.getElem?_cons_zero, List.getElem?_cons_succ] at y0 y1
   obtain ⟨a1, a2⟩ := a
   obtain ⟨b1, b3⟩ := b
   simp only at q0 q1
   subst q0 q1
   obtain ⟨z0, hz0, hb0, _⟩ := DataW.trod_int hk y0
   obtain ⟨z1, hz1, hb1, _⟩ := DataW.trod_int hk y1
   have w0 : z0 = (r.1 : Int) := by
    have h4 : z0 = (r.1 : Int) ∧ a2 = [] := by simpa using hb0.symm
    exact h4.1
   have w1 : z1 = (r.2 : Int) := by
    have h4 : z1 = (r.2 : Int) ∧ b3 = [] := by simpa using hb1.symm
    exact h4.1
   subst w0 w1
   have s0 := congrArg (·[0]?) hz0
   have s1 := congrArg (·[0]?) hz1
   simp only [List.getElem?_take, List.getElem?_drop, List.getElem?_cons_zero] at s0 s1
   simp at s0 s1
   refine ⟨?_, ?_⟩
   · rw [World.var?_cell hg hvar (j * 2)]; simpa using s0
   · rw [World.var?_cell hg hvar (j * 2 + 1)]; simpa using s1
def powH (i : Nat) : Nat := (Go.Pinned.pow10Rows.getD i (0, 0)).1
def powL (i : Nat) : Nat := (Go.Pinned.pow10Rows.getD i (0, 0)).2
theorem rows_len : Go.Pinned.pow10Rows.length = 696 := by decide +kernel
theorem rows_all : (Go.Pinned.pow10Rows.all fun x => decide (x.1 < 18446744073709551616) && decide (x.2 < 18446744073709551616)) = true := by decide +kernel
theorem row_at (i : Nat) : (Go.Pinned.pow10Rows.getD i (0, 0)).1 < 18446744073709551616 ∧ (Go.Pinned.pow10Rows.getD i (0, 0)).2 < 18446744073709551616 := by
 rcases Nat.lt_or_ge i Go.Pinned.pow10Rows.length with h | h
 · rw [List.getD_eq_getElem?_getD, List.getElem?_eq_getElem h, Option.getD_some]
   have := List.all_eq_true.1 rows_all _ (List.getElem_mem h)
   simpa using this
 · rw [List.getD_eq_getElem?_getD, List.getElem?_eq_none h]
   exact ⟨by decide, by decide⟩
theorem powH_lt (i : Nat) : powH i < 18446744073709551616 := (row_at i).1
theorem powL_lt (i : Nat) : powL i < 18446744073709551616 := (row_at i).2
theorem Wit.pow_of {W : World} (h : laidMet Tryz.prog Rows.parserNestsRow.laid W) : PowIn powH powL W := by
 have hr := laidMet.reads h (show (_, Rows.laid_internal_strconv_pow10Tab) ∈ _ from .tail _ (.tail _ (.tail _ (.tail _ (.tail _ (.tail _ (.tail _ (.tail _ (.tail _ (.tail _ (.tail _ (.tail _ (.tail _ (.tail _ (.head _)))))))))))))))
 intro i hi
 have hl : i < Go.Pinned.pow10Rows.length := by rw [rows_len]; exact hi
 have := pairs_of_reads (g := 12) (k := 150) (e := 226) (t := 227) (l := Go.Pinned.pow10Rows) (by kernel_rfl) (by kernel_rfl) Tryz.underlying227 Tryz.underlying226 (by kernel_rfl) Tryz.underlying150 (by kernel_rfl) rfl rfl rfl rfl rfl rfl hr i _ (List.getElem?_eq_getElem hl)
 unfold powH powL
 rw [List.getD_eq_getElem?_getD, List.getElem?_eq_getElem hl, Option.getD_some]
 exact this
end Go.Proofs.YtmlclgkhnekmnaaGreatDoor
namespace Go.Proofs.YtmlclgkhnekmnaaGreatDoor
open Go.RowKit
def AtEnd (err : Bool) (n : Nat) (w : World) (e : Ending) (w' : World) : Prop := ∃ X : Nat, e = .returned (.tuple #[.float .f64 X, .int .i64 (n : Int), errV err]) ∧ Below w.heap.size w w'
def ReadsAs (s : ByteArray) (M : Nat) (E : Int) (T : Bool) : Prop := ∀ w, Calls Tryz.prog 211 #[.string s] w fun e w' => e = .returned (.tuple #[.int .u64 (M : Int), .int .i64 E, .bool false, .bool T, .bool false, .int .i64 (s.size : Int), .bool true]) ∧ w = w'
def Special (s : ByteArray) : Prop := ∀ w, Calls Tryz.prog 210 #[.string s] w fun e w' => e = .returned (.tuple #[.float .f64 0, .int .i64 0, .bool false]) ∧ w = w'
set_option maxRecDepth 100000 in
set_option maxHeartbeats 1000000 in
theorem atof_zero (s : ByteArray) (hS : Special s) (E : Int) (T : Bool) (hR : ReadsAs s 0 E T) (w : World) (h : FltFacts w) : Calls Tryz.prog 204 #[.string s] w (AtEnd false s.size w) := by
 have ho := h.opt
 have hq := frombits_run
 clear h
 go_enter Tryz.func204, Tryz.ntmps204
 go_wp2_with fail
 refine (hS _).mono ?_
 rintro e w' ⟨rfl, rfl⟩
 go_wp2_with fail
 refine (hR _).mono ?_
 rintro e w' ⟨rfl, rfl⟩
 go_wp2_with fail
 refine (bool2false _).mono ?_
 rintro e w' ⟨rfl, rfl⟩
 go_wp2_with fail
 go_ret3
 exact ⟨_, rfl, Below.refl _ _⟩
set_option maxRecDepth 100000 in
set_option maxHeartbeats 1000000 in
theorem atof_out (s : ByteArray) (hS : Special s) (M : Nat) (hM : M ≠ 0) (E : Int) (T : Bool) (hR : ReadsAs s M E T) (hE : 310 < E) (w : World) (h : FltFacts w) : Calls Tryz.prog 204 #[.string s] w (AtEnd true s.size w) := by
 have ho := h.opt
 have hq := frombits_run
 have q1 : (((M : Nat) : Int) == 0) = false := by simp only [beq_eq_false_iff_ne, ne_eq]; omega
 clear h
 go_enter Tryz.func204, Tryz.ntmps204
 go_wp2_with fail
 refine (hS _).mono ?_
 rintro e w' ⟨rfl, rfl⟩
 go_wp2_with fail
 refine (hR _).mono ?_
 rintro e w' ⟨rfl, rfl⟩
 go_wp2_with fail
 refine (bool2false _).mono ?_
 rintro e w' ⟨rfl, rfl⟩
 go_wp2_with fail
 go_ret3
 exact ⟨_, rfl, Below.refl _ _⟩
set_option maxRecDepth 100000 in
set_option maxHeartbeats 1000000 in
theorem atof_tiny (s : ByteArray) (hS : Special s) (M : Nat) (hM : M ≠ 0) (E : Int) (T : Bool) (hR : ReadsAs s M E T) (hE : E < -345) (w : World) (h : FltFacts w) : Calls Tryz.prog 204 #[.string s] w (AtEnd false s.size w) := by
 have ho := h.opt
 have hq := frombits_run
 have q1 : (((M : Nat) : Int) == 0) = false := by simp only [beq_eq_false_iff_ne, ne_eq]; omega
 clear h
 go_enter Tryz.func204, Tryz.ntmps204
 go_wp2_with fail
 refine (hS _).mono ?_
 rintro e w' ⟨rfl, rfl⟩
 go_wp2_with fail
 refine (hR _).mono ?_
 rintro e w' ⟨rfl, rfl⟩
 go_wp2_with fail
 refine (bool2false _).mono ?_
 rintro e w' ⟨rfl, rfl⟩
 go_wp2_with fail
 go_ret3
 exact ⟨_, rfl, Below.refl _ _⟩
set_option maxRecDepth 100000 in
set_option maxHeartbeats 2000000 in
theorem atof_whole (H L : Nat → Nat) (hH : ∀ i, H i < 18446744073709551616) (hL : ∀ i, L i < 18446744073709551616) (s : ByteArray) (hS : Special s) (M : Nat) (hM : M ≠ 0) (hM2 : M < 18446744073709551616) (E : Int) (hR : ReadsAs s M E false) (h1 : -345 ≤ E) (h2 : E ≤ 310) : ∃ err : Bool, ∀ w, FltFacts w → PowIn H L w → Calls Tryz.prog 204 #[.string s] w (AtEnd err s.size w) := by
 have q1 : (((M : Nat) : Int) == 0) = false := by simp only [beq_eq_false_iff_ne, ne_eq]; omega
 obtain ⟨ok, hX⟩ := exact_any (M : Int) E
 obtain ⟨X, err, hP⟩ := pfParse_any H L hH hL M hM2 E h1 h2
 cases ok with
 | true =>
  refine ⟨false, fun w h _ => ?_⟩
  have ho := h.opt
  have HX := Lib.hid (hX w h)
  clear h hX hP
  go_enter Tryz.func204, Tryz.ntmps204
  go_wp2_with fail
  refine (hS _).mono ?_
  rintro e w' ⟨rfl, rfl⟩
  go_wp2_with fail
  refine (hR _).mono ?_
  rintro e w' ⟨rfl, rfl⟩
  go_wp2_with fail
  refine (bool2false _).mono ?_
  rintro e w' ⟨rfl, rfl⟩
  go_wp2_with fail
  refine HX.out.mono ?_
  rintro e w' ⟨X, rfl, hb⟩
  have HB := Lib.hid hb
  clear hb
  go_wp2_with fail
  go_ret3
  exact ⟨_, rfl, HB.out⟩
 | false =>
  refine ⟨err, fun w h hPw => ?_⟩
  have ho := h.opt
  have HX := Lib.hid (hX w h)
  have HPP := Lib.hid (fun (W : World) (hb : Below w.heap.size w W) => hP W (fun i hi => ⟨cell_keep2 hb (hPw i hi).1, cell_keep2 hb (hPw i hi).2⟩))
  clear h hX hP hPw
  go_enter Tryz.func204, Tryz.ntmps204
  go_wp2_with fail
  refine (hS _).mono ?_
  rintro e w' ⟨rfl, rfl⟩
  go_wp2_with fail
  refine (hR _).mono ?_
  rintro e w' ⟨rfl, rfl⟩
  go_wp2_with fail
  refine (bool2false _).mono ?_
  rintro e w' ⟨rfl, rfl⟩
  go_wp2_with fail
  refine HX.out.mono ?_
  rintro e w1 ⟨X, rfl, hb⟩
  have HB := Lib.hid hb
  clear hb
  go_wp2_with fail
  refine (HPP.out _ HB.out).mono ?_
  rintro e w2 ⟨rfl, hb⟩
  have HB2 := Lib.hid (HB.out.trans (hb.mono HB.out.size))
  clear hb
  go_wp2_with fail
  go_ret3
  exact ⟨_, rfl, HB2.out⟩
end Go.Proofs.YtmlclgkhnekmnaaGreatDoor
namespace Go.Proofs.YtmlclgkhnekmnaaGreatDoor
open Go.RowKit
def AtOK (FW : World → Prop) (s : ByteArray) (err : Bool) : Prop := ∀ w, FW w → Calls Tryz.prog 204 #[.string s] w (AtEnd err s.size w)
def PEnd (err : Bool) (w : World) (e : Ending) (w' : World) : Prop := ∃ X : Nat, e = .returned (.tuple #[.float .f64 X, errV err]) ∧ Below w.heap.size w w'
theorem prefix_any {FW : World → Prop} {s : ByteArray} {err : Bool} (hA : AtOK FW s err) (w : World) (h : FW w) : Calls Tryz.prog 185 #[.string s, .int .i64 64] w (AtEnd err s.size w) := by
 have HA := Lib.hid (hA w h)
 clear hA h
 go_enter Tryz.func185, Tryz.ntmps185
 go_wp2_with fail
 refine HA.out.mono ?_
 rintro e w' ⟨X, rfl, hb⟩
 have HB := Lib.hid hb
 clear hb
 go_wp2_with fail
 go_ret3
 exact ⟨_, rfl, HB.out⟩
theorem inner_any {FW : World → Prop} {s : ByteArray} {err : Bool} (hA : AtOK FW s err) (w : World) (h : FW w) : Calls Tryz.prog 161 #[.string s, .int .i64 64] w (PEnd err w) := by
 have HA := Lib.hid (prefix_any hA w h)
 clear hA h
 go_enter Tryz.func161, Tryz.ntmps161
 go_wp2_with fail
 refine HA.out.mono ?_
 rintro e w' ⟨X, rfl, hb⟩
 have HB := Lib.hid hb
 clear hb
 go_wp2_with fail
 go_ret2
 exact ⟨_, rfl, HB.out⟩
def OutEnd (err : Bool) (w : World) (e : Ending) (w' : World) : Prop := ∃ (X : Nat) (v : Value), e = .returned (.tuple #[.float .f64 X, v]) ∧ (err = false → v = .nilIface) ∧ (err = true → ∃ t p, v = .iface t p) ∧ Below w.heap.size w w'
set_option maxHeartbeats 1000000 in
theorem outer_ok {FW : World → Prop} {s : ByteArray} (hA : AtOK FW s false) (w : World) (h : FW w) : Calls Tryz.prog 139 #[.string s, .int .i64 64] w (OutEnd false w) := by
 have HA := Lib.hid (inner_any hA w h)
 clear hA h
 go_enter Tryz.func139, Tryz.ntmps139
 go_wp2_with fail
 refine HA.out.mono ?_
 rintro e w' ⟨X, rfl, hb⟩
 have HB := Lib.hid hb
 clear hb
 simp only [errV, Bool.false_eq_true, if_false]
 go_wp2_with fail
 go_ret2
 exact ⟨_, _, rfl, (fun _ => rfl), (fun h => Bool.noConfusion h), HB.out⟩
set_option maxHeartbeats 1000000 in
theorem outer_bad {FW : World → Prop} {s : ByteArray} (hs : s.size ≤ 60) (hA : AtOK FW s true) (w : World) (h : FW w) (hE : ErrIn w 5) : Calls Tryz.prog 139 #[.string s, .int .i64 64] w (OutEnd true w) := by
 have HA := Lib.hid (inner_any hA w h)
 clear hA h
 go_enter Tryz.func139, Tryz.ntmps139
 go_wp2_with fail
 refine HA.out.mono ?_
 rintro e w1 ⟨X, rfl, hb⟩
 obtain ⟨ev, he1, he2⟩ := err_below hE hb
 have HB := Lib.hid hb
 clear hb hE
 simp only [errV, if_true]
 go_wp2_with fail
 refine (Tryz.strconv_toError_range _ s _ _ ev w1 (by omega) he1 he2).mono ?_
 rintro e w2 ⟨N, rfl, _, _, hb⟩
 have HB2 := Lib.hid (HB.out.trans (hb.mono HB.out.size))
 clear hb
 go_wp2_with fail
 go_ret2
 exact ⟨_, _, rfl, (fun h => Bool.noConfusion h), (fun _ => ⟨_, _, rfl⟩), HB2.out⟩
def ffOf (l : List UInt8) (err : Bool) : Nat := if 60 < l.length then 3 else if floatB l then (if err then 3 else 0) else 4
set_option maxHeartbeats 1000000 in
theorem float_any {FW : World → Prop} (s : ByteArray) (err : Bool) (hA : s.size ≤ 60 → floatB s.data.toList = true → AtOK FW s err) (w : World) (h : FW w) (hE : ErrIn w 5) :
 Calls Tryz.prog 113 #[.string s] w fun e w' => ∃ v : Value, e = .returned (.tuple #[v, .int .i64 (ffOf s.data.toList err : Int)]) ∧ Below w.heap.size w w' := by
 have hsz : s.data.toList.length = s.size := rfl
 unfold ffOf
 rw [hsz]
 by_cases h60 : 60 < s.size
 · rw [if_pos h60]
   go_enter Tryz.func113, Tryz.ntmps113
   go_wp2_with fail
   go_ret2
   exact ⟨_, rfl, Below.refl _ _⟩
 · rw [if_neg h60]
   have HI := Lib.hid (isFloat_any s (by omega) w)
   cases hf : floatB s.data.toList with
   | false =>
    rw [hf] at HI
    simp only [Bool.false_eq_true, if_false]
    clear hA hf
    go_enter Tryz.func113, Tryz.ntmps113
    go_wp2_with fail
    refine HI.out.mono ?_
    rintro e w' ⟨rfl, rfl⟩
    go_wp2_with fail
    go_ret2
    exact ⟨_, rfl, Below.refl _ _⟩
   | true =>
    rw [hf] at HI
    have hA2 := hA (by omega) hf
    cases err with
    | false =>
     have HP := Lib.hid (outer_ok hA2 w h)
     simp only [Bool.false_eq_true, if_true, if_false]
     clear hA hA2 hf h hE
     go_enter Tryz.func113, Tryz.ntmps113
     go_wp2_with fail
     refine HI.out.mono ?_
     rintro e w' ⟨rfl, rfl⟩
     go_wp2_with fail
     refine HP.out.mono ?_
     rintro e w1 ⟨X, v, rfl, hv, _, hb⟩
     obtain rfl := hv rfl
     have HB := Lib.hid hb
     clear hb hv
     go_wp2_with fail
     go_ret2
     exact ⟨_, rfl, HB.out⟩
    | true =>
     have HP := Lib.hid (outer_bad (by omega) hA2 w h hE)
     simp only [if_true]
     clear hA hA2 hf h hE
     go_enter Tryz.func113, Tryz.ntmps113
     go_wp2_with fail
     refine HI.out.mono ?_
     rintro e w' ⟨rfl, rfl⟩
     go_wp2_with fail
     refine HP.out.mono ?_
     rintro e w1 ⟨X, v, rfl, _, hv, hb⟩
     obtain ⟨t, p, rfl⟩ := hv rfl
     have HB := Lib.hid hb
     clear hb hv
     go_wp2_with fail
     go_ret2
     exact ⟨_, rfl, HB.out⟩
end Go.Proofs.YtmlclgkhnekmnaaGreatDoor
namespace Go.Proofs.YtmlclgkhnekmnaaGreatDoor
open Go.RowKit
set_option maxRecDepth 100000 in
set_option maxHeartbeats 2000000 in
theorem atof_near (H L : Nat → Nat) (s : ByteArray) (hS : Special s) (M : Nat) (hM : M ≠ 0) (hM2 : M < 18446744073709551615) (E : Int) (hR : ReadsAs s M E true) (h1 : -345 ≤ E) (h2 : E ≤ 310)
 (X1 X2 : Nat) (err1 err2 : Bool)
 (hP1 : ∀ w, PowIn H L w → Calls Tryz.prog 222 #[.int .u64 (M : Int), .int .i64 E, .int .u64 0] w fun e' w' => e' = .returned (.tuple #[.float .f64 X1, errV err1]) ∧ Below w.heap.size w w')
 (hP2 : ∀ w, PowIn H L w → Calls Tryz.prog 222 #[.int .u64 ((M : Int) + 1), .int .i64 E, .int .u64 0] w fun e' w' => e' = .returned (.tuple #[.float .f64 X2, errV err2]) ∧ Below w.heap.size w w')
 (hx : (FloatKind.f64.format.order X1 X2 == some Ordering.eq) = true) (w : World) (h : FltFacts w) (hPw : PowIn H L w) : Calls Tryz.prog 204 #[.string s] w (AtEnd err1 s.size w) := by
 have q1 : (((M : Nat) : Int) == 0) = false := by simp only [beq_eq_false_iff_ne, ne_eq]; omega
 have ho := h.opt
 have HA := Lib.hid (hP1 w hPw)
 have HPP := Lib.hid (fun (W : World) (hb : Below w.heap.size w W) => hP2 W (fun i hi => ⟨cell_keep2 hb (hPw i hi).1, cell_keep2 hb (hPw i hi).2⟩))
 clear h hP1 hP2 hPw
 go_enter Tryz.func204, Tryz.ntmps204
 go_wp2_with fail
 refine (hS _).mono ?_
 rintro e w' ⟨rfl, rfl⟩
 go_wp2_with fail
 refine (hR _).mono ?_
 rintro e w' ⟨rfl, rfl⟩
 go_wp2_with fail
 refine (bool2false _).mono ?_
 rintro e w' ⟨rfl, rfl⟩
 go_wp2_with fail
 refine HA.out.mono ?_
 rintro e w1 ⟨rfl, hb⟩
 have HB := Lib.hid hb
 clear hb
 go_wp2_with fail
 refine (HPP.out _ HB.out).mono ?_
 rintro e w2 ⟨rfl, hb⟩
 have HB2 := Lib.hid (HB.out.trans (hb.mono HB.out.size))
 clear hb
 go_wp2_with fail
 go_ret3
 exact ⟨_, rfl, HB2.out⟩
end Go.Proofs.YtmlclgkhnekmnaaGreatDoor
namespace Go.Proofs.YtmlclgkhnekmnaaGreatDoor
open Go.RowKit
theorem rf_m {l : List UInt8} {p q : Nat} (F : FForm l p q) : ∀ j, j ≤ q → 0 ≤ (rfAt l j).m ∧ (rfAt l j).m < 10 ^ (rfAt l j).nm
 | 0, _ => by simp [rfAt, rf0]
 | j + 1, h => by
  obtain ⟨ih1, ih2⟩ := rf_m F j (by omega)
  have hc := F.dig j (by omega)
  have hb := rf_bounds l j
  rw [rfAt]
  unfold rfStep
  by_cases hp : j = p
  · subst hp
    rw [if_pos F.dot]
    exact ⟨ih1, ih2⟩
  · obtain ⟨c1, c2⟩ := hc hp
    rw [if_neg (by omega)]
    split
    · exact ⟨ih1, ih2⟩
    · split
      · rename_i hnm
        simp only
        have hpow : (10 : Int) ^ (rfAt l j).nm ≤ 10 ^ 18 := by
         have : (10 : Nat) ^ (rfAt l j).nm ≤ 10 ^ 18 := Nat.pow_le_pow_right (by decide) (by omega)
         exact_mod_cast this
        have e18 : (10 : Int) ^ 18 = 1000000000000000000 := by decide
        rw [e18] at hpow
        have hstep : (10 : Int) ^ ((rfAt l j).nm + 1) = 10 ^ (rfAt l j).nm * 10 := Int.pow_succ ..
        generalize (rfAt l j).m = m at *
        generalize (10 : Int) ^ (rfAt l j).nm = P at *
        rw [hstep, IntKind.wrap_u64, IntKind.wrap_u64]
        omega
      · exact ⟨ih1, ih2⟩
theorem rfM_bounds {l : List UInt8} (F : FForm l (wholeEnd l) (floatQ l)) : 0 ≤ rfM l ∧ rfM l < 10000000000000000000 := by
 obtain ⟨h1, h2⟩ := rf_m F (floatQ l) (Nat.le_refl _)
 have hb := (rf_bounds l (floatQ l)).2.2.2.2
 refine ⟨h1, ?_⟩
 have : (10 : Nat) ^ (rfAt l (floatQ l)).nm ≤ 10 ^ 19 := Nat.pow_le_pow_right (by decide) hb
 have h3 : (10 : Int) ^ (rfAt l (floatQ l)).nm ≤ 10 ^ 19 := by exact_mod_cast this
 have e19 : (10 : Int) ^ 19 = 10000000000000000000 := by decide
 unfold rfM
 omega
theorem float_first {s : ByteArray} (F : FForm s.data.toList (wholeEnd s.data.toList) (floatQ s.data.toList)) : ∃ h : 0 < s.size, isDig s[0] = true := by
 have hq : floatQ s.data.toList ≤ s.size := F.ql
 have hp := F.p1
 have hpq := F.pq
 have h0 : 0 < s.size := by omega
 refine ⟨h0, ?_⟩
 have := F.dig 0 (by omega) (by omega)
 rw [nth_at2 s 0 h0] at this
 unfold isDig
 rw [decide_eq_true_eq]
 exact this
theorem special_of {s : ByteArray} (hs : s.size ≤ 60) (F : FForm s.data.toList (wholeEnd s.data.toList) (floatQ s.data.toList)) : Special s := by
 obtain ⟨h0, hd⟩ := float_first F
 exact fun w => special_any s h0 (by omega) hd w
theorem reads_of {s : ByteArray} (hs : s.size ≤ 60) (hf : floatB s.data.toList = true) : ∃ M : Nat, (M : Int) = rfM s.data.toList ∧ M < 10000000000000000000 ∧ ReadsAs s M (rfE s.data.toList) (rfT s.data.toList) := by
 obtain ⟨F, hx⟩ := float_form _ hf
 obtain ⟨b1, b2⟩ := rfM_bounds F
 obtain ⟨M, hM⟩ : ∃ M : Nat, (M : Int) = rfM s.data.toList := ⟨(rfM s.data.toList).toNat, by omega⟩
 refine ⟨M, hM, by omega, fun w => ?_⟩
 rw [hM]
 rcases hx with hx | ⟨hx1, hx2⟩
 · exact readFloat_plain s hs _ _ rfl F hx w
 · exact readFloat_exp s hs _ _ rfl F hx1 _ rfl (exp_form _ _ hx1 hx2) w
def Slow (FW : World → Prop) : Prop := ∀ s : ByteArray, s.size ≤ 60 → floatB s.data.toList = true → rfT s.data.toList = true → rfM s.data.toList ≠ 0 → -345 ≤ rfE s.data.toList → rfE s.data.toList ≤ 310 → ∃ err : Bool, AtOK FW s err
theorem at_ok (H L : Nat → Nat) (hH : ∀ i, H i < 18446744073709551616) (hL : ∀ i, L i < 18446744073709551616) {FW : World → Prop} (hFW : ∀ w, FW w → FltFacts w ∧ PowIn H L w) (hSl : Slow FW) (s : ByteArray) (hs : s.size ≤ 60) (hf : floatB s.data.toList = true) : ∃ err : Bool, AtOK FW s err := by
 obtain ⟨M, hM, hM2, hR⟩ := reads_of hs hf
 have hSp := special_of hs (float_form _ hf).1
 by_cases h0 : M = 0
 · subst h0
   exact ⟨false, fun w hw => atof_zero s hSp _ _ hR w (hFW w hw).1⟩
 · by_cases h1 : 310 < rfE s.data.toList
   · exact ⟨true, fun w hw => atof_out s hSp M h0 _ _ hR h1 w (hFW w hw).1⟩
   · by_cases h2 : rfE s.data.toList < -345
     · exact ⟨false, fun w hw => atof_tiny s hSp M h0 _ _ hR h2 w (hFW w hw).1⟩
     · cases hT : rfT s.data.toList with
       | false =>
        rw [hT] at hR
        obtain ⟨err, hE⟩ := atof_whole H L hH hL s hSp M h0 (by omega) _ hR (by omega) (by omega)
        exact ⟨err, fun w hw => hE w (hFW w hw).1 (hFW w hw).2⟩
       | true => exact hSl s hs hf hT (by omega) (by omega) (by omega)
structure FloatFacts (H L : Nat → Nat) (w : World) : Prop where
 flt : FltFacts w
 pow : PowIn H L w
 err : ErrIn w 5
theorem FloatFacts.below {H L : Nat → Nat} {w w' : World} (h : FloatFacts H L w) (hb : Below w.heap.size w w') : FloatFacts H L w' :=
 ⟨h.flt.below hb, fun i hi => ⟨cell_keep2 hb (h.pow i hi).1, cell_keep2 hb (h.pow i hi).2⟩, err_below h.err hb⟩
open Classical in
noncomputable def outOf (FW : World → Prop) (l : List UInt8) : Bool := if h : ∃ err : Bool, AtOK FW ⟨l.toArray⟩ err then h.choose else false
theorem spec_all {FW : World → Prop} (H L : Nat → Nat) (hH : ∀ i, H i < 18446744073709551616) (hL : ∀ i, L i < 18446744073709551616) (hFW : ∀ w, FW w → FloatFacts H L w) (keep : ∀ w w', FW w → Below w.heap.size w w' → FW w') (hSl : Slow FW) :
 FSpec FW (fun l => ffOf l (outOf FW l)) (fun _ => True) := by
 refine ⟨keep, fun x _ w hw => ?_⟩
 refine float_any x (outOf FW x.data.toList) (fun hs hf => ?_) w hw (hFW w hw).err
 have hx := at_ok H L hH hL (fun w hw => ⟨(hFW w hw).flt, (hFW w hw).pow⟩) hSl x hs hf
 have e : (⟨x.data.toList.toArray⟩ : ByteArray) = x := by
  apply ByteArray.ext
  simp
 unfold outOf
 rw [e, dif_pos hx]
 exact hx.choose_spec
end Go.Proofs.YtmlclgkhnekmnaaGreatDoor
