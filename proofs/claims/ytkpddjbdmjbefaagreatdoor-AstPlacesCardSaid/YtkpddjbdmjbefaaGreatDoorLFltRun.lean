/-
  CALLS OF FIXED FLOAT TEXTS THAT TOUCH NO MEMORY, reckoned step by step by the kernel in whatever world: what each returns, and that the world stays as it is. No condition.
-/
import Derived.Test.YtkpddjbdmjbefaaGreatDoorProg
import Derived.WalkKit
import Derived.KernelRfl
namespace Go.Proofs.YtkpddjbdmjbefaaGreatDoor

/-- The first goroutine's frame. -/
def fr0 (s : Stepped) : Frame := match s with
  | .next m => match m.gs[0]? with
    | some g => g.frame
    | none => default
  | _ => default

/-- A call whose run of n steps, from whatever callers, ends in one frame that returns, in the world in which it began. -/
theorem calls_run {P : Program} {f : FuncId} {args : Array Value} {w : World} {v : Value} (n : Nat) {fn : Func} (h5 : P.funcs[f]? = some fn)
    (h : ∀ cs, runN P n (lone (Frame.enter P f args .normal) cs w) = .next (lone (fr0 (runN P n (lone (Frame.enter P f args .normal) [] w))) cs w))
    (h1 : (fr0 (runN P n (lone (Frame.enter P f args .normal) [] w))).fn = f) (h2 : (fr0 (runN P n (lone (Frame.enter P f args .normal) [] w))).mode = .returning)
    (h3 : (fr0 (runN P n (lone (Frame.enter P f args .normal) [] w))).defers = []) (h4 : (fr0 (runN P n (lone (Frame.enter P f args .normal) [] w))).kind = .normal)
    (h6 : (results fn (fr0 (runN P n (lone (Frame.enter P f args .normal) [] w))).tmps).run P w = .ok v w) : Calls P f args w fun e w' => e = .returned v ∧ w = w' :=
  fun cs => ⟨.returned v, w, _, ⟨rfl, rfl⟩, ⟨n, h cs⟩, h1, h2, h3, h4, fn, h1.symm ▸ h5, h6⟩

theorem special15 (w : World) : Calls Tryz.prog 139 #[.string ⟨#[49, 46, 53]⟩] w fun e w' => e = .returned (.tuple #[.float .f64 0, .int .i64 0, .bool false]) ∧ w = w' :=
  calls_run 86 Tryz.func139 (fun _ => by kernel_rfl) (by kernel_rfl) (by kernel_rfl) (by kernel_rfl) (by kernel_rfl) (by kernel_rfl)
theorem read15 (w : World) : Calls Tryz.prog 140 #[.string ⟨#[49, 46, 53]⟩] w fun e w' => e = .returned (.tuple #[.int .u64 15, .int .i64 (-1), .bool false, .bool false, .bool false, .int .i64 3, .bool true]) ∧ w = w' :=
  calls_run 473 Tryz.func140 (fun _ => by kernel_rfl) (by kernel_rfl) (by kernel_rfl) (by kernel_rfl) (by kernel_rfl) (by kernel_rfl)
theorem special15e3 (w : World) : Calls Tryz.prog 139 #[.string ⟨#[49, 46, 53, 101, 51]⟩] w fun e w' => e = .returned (.tuple #[.float .f64 0, .int .i64 0, .bool false]) ∧ w = w' :=
  calls_run 86 Tryz.func139 (fun _ => by kernel_rfl) (by kernel_rfl) (by kernel_rfl) (by kernel_rfl) (by kernel_rfl) (by kernel_rfl)
theorem read15e3 (w : World) : Calls Tryz.prog 140 #[.string ⟨#[49, 46, 53, 101, 51]⟩] w fun e w' => e = .returned (.tuple #[.int .u64 15, .int .i64 2, .bool false, .bool false, .bool false, .int .i64 5, .bool true]) ∧ w = w' :=
  calls_run 709 Tryz.func140 (fun _ => by kernel_rfl) (by kernel_rfl) (by kernel_rfl) (by kernel_rfl) (by kernel_rfl) (by kernel_rfl)
theorem bool2false (w : World) : Calls Tryz.prog 148 #[.bool false] w fun e w' => e = .returned (.int .u64 0) ∧ w = w' :=
  calls_run 16 Tryz.func148 (fun _ => by kernel_rfl) (by kernel_rfl) (by kernel_rfl) (by kernel_rfl) (by kernel_rfl) (by kernel_rfl)
theorem isFloat15 (w : World) : Calls Tryz.prog 116 #[.string ⟨#[49, 46, 53]⟩] w fun e w' => e = .returned (.bool true) ∧ w = w' :=
  calls_run 332 Tryz.func116 (fun _ => by kernel_rfl) (by kernel_rfl) (by kernel_rfl) (by kernel_rfl) (by kernel_rfl) (by kernel_rfl)
theorem isFloat15e3 (w : World) : Calls Tryz.prog 116 #[.string ⟨#[49, 46, 53, 101, 51]⟩] w fun e w' => e = .returned (.bool true) ∧ w = w' :=
  calls_run 553 Tryz.func116 (fun _ => by kernel_rfl) (by kernel_rfl) (by kernel_rfl) (by kernel_rfl) (by kernel_rfl) (by kernel_rfl)
theorem isFloat15e0001 (w : World) : Calls Tryz.prog 116 #[.string ⟨#[49, 46, 53, 101, 48, 48, 48, 49]⟩] w fun e w' => e = .returned (.bool false) ∧ w = w' :=
  calls_run 646 Tryz.func116 (fun _ => by kernel_rfl) (by kernel_rfl) (by kernel_rfl) (by kernel_rfl) (by kernel_rfl) (by kernel_rfl)
end Go.Proofs.YtkpddjbdmjbefaaGreatDoor
