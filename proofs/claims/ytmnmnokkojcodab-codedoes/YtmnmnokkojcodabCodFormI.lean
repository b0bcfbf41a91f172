/-
  InsForm: the code of an instruction's form, whatever its kind.
-/
import Derived.Test.YtmnmnokkojcodabCodFormA
import Derived.Test.YtmnmnokkojcodabCodMem
namespace Go.Proofs.Ytmnmnokkojcodab
open Go.ChangeShapes Go.WideShapes Go.ChangeAt Go.RowKit
set_option linter.unusedVariables false
set_option linter.unusedSimpArgs false

theorem insForm_any (funcs : Nat) (x : MIns) (i : IP) (am : Option Addr) (cm : Nat) (w : World) :
    Rd Try.prog 21 #[.agg #[.slice am funcs cm], .agg #[.int .i64 x.op, .int .i64 x.a, .int .i64 x.b, .int .i64 x.c, .int .i64 x.k, .int .i64 x.n, .slice i.pR x.regs.length i.cR, .slice i.pA x.args.length i.cA]] w (.int .i64 (x.form funcs)) := by
  rw [MIns.form_eq]
  cases h : fieldsOf x.op with
  | none => exact insFNo h _ _ _ _ _ _ _ _ _ _ _ _ _ _ _
  | some p => obtain ⟨a, b, c, k, n, r, s⟩ := p; exact insFSome h _ _ _ _ _ _ _ _ _ _ _ _ _ _ _
end Go.Proofs.Ytmnmnokkojcodab
