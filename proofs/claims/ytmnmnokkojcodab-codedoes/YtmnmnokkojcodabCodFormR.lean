/-
  FieldsOf, as a reader.
-/
import Derived.Test.YtmnmnokkojcodabCodForm
import Derived.Test.YtmnmnokkojcodabFrD
import Derived.Test.YtmnmnokkojcodabFrQ
namespace Go.Proofs.Ytmnmnokkojcodab
open Go.ChangeShapes Go.WideShapes Go.ChangeAt Go.RowKit
set_option linter.unusedVariables false
set_option linter.unusedSimpArgs false

theorem rdFieldsSome {op : Int} {fa fb fc fk fn fr fs : Bool} (hop : fieldsOf op = some (fa, fb, fc, fk, fn, fr, fs)) (w : World) : Rd Try.prog 60 #[.int .i64 op] w (.tuple #[.agg #[.bool fa, .bool fb, .bool fc, .bool fk, .bool fn, .bool fr, .bool fs], .bool true]) := by
  have := fieldsOf_any op w
  rwa [show fieldsV op = .tuple #[.agg #[.bool fa, .bool fb, .bool fc, .bool fk, .bool fn, .bool fr, .bool fs], .bool true] from by unfold fieldsV; rw [hop]] at this
theorem rdFieldsNo {op : Int} (hop : fieldsOf op = none) (w : World) : Rd Try.prog 60 #[.int .i64 op] w (.tuple #[.agg #[.bool false, .bool false, .bool false, .bool false, .bool false, .bool false, .bool false], .bool false]) := by
  have := fieldsOf_any op w
  rwa [show fieldsV op = .tuple #[.agg #[.bool false, .bool false, .bool false, .bool false, .bool false, .bool false, .bool false], .bool false] from by unfold fieldsV; rw [hop]] at this
theorem insForm_d {lm : Nat} {op a b c k n : Int} {rl al : Nat} {fa fb fc fk fn fr fs d1 d2 d3 d4 d5 d6 d7 : Bool} (e : fieldsOf op = some (fa, fb, fc, fk, fn, fr, fs))
    (h1 : d1 = (!fa && a != 0)) (h2 : d2 = (d1 || (!fb && b != 0))) (h3 : d3 = (d2 || (!fc && c != 0))) (h4 : d4 = (d3 || (!fk && k != 0))) (h5 : d5 = (d4 || (!fn && n != 0))) (h6 : d6 = (d5 || (!fr && decide ((0 : Int) < (rl : Int))))) (h7 : d7 = (d6 || (!fs && decide ((0 : Int) < (al : Int))))) :
    insForm lm op a b c k n rl al = if d7 then 4
    else if op = 2 ∧ (k < 1 ∨ 9 < k) then 1
    else if op = 5 ∧ 8 < al then 2
    else if (op = 6 ∨ op = 7) ∧ (k < 0 ∨ 7 < k) then 1
    else if op = 14 ∧ (k < 0 ∨ (lm : Int) ≤ k) then 1
    else if op = 14 ∧ (6 < rl ∨ 8 < al) then 2
    else 0 := by
  subst h1 h2 h3 h4 h5 h6 h7
  simp only [insForm, e]
  have e1 : decide ((0 : Int) < (rl : Int)) = decide (0 < rl) := by simp
  have e2 : decide ((0 : Int) < (al : Int)) = decide (0 < al) := by simp
  rw [e1, e2]
end Go.Proofs.Ytmnmnokkojcodab
