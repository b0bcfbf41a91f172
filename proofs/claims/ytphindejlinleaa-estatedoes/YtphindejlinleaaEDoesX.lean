/-
  The pair of estates and the step at hand, for the walk through EstateDoes.
-/
import Derived.Test.YtphindejlinleaaLBoth
import Derived.Test.YtphindejlinleaaArgs
namespace Go.Proofs.Ytphindejlinleaa
open Go.ChangeShapes Go.WideShapes Go.ChangeAt Go.RowKit
set_option linter.unusedVariables false

/-- Both estates, and the step at hand. -/
def LX (w1 w : World) (b bp c cp gl X : Nat) (s t : Est) (x y z : Int) : Prop :=
  LBoth w1 w b bp c cp gl (fun q => q = X) s t ∧ w.heap[X]? = some (.cells #[.int .i64 x, .int .i64 y, .int .i64 z] 57 (0, 0))
theorem LX.next {w1 w w' : World} {b bp c cp gl X : Nat} {s t s' t' : Est} {x y z : Int} (h : LX w1 w b bp c cp gl X s t x y z) (k : LKept w1 w w' b bp c cp gl (fun q => q = X) s' t') : LX w1 w' b bp c cp gl X s' t' x y z := ⟨k.1, (k.2 X rfl).trans h.2⟩
theorem LX.drewN {w1 w : World} {b bp c cp gl X : Nat} {s t : Est} {x y z : Int} (h : LX w1 w b bp c cp gl X s t x y z) (m : Nat) : LX w1 (w.drewN m) b bp c cp gl X s t x y z := ⟨h.1.drewN m, h.2⟩
theorem LX.below {w1 w w' : World} {b bp c cp gl X : Nat} {s t : Est} {x y z : Int} (h : LX w1 w b bp c cp gl X s t x y z) (k : Below w.heap.size w w') : LX w1 w' b bp c cp gl X s t x y z := ⟨h.1.below k, (k.block X (lt_of_block h.2)).trans h.2⟩
theorem LX.at1 {w1 w : World} {b bp c cp gl X : Nat} {s t : Est} {x y z : Int} (h : LX w1 w b bp c cp gl X s t x y z) : w.cell? ⟨X, 1, none⟩ = some (.int .i64 y) := cellOf h.2 1 _ rfl
theorem LX.at2 {w1 w : World} {b bp c cp gl X : Nat} {s t : Est} {x y z : Int} (h : LX w1 w b bp c cp gl X s t x y z) : w.cell? ⟨X, 2, none⟩ = some (.int .i64 z) := cellOf h.2 2 _ rfl
theorem LX.at0 {w1 w : World} {b bp c cp gl X : Nat} {s t : Est} {x y z : Int} (h : LX w1 w b bp c cp gl X s t x y z) : w.cell? ⟨X, 0, none⟩ = some (.int .i64 x) := cellOf h.2 0 _ rfl

theorem pages_none {w0 w : World} {b bp c cp gl : Nat} {K : Nat → Prop} {s t : Est} (k : Int) (h : LBoth w0 w b bp c cp gl K s t) (hh : s.has k = false) : Calls Try.prog 41 #[.pointer (some ⟨b, 0, none⟩), .int .i64 k] w fun r w' => r = .returned (.slice none 0 0) ∧ w' = w := by
  have C : Hid (Calls Try.prog 36 #[.pointer (some ⟨b, 0, none⟩), .int .i64 k] w fun e' w' => e' = .returned (.bool false) ∧ w' = w) := by have := has_lb k h; rw [hh] at this; exact this
  clear h hh
  go_enter Try.func41, Try.ntmps41
  go_wp2_with (go_at_call 36; refine (C.out).mono ?_; rintro e w' ⟨rfl, rfl⟩)
  go_ret
  exact ⟨rfl, rfl⟩

theorem belowN {B : Nat} {a w : World} (h : Below B a w) (n : Nat) : Below B a (w.drewN n) := ⟨h.os, h.tape, h.output, h.size, h.block⟩

end Go.Proofs.Ytphindejlinleaa
