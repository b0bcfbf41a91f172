/-
  What an estate does as its pool: Load and Store.
-/
import Derived.Test.YtphindejlinleaaEKeep
import Derived.Test.YtphindejlinleaaPoolWords
namespace Go.Proofs.Ytphindejlinleaa
open Go.ChangeShapes Go.WideShapes Go.ChangeAt Go.RowKit
set_option linter.unusedVariables false

theorem eload_any (w : World) (b bp : Nat) (O : Nat → Prop) (e : Est) (k : Int) (h : EstMem w b bp O e) :
    Calls Try.prog 21 #[.pointer (some ⟨bp, 0, none⟩), .int .i64 k] w fun r w' => r = .returned (.tuple #[.int .i64 (e.p.load k), .bool (e.p.place k)]) ∧ w' = w := by
  obtain ⟨L, g, h⟩ := h
  exact load_any w bp _ e.p k h.pool
theorem estore_any (w : World) (b bp : Nat) (O : Nat → Prop) (e : Est) (k x : Int) (h : EstMem w b bp O e) :
    Calls Try.prog 20 #[.pointer (some ⟨bp, 0, none⟩), .int .i64 k, .int .i64 x] w fun r w' => r = .returned (.bool (e.p.place k)) ∧ EstMem w' b bp (grow O w w') (e.store k x) ∧ Step O (grow O w w') w w' := by
  obtain ⟨L, g, h⟩ := h
  refine (store_any w bp _ e.p k x h.pool).mono ?_
  rintro r w' ⟨rfl, k1, k2⟩
  obtain ⟨q1, q2⟩ := h.stepPool k1 k2
  exact ⟨rfl, ⟨_, _, q1⟩, q2⟩

section
variable {w0 w w' : World} {b bp : Nat} {K K' : Nat → Prop} {e e' : Est}
theorem eload_keep (k : Int) (h : EKeep w0 w b bp K e) : Calls Try.prog 21 #[.pointer (some ⟨bp, 0, none⟩), .int .i64 k] w fun r w' => r = .returned (.tuple #[.int .i64 (e.p.load k), .bool (e.p.place k)]) ∧ w' = w := by
  obtain ⟨O, h1, h2, h3, h4⟩ := h
  exact eload_any w b bp O e k h1.1
theorem estore_keep (k x : Int) (h : EKeep w0 w b bp K e) : Calls Try.prog 20 #[.pointer (some ⟨bp, 0, none⟩), .int .i64 k, .int .i64 x] w fun r w' => r = .returned (.bool (e.p.place k)) ∧ EKept w0 w w' b bp K (e.store k x) := by
  obtain ⟨O, h1, h2, h3, h4⟩ := h
  refine (estore_any w b bp O e k x h1.1).mono ?_
  rintro r w' ⟨rfl, k1, k2⟩
  exact ⟨rfl, EKeep.next h2 h3 h4 k1 k2 (h1.2.store k x)⟩
end

end Go.Proofs.Ytphindejlinleaa
