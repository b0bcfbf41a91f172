/-
  A row that is filled by and by.
-/
import Derived.Test.YtmnmnokkojcodabFrN
namespace Go.Proofs.Ytmnmnokkojcodab
open Go.RowKit
set_option linter.unusedVariables false

theorem blk_setCells {B : Nat} {t : TypeId} : ∀ (vs : List Value) (w : World) (c : Array Value) (j : Nat), Blk w B c t → j + vs.length ≤ c.size → Blk (w.setCells B j vs) B (spliced c j vs) t
  | [], w, c, j, h, hs => by
    have : spliced c j [] = c := by unfold spliced; simp
    rw [this]; exact h
  | v :: vs, w, c, j, h, hs => by
    have := blk_setCells vs (w.setCell ⟨B, j, none⟩ v) (c.setIfInBounds j v) (j + 1) (blockSet h j v) (by simp at hs ⊢; omega)
    rw [spliced_cons _ _ _ _ hs] at this
    exact this
theorem below_setCells {B b : Nat} (hb : B ≤ b) : ∀ (vs : List Value) (w w0 : World) (j : Nat), Below B w0 w → Below B w0 (w.setCells b j vs)
  | [], w, w0, j, h => h
  | v :: vs, w, w0, j, h => below_setCells hb vs _ _ _ (h.setCell hb v)
theorem grown_setCells (w : World) (b j : Nat) (vs : List Value) : w.grownBy (w.setCells b j vs) (some b) := by
  have h := below_setCells (Nat.zero_le b) vs w w j (Below.refl 0 w)
  exact ⟨h.os, h.tape, h.output, h.size, fun k hk hne => setCells_other (fun e => hne (by rw [e])) vs j w⟩

section
variable {α : Type} {A : Lay α} {e : TypeId} {w : World} {lo g n : Nat} {l : List α} {xs : List Value}
/-- One more. -/
theorem ARow.fill (h : ARow A e w lo (.slice (some ⟨g, 0, none⟩) l.length n) l xs) {x : α} {ds : List Value} (hx : A.In w (fun k => lo ≤ k ∧ k ≠ g) x ds) (hq : l.length < n) :
    ARow A e (w.setCells g (l.length * A.size) ds) lo (.slice (some ⟨g, 0, none⟩) (l.length + 1) n) (l ++ [x]) (xs ++ ds) := by
  have hds := A.len hx
  refine ARow.push h (Lay.mono hx (fun k hk _ => ⟨hk.1, fun e => hk.2 (by simpa [Value.ownBlock] using e.symm)⟩)) (grown_setCells w g _ ds) (.inl rfl) ?_
  obtain ⟨hl, h2⟩ := h.own
  rcases h2 with ⟨h', _⟩ | ⟨g', cap', cur, h', hb, hg, hnc, hcm, hcs, htake⟩
  · simp at h'
  · simp only [Value.slice.injEq, Option.some.injEq, Addr.mk.injEq, and_true, true_and] at h'
    obtain ⟨rfl, rfl⟩ := h'
    have hm : (l.length + 1) * A.size ≤ n * A.size := Nat.mul_le_mul_right _ hq
    rw [Nat.add_mul, Nat.one_mul] at hm
    refine ⟨by rw [List.length_append, hl, hds, Nat.add_mul, Nat.one_mul], .inr ⟨g, n, spliced cur (l.length * A.size) ds, rfl, hb, blk_setCells ds w cur _ hg (by omega), hq, hcm, ?_, ?_⟩⟩
    · rw [← hcs]; unfold spliced; simp; omega
    · unfold spliced
      rw [htake, Nat.add_mul, Nat.one_mul]
      rw [show l.length * A.size + A.size = (xs ++ ds).length by rw [List.length_append, hl, hds], List.toList_toArray, ← List.append_assoc]
      exact List.take_left' rfl
end
end Go.Proofs.Ytmnmnokkojcodab
