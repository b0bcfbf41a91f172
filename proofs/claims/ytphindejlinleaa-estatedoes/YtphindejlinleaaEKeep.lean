/-
  An estate that was made since a world, and blocks that its caller keeps beside it: the contracts of package estate, said so.
-/
import Derived.Test.YtphindejlinleaaLaws03
namespace Go.Proofs.Ytphindejlinleaa
open Go.ChangeShapes Go.WideShapes Go.ChangeAt Go.RowKit
set_option linter.unusedVariables false

/-- In w the estate b is in the state e; it was made since w0, nothing older has turned; the blocks K, which were made since, too, are not the estate's. -/
def EKeep (w0 w : World) (b bp : Nat) (K : Nat → Prop) (e : Est) : Prop :=
  ∃ O, EstAt w b bp O e ∧ (∀ x, O x → w0.heap.size ≤ x ∧ x < w.heap.size) ∧ (∀ x, K x → ¬ O x ∧ w0.heap.size ≤ x ∧ x < w.heap.size) ∧ Below w0.heap.size w0 w

section
variable {w0 w w' : World} {b bp : Nat} {K K' : Nat → Prop} {e e' : Est}

theorem EKeep.done (h : EKeep w0 w b bp K e) : Below w0.heap.size w0 w := by
  obtain ⟨O, h1, h2, h3, h4⟩ := h; exact h4
theorem EKeep.ok (h : EKeep w0 w b bp K e) : e.Ok := by
  obtain ⟨O, h1, h2, h3, h4⟩ := h; exact h1.2
theorem EKeep.cell0 (h : EKeep w0 w b bp K e) : w.cell? ⟨b, 0, none⟩ = some (.pointer (some ⟨bp, 0, none⟩)) := by
  obtain ⟨O, h1, h2, h3, h4⟩ := h; exact h1.1.cell0
theorem EKeep.sub (h : EKeep w0 w b bp K e) (hs : ∀ x, K' x → K x) : EKeep w0 w b bp K' e := by
  obtain ⟨O, h1, h2, h3, h4⟩ := h
  exact ⟨O, h1, h2, fun x hx => h3 x (hs x hx), h4⟩
theorem EKeep.drewN (h : EKeep w0 w b bp K e) (n : Nat) : EKeep w0 (w.drewN n) b bp K e := by
  obtain ⟨O, h1, h2, h3, h4⟩ := h
  exact ⟨O, ⟨h1.1.drewN n, h1.2⟩, h2, h3, ⟨h4.os, h4.tape, h4.output, h4.size, h4.block⟩⟩
theorem EKeep.drew (h : EKeep w0 w b bp K e) : EKeep w0 w.drew b bp K e := h.drewN 1
theorem EKeep.of_new {n : Nat} (h : EstAt w' b bp (fun x => w.heap.size ≤ x ∧ x < w'.heap.size) (Est.new n)) (k : Below w.heap.size w w') : EKeep w w' b bp (fun _ => False) (Est.new n) := ⟨_, h, fun _ h => h, fun _ h => h.elim, k⟩

/-- Behind a step of blocks that are the caller's, or new. -/
theorem EKeep.stepK {P P' : Nat → Prop} (h : EKeep w0 w b bp K e) (k : Step P P' w w') (hP : ∀ x, P x → K x) (hK : ∀ x, K' x → (K x ∨ w.heap.size ≤ x) ∧ x < w'.heap.size) : EKeep w0 w' b bp K' e := by
  obtain ⟨O, h1, h2, h3, h4⟩ := h
  have hz := k.size
  have hz0 := h4.size
  refine ⟨O, h1.step k (fun x hx hp => (h3 x (hP x hp)).1 hx), fun x hx => ⟨(h2 x hx).1, by have := (h2 x hx).2; omega⟩, ?_, h4.trans (k.below hz0 (fun x hx => (h3 x (hP x hx)).2.1))⟩
  intro x hx
  obtain ⟨h5, h6⟩ := hK x hx
  rcases h5 with h5 | h5
  · exact ⟨(h3 x h5).1, (h3 x h5).2.1, h6⟩
  · refine ⟨fun ho => ?_, by omega, h6⟩
    have := (h2 x ho).2; omega
theorem EKeep.lt (h : EKeep w0 w b bp K e) {x : Nat} (hx : K x) : x < w.heap.size := by
  obtain ⟨O, h1, h2, h3, h4⟩ := h; exact (h3 x hx).2.2
/-- New memory that the caller keeps. -/
theorem EKeep.alloc (h : EKeep w0 w b bp K e) (o : Obj) (hK : ∀ x, K' x → K x ∨ x = w.heap.size) : EKeep w0 (w.alloc o) b bp K' e :=
  h.stepK (Step.of_alloc (fun _ => False) w o) (fun _ h => h.elim) (fun x hx => by
    rcases hK x hx with h' | h'
    · exact ⟨Or.inl h', by have := h.lt h'; simp; omega⟩
    · exact ⟨Or.inr (by omega), by simp; omega⟩)
theorem EKeep.below (h : EKeep w0 w b bp K e) (k : Below w.heap.size w w') : EKeep w0 w' b bp K e :=
  h.stepK (Step.none_below k) (fun _ h => h.elim) (fun x hx => ⟨Or.inl hx, by have := h.lt hx; have := k.size; omega⟩)
theorem EKeep.setCell (h : EKeep w0 w b bp K e) (p : Addr) (v : Value) (hp : K p.block) : EKeep w0 (w.setCell p v) b bp K e :=
  h.stepK ((Step.refl K w).setCell hp v) (fun _ h => h) (fun x hx => ⟨Or.inl hx, by have := h.lt hx; simp; omega⟩)

/-- Behind a call of the estate's. -/
def EKept (w0 w w' : World) (b bp : Nat) (K : Nat → Prop) (e : Est) : Prop := EKeep w0 w' b bp K e ∧ ∀ x, K x → w'.heap[x]? = w.heap[x]?

theorem EKeep.next {O : Nat → Prop} (h2 : ∀ x, O x → w0.heap.size ≤ x ∧ x < w.heap.size) (h3 : ∀ x, K x → ¬ O x ∧ w0.heap.size ≤ x ∧ x < w.heap.size) (h4 : Below w0.heap.size w0 w)
    (k1 : EstMem w' b bp (grow O w w') e') (k2 : Step O (grow O w w') w w') (hok : e'.Ok) : EKept w0 w w' b bp K e' := by
  have hz := k2.size
  have hz0 := h4.size
  refine ⟨⟨_, ⟨k1, hok⟩, ?_, ?_, h4.trans (k2.below hz0 (fun x hx => (h2 x hx).1))⟩, fun x hx => k2.block x (h3 x hx).2.2 (h3 x hx).1⟩
  · intro x hx
    refine ⟨?_, hx.2⟩
    rcases hx.1 with h | h
    · exact (h2 x h).1
    · omega
  · intro x hx
    refine ⟨fun ho => ?_, (h3 x hx).2.1, by have := (h3 x hx).2.2; omega⟩
    rcases ho.1 with h | h
    · exact (h3 x hx).1 h
    · have := (h3 x hx).2.2; omega

theorem open_keep (h : EKeep w0 w b bp K e) : Calls Try.prog 30 #[.pointer (some ⟨b, 0, none⟩)] w fun r w' => r = .returned (.int .i64 e.openK) ∧ EKept w0 w w' b bp K e.opened := by
  obtain ⟨O, h1, h2, h3, h4⟩ := h
  refine (open_any w b bp O e h1.1).mono ?_
  rintro r w' ⟨rfl, k1, k2⟩
  exact ⟨rfl, EKeep.next h2 h3 h4 k1 k2 h1.2.opened⟩
theorem shut_keep (k : Int) (h : EKeep w0 w b bp K e) : Calls Try.prog 32 #[.pointer (some ⟨b, 0, none⟩), .int .i64 k] w fun r w' => r = .returned (.bool (e.has k)) ∧ EKept w0 w w' b bp K (e.shut k) := by
  obtain ⟨O, h1, h2, h3, h4⟩ := h
  refine (shut_any w b bp O e k h1).mono ?_
  rintro r w' ⟨rfl, k1, k2⟩
  exact ⟨rfl, EKeep.next h2 h3 h4 k1 k2 (h1.2.shut k)⟩
theorem get_keep (k n : Int) (h : EKeep w0 w b bp K e) : Calls Try.prog 34 #[.pointer (some ⟨b, 0, none⟩), .int .i64 k, .int .i64 n] w fun r w' => r = .returned (.tuple #[.int .i64 (e.getAt k n), .int .i64 (e.getCode k n)]) ∧ EKept w0 w w' b bp K (e.got k n) := by
  obtain ⟨O, h1, h2, h3, h4⟩ := h
  refine (get_any w b bp O e k n h1).mono ?_
  rintro r w' ⟨rfl, k1, k2⟩
  exact ⟨rfl, EKeep.next h2 h3 h4 k1 k2 (h1.2.got k n)⟩
theorem has_keep (k : Int) (h : EKeep w0 w b bp K e) : Calls Try.prog 36 #[.pointer (some ⟨b, 0, none⟩), .int .i64 k] w fun r w' => r = .returned (.bool (e.has k)) ∧ w' = w := by
  obtain ⟨O, h1, h2, h3, h4⟩ := h
  exact has_any w b bp O e k h1.1
theorem count_keep (h : EKeep w0 w b bp K e) : Calls Try.prog 38 #[.pointer (some ⟨b, 0, none⟩)] w fun r w' => r = .returned (.int .i64 e.count) ∧ w' = w := by
  obtain ⟨O, h1, h2, h3, h4⟩ := h
  exact count_any w b bp O e h1.1
theorem efree_keep (h : EKeep w0 w b bp K e) : Calls Try.prog 24 #[.pointer (some ⟨bp, 0, none⟩)] w fun r w' => r = .returned (.int .i64 e.p.free) ∧ ∃ m, w' = w.drewN m := by
  obtain ⟨O, h1, h2, h3, h4⟩ := h
  exact efree_any w b bp O e h1.1
theorem epages_keep (k : Int) (h : EKeep w0 w b bp K e) : Calls Try.prog 41 #[.pointer (some ⟨b, 0, none⟩), .int .i64 k] w fun r w' => ∃ a cap, r = .returned (.slice a (if e.has k then e.pagesAt k.toNat else []).length cap) ∧ Row w' (fun x => w.heap.size ≤ x) 3 (.slice a (if e.has k then e.pagesAt k.toNat else []).length cap) (if e.has k then e.pagesAt k.toNat else []) ∧ Below w.heap.size w w' := by
  obtain ⟨O, h1, h2, h3, h4⟩ := h
  exact epages_any w b bp O e k h1
end

end Go.Proofs.Ytphindejlinleaa
