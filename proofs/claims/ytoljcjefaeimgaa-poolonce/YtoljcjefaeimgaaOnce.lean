/-
  The pool and the list of the pages that are taken, side by side in one memory: the contracts of the pool, said of the pair.
-/
import Derived.Test.YtoljcjefaeimgaaLaws02
import Derived.Test.YtoljcjefaeimgaaOnceSt
namespace Go.Proofs.Ytoljcjefaeimgaa
open Go.ChangeShapes Go.WideShapes Go.ChangeAt Go.RowKit
set_option linter.unusedVariables false

/-- In w the pool b is in the state s, the slice v holds T; both were made since w0, nothing older has turned. -/
def Once (w0 w : World) (b : Nat) (s : St) (v : Value) (T : List Int) : Prop :=
  ∃ P Q : Nat → Prop, PoolAt w b P s ∧ Row w Q 3 v T ∧ (∀ x, P x → ¬ Q x) ∧ (∀ x, P x → w0.heap.size ≤ x ∧ x < w.heap.size) ∧ (∀ x, Q x → w0.heap.size ≤ x ∧ x < w.heap.size) ∧ Below w0.heap.size w0 w

section
variable {w0 w w' : World} {b : Nat} {s s' : St} {v : Value} {T : List Int} {P Q P' : Nat → Prop}

theorem Once.done (h : Once w0 w b s v T) : Below w0.heap.size w0 w := by
  obtain ⟨P, Q, h1, h2, h3, h4, h5, h6⟩ := h; exact h6
theorem Once.ok (h : Once w0 w b s v T) : s.Ok := by
  obtain ⟨P, Q, h1, h2, h3, h4, h5, h6⟩ := h; exact h1.ok
theorem Once.row (h : Once w0 w b s v T) : ∃ Q, Row w Q 3 v T := by
  obtain ⟨P, Q, h1, h2, h3, h4, h5, h6⟩ := h; exact ⟨Q, h2⟩
theorem Once.drewN (h : Once w0 w b s v T) (n : Nat) : Once w0 (w.drewN n) b s v T := by
  obtain ⟨P, Q, h1, h2, h3, h4, h5, h6⟩ := h
  exact ⟨P, Q, h1, h2, h3, h4, h5, ⟨h6.os, h6.tape, h6.output, h6.size, h6.block⟩⟩
theorem Once.drew (h : Once w0 w b s v T) : Once w0 w.drew b s v T := h.drewN 1

theorem Once.stepP (h1 : PoolAt w b P s) (h2 : Row w Q 3 v T) (h3 : ∀ x, P x → ¬ Q x) (h4 : ∀ x, P x → w0.heap.size ≤ x ∧ x < w.heap.size) (h5 : ∀ x, Q x → w0.heap.size ≤ x ∧ x < w.heap.size) (h6 : Below w0.heap.size w0 w)
    (k1 : PoolAt w' b P' s') (k2 : Step P P' w w') (k3 : ∀ x, P' x → x < w'.heap.size) : Once w0 w' b s' v T := by
  have hz := h6.size
  have hz2 := k2.size
  refine ⟨P', Q, k1, h2.step k2 (fun x hq hp => h3 x hp hq), ?_, ?_, ?_, h6.trans (k2.below hz (fun x hx => (h4 x hx).1))⟩
  · intro x hx hq
    rcases k2.own x hx with h | h
    · exact h3 x h hq
    · have := (h5 x hq).2; omega
  · intro x hx
    refine ⟨?_, k3 x hx⟩
    rcases k2.own x hx with h | h
    · exact (h4 x h).1
    · omega
  · exact fun x hx => ⟨(h5 x hx).1, by have := (h5 x hx).2; omega⟩

theorem liftAll (hlt : ∀ x, P x → w0.heap.size ≤ x ∧ x < w.heap.size) (h : w.heap.size ≤ w'.heap.size) : ∀ x, P x → x < w'.heap.size := fun x hx => by have := (hlt x hx).2; omega

theorem take_once (h : Once w0 w b s v T) : Calls Try.prog 14 #[.pointer (some ⟨b, 0, none⟩)] w fun e w' => e = .returned (.int .i64 s.nextK) ∧ Once w0 w' b s.take v T := by
  obtain ⟨P, Q, h1, h2, h3, h4, h5, h6⟩ := h
  refine (take_any w b P s h1).mono ?_
  rintro e w' ⟨rfl, k1, k2⟩
  exact ⟨rfl, Once.stepP h1 h2 h3 h4 h5 h6 k1 k2 (liftAll h4 k2.size)⟩
theorem give_once (k : Int) (h : Once w0 w b s v T) : Calls Try.prog 16 #[.pointer (some ⟨b, 0, none⟩), .int .i64 k] w fun e w' => e = .returned (.bool (s.took k)) ∧ Once w0 w' b (s.give k) v T := by
  obtain ⟨P, Q, h1, h2, h3, h4, h5, h6⟩ := h
  refine (give_any w b P s k h1).mono ?_
  rintro e w' ⟨rfl, k1, k2⟩
  exact ⟨rfl, Once.stepP h1 h2 h3 h4 h5 h6 k1 k2 (fun x hx => hx.2)⟩
theorem store_once (k x : Int) (h : Once w0 w b s v T) : Calls Try.prog 18 #[.pointer (some ⟨b, 0, none⟩), .int .i64 k, .int .i64 x] w fun e w' => e = .returned (.bool (s.place k)) ∧ Once w0 w' b (s.store k x) v T := by
  obtain ⟨P, Q, h1, h2, h3, h4, h5, h6⟩ := h
  refine (store_any w b P s k x h1).mono ?_
  rintro e w' ⟨rfl, k1, k2⟩
  exact ⟨rfl, Once.stepP h1 h2 h3 h4 h5 h6 k1 k2 (liftAll h4 k2.size)⟩
theorem load_once (k : Int) (h : Once w0 w b s v T) : Calls Try.prog 19 #[.pointer (some ⟨b, 0, none⟩), .int .i64 k] w fun e w' => e = .returned (.tuple #[.int .i64 (s.load k), .bool (s.place k)]) ∧ w' = w := by
  obtain ⟨P, Q, h1, h2, h3, h4, h5, h6⟩ := h
  exact load_any w b P s k h1
theorem free_once (h : Once w0 w b s v T) : Calls Try.prog 22 #[.pointer (some ⟨b, 0, none⟩)] w fun e w' => e = .returned (.int .i64 s.free) ∧ ∃ m, w' = w.drewN m := by
  obtain ⟨P, Q, h1, h2, h3, h4, h5, h6⟩ := h
  exact free_any w b P s h1
theorem in_once (k : Int) (hl : T.length ≤ 1000) (h : Once w0 w b s v T) : Calls Try.prog 24 #[v, .int .i64 k] w fun e w' => e = .returned (.bool (hasB T k)) ∧ w' = w := by
  obtain ⟨P, Q, h1, h2, h3, h4, h5, h6⟩ := h
  exact in_any w Q v T k h2 hl

/-- Behind a law on append: one more is taken. -/
theorem Once.push {w1 : World} {k : Int} {g cap : Nat} {o : Obj} (h : Once w0 w b s v T) (h1 : w1.ownsRow 0 3 1 (.slice (some ⟨g, 0, none⟩) (T.length + 1) cap) (T.length + 1) (T.map (Value.int .i64) ++ [.int .i64 k]))
    (hgrow : (w.alloc o).grownBy w1 v.ownBlock) (hat : v.ownBlock = some g ∨ g = w.heap.size + 1) (hlt : g < w1.heap.size) : Once w0 w1 b s (.slice (some ⟨g, 0, none⟩) (T.length + 1) cap) (T ++ [k]) := by
  obtain ⟨P, Q, p1, p2, p3, p4, p5, p6⟩ := h
  have hsz : w.heap.size + 1 ≤ w1.heap.size := by have := hgrow.size; simpa using this
  have hz := p6.size
  have keep : ∀ x, x < w.heap.size → v.ownBlock ≠ some x → w1.heap[x]? = w.heap[x]? := fun x hx hne =>
    (hgrow.block x (by simp; omega) (fun e => hne e.symm)).trans (Below.heap_alloc _ _ _ hx)
  have S : Step Q Q w w1 := ⟨hgrow.os, hgrow.tape, hgrow.output, by omega, fun x hx hn => keep x hx (fun e => hn (p2.2 x e)), fun x hx => Or.inl hx⟩
  have hrow := p2.pushed (o := o) h1 hat hlt (fun x => (Q x ∨ w.heap.size ≤ x) ∧ x < w1.heap.size) (fun x h h' => ⟨h, h'⟩)
  refine ⟨P, _, p1.step S p3, hrow, ?_, ?_, ?_, p6.trans (S.below hz (fun x hx => (p5 x hx).1))⟩
  · rintro x hp ⟨h | h, _⟩
    · exact p3 x hp h
    · have := (p4 x hp).2; omega
  · exact fun x hx => ⟨(p4 x hx).1, by have := (p4 x hx).2; omega⟩
  · rintro x ⟨h | h, h'⟩
    · exact ⟨(p5 x h).1, h'⟩
    · exact ⟨by omega, h'⟩

/-- Another list, of blocks that were made since. -/
theorem Once.other {u : Value} {U : List Int} (h : Once w0 w b s v T) (k : Below w.heap.size w w') (hu : w'.ownsRow w.heap.size 3 1 u U.length (U.map (Value.int .i64))) : Once w0 w' b s u U := by
  obtain ⟨P, Q, p1, p2, p3, p4, p5, p6⟩ := h
  have hz := k.size
  have hz0 := p6.size
  have hge : ∀ x, u.ownBlock = some x → w.heap.size ≤ x ∧ x < w'.heap.size := by
    intro x hx
    obtain ⟨_, e | ⟨g', cap', cur, e, hge, hh, _⟩⟩ := hu
    · rw [e.1] at hx; simp [Value.ownBlock] at hx
    · rw [e] at hx; simp [Value.ownBlock] at hx; subst hx; exact ⟨hge, lt_of_block hh⟩
  refine ⟨P, fun x => w.heap.size ≤ x ∧ x < w'.heap.size, p1.step (Step.none_below k) (fun _ _ h => h), ⟨?_, fun x hx => hge x hx⟩, ?_, ?_, ?_, p6.trans (k.mono hz0)⟩
  · obtain ⟨h3, h4⟩ := hu
    refine ⟨h3, ?_⟩
    rcases h4 with h4 | ⟨g', cap', cur, hv, _, r⟩
    · exact Or.inl h4
    · exact Or.inr ⟨g', cap', cur, hv, Nat.zero_le _, r⟩
  · rintro x hp ⟨h, _⟩; have := (p4 x hp).2; omega
  · exact fun x hx => ⟨(p4 x hx).1, by have := (p4 x hx).2; omega⟩
  · rintro x ⟨h, h'⟩; exact ⟨by omega, h'⟩
end

end Go.Proofs.Ytoljcjefaeimgaa
