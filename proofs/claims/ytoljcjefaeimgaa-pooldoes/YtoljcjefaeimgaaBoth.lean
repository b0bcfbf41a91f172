/-
  The pool and the document's pool side by side in one memory, neither touching the other nor what the caller keeps: the contracts of both, said of the pair.
-/
import Derived.Test.YtoljcjefaeimgaaLaws02
namespace Go.Proofs.Ytoljcjefaeimgaa
open Go.ChangeShapes Go.WideShapes Go.ChangeAt Go.RowKit
set_option linter.unusedVariables false

/-- In w the pool bp is in the state s, the document's pool br in the state t; both were made since w0, nothing older has turned; the blocks K are neither's. -/
def Both (w0 w : World) (bp br : Nat) (K : Nat → Prop) (s t : St) : Prop :=
  ∃ P R : Nat → Prop, PoolAt w bp P s ∧ PagesAt w br R t ∧ (∀ x, P x → ¬ R x) ∧ (∀ x, P x → w0.heap.size ≤ x ∧ x < w.heap.size) ∧ (∀ x, R x → w0.heap.size ≤ x ∧ x < w.heap.size) ∧
    (∀ x, K x → ¬ P x ∧ ¬ R x ∧ x < w.heap.size) ∧ Below w0.heap.size w0 w

theorem Both.done {w0 w : World} {bp br : Nat} {K : Nat → Prop} {s t : St} (h : Both w0 w bp br K s t) : Below w0.heap.size w0 w := by
  obtain ⟨P, R, h1, h2, h3, h4, h5, h6, h7⟩ := h; exact h7
theorem Both.okP {w0 w : World} {bp br : Nat} {K : Nat → Prop} {s t : St} (h : Both w0 w bp br K s t) : s.Ok := by
  obtain ⟨P, R, h1, h2, h3, h4, h5, h6, h7⟩ := h; exact h1.ok
theorem Both.drewN {w0 w : World} {bp br : Nat} {K : Nat → Prop} {s t : St} (h : Both w0 w bp br K s t) (n : Nat) : Both w0 (w.drewN n) bp br K s t := by
  obtain ⟨P, R, h1, h2, h3, h4, h5, h6, h7⟩ := h
  exact ⟨P, R, h1, h2, h3, h4, h5, h6, ⟨h7.os, h7.tape, h7.output, h7.size, h7.block⟩⟩
theorem Both.drew {w0 w : World} {bp br : Nat} {K : Nat → Prop} {s t : St} (h : Both w0 w bp br K s t) : Both w0 w.drew bp br K s t := h.drewN 1
theorem Both.forget {w0 w : World} {bp br : Nat} {K : Nat → Prop} {s t : St} (h : Both w0 w bp br K s t) : Both w0 w bp br (fun _ => False) s t := by
  obtain ⟨P, R, h1, h2, h3, h4, h5, h6, h7⟩ := h
  exact ⟨P, R, h1, h2, h3, h4, h5, fun _ h => h.elim, h7⟩
/-- Behind a call that makes memory alone. -/
theorem Both.below {w0 w w' : World} {bp br : Nat} {K : Nat → Prop} {s t : St} (h : Both w0 w bp br K s t) (k : Below w.heap.size w w') : Both w0 w' bp br K s t := by
  obtain ⟨P, R, h1, h2, h3, h4, h5, h6, h7⟩ := h
  have hs := k.size
  exact ⟨P, R, h1.step (Step.none_below k) (fun _ _ h => h), h2.step (Step.none_below k) (fun _ _ h => h), h3, fun x hx => ⟨(h4 x hx).1, by have := (h4 x hx).2; omega⟩, fun x hx => ⟨(h5 x hx).1, by have := (h5 x hx).2; omega⟩,
    fun x hx => ⟨(h6 x hx).1, (h6 x hx).2.1, by have := (h6 x hx).2.2; omega⟩, h7.trans (k.mono h7.size)⟩
/-- A new block that the caller keeps. -/
theorem Both.alloc {w0 w : World} {bp br : Nat} {s t : St} (h : Both w0 w bp br (fun _ => False) s t) (o : Obj) : Both w0 (w.alloc o) bp br (fun x => x = w.heap.size) s t := by
  obtain ⟨P, R, h1, h2, h3, h4, h5, h6, h7⟩ := h.below ((Below.refl _ _).alloc (Nat.le_refl _) o)
  obtain ⟨P', R', g1, g2, g3, g4, g5, g6, g7⟩ := h
  have k : Below w.heap.size w (w.alloc o) := (Below.refl _ _).alloc (Nat.le_refl _) o
  refine ⟨P', R', g1.step (Step.none_below k) (fun _ _ h => h), g2.step (Step.none_below k) (fun _ _ h => h), g3, fun x hx => ⟨(g4 x hx).1, by have := (g4 x hx).2; simp; omega⟩, fun x hx => ⟨(g5 x hx).1, by have := (g5 x hx).2; simp; omega⟩, ?_, h7⟩
  rintro x rfl
  exact ⟨fun h => by have := (g4 _ h).2; omega, fun h => by have := (g5 _ h).2; omega, by simp⟩

/-- What a pair's call leaves. -/
def Kept (w0 w w' : World) (bp br : Nat) (K : Nat → Prop) (s t : St) : Prop := Both w0 w' bp br K s t ∧ ∀ x, K x → w'.heap[x]? = w.heap[x]?

section
variable {w0 w w' : World} {bp br : Nat} {K P R P' R' : Nat → Prop} {s s' t t' : St}

/-- A step of the pool's. -/
theorem Both.stepP (h1 : PoolAt w bp P s) (h2 : PagesAt w br R t) (h3 : ∀ x, P x → ¬ R x) (h4 : ∀ x, P x → w0.heap.size ≤ x ∧ x < w.heap.size) (h5 : ∀ x, R x → w0.heap.size ≤ x ∧ x < w.heap.size)
    (h6 : ∀ x, K x → ¬ P x ∧ ¬ R x ∧ x < w.heap.size) (h7 : Below w0.heap.size w0 w) (k1 : PoolAt w' bp P' s') (k2 : Step P P' w w') (k3 : ∀ x, P' x → x < w'.heap.size) : Kept w0 w w' bp br K s' t := by
  have hz := h7.size
  have hz2 := k2.size
  refine ⟨⟨P', R, k1, h2.step k2 (fun x hr hp => h3 x hp hr), ?_, ?_, ?_, ?_, h7.trans (k2.below hz (fun x hx => (h4 x hx).1))⟩, fun x hx => k2.block x (h6 x hx).2.2 (h6 x hx).1⟩
  · intro x hx hr
    rcases k2.own x hx with h | h
    · exact h3 x h hr
    · have := (h5 x hr).2; omega
  · intro x hx
    refine ⟨?_, k3 x hx⟩
    rcases k2.own x hx with h | h
    · exact (h4 x h).1
    · omega
  · exact fun x hx => ⟨(h5 x hx).1, by have := (h5 x hx).2; omega⟩
  · intro x hx
    refine ⟨fun hp => ?_, (h6 x hx).2.1, by have := (h6 x hx).2.2; omega⟩
    rcases k2.own x hp with h | h
    · exact (h6 x hx).1 h
    · have := (h6 x hx).2.2; omega

/-- A step of the document's pool. -/
theorem Both.stepR (h1 : PoolAt w bp P s) (h2 : PagesAt w br R t) (h3 : ∀ x, P x → ¬ R x) (h4 : ∀ x, P x → w0.heap.size ≤ x ∧ x < w.heap.size) (h5 : ∀ x, R x → w0.heap.size ≤ x ∧ x < w.heap.size)
    (h6 : ∀ x, K x → ¬ P x ∧ ¬ R x ∧ x < w.heap.size) (h7 : Below w0.heap.size w0 w) (k1 : PagesAt w' br R' t') (k2 : Step R R' w w') (k3 : ∀ x, R' x → x < w'.heap.size) : Kept w0 w w' bp br K s t' := by
  have hz := h7.size
  have hz2 := k2.size
  refine ⟨⟨P, R', h1.step k2 (fun x hp hr => h3 x hp hr), k1, ?_, ?_, ?_, ?_, h7.trans (k2.below hz (fun x hx => (h5 x hx).1))⟩, fun x hx => k2.block x (h6 x hx).2.2 (h6 x hx).2.1⟩
  · intro x hp hx
    rcases k2.own x hx with h | h
    · exact h3 x hp h
    · have := (h4 x hp).2; omega
  · exact fun x hx => ⟨(h4 x hx).1, by have := (h4 x hx).2; omega⟩
  · intro x hx
    refine ⟨?_, k3 x hx⟩
    rcases k2.own x hx with h | h
    · exact (h5 x h).1
    · omega
  · intro x hx
    refine ⟨(h6 x hx).1, fun hr => ?_, by have := (h6 x hx).2.2; omega⟩
    rcases k2.own x hr with h | h
    · exact (h6 x hx).2.1 h
    · have := (h6 x hx).2.2; omega

theorem lift_all (hlt : ∀ x, P x → w0.heap.size ≤ x ∧ x < w.heap.size) (h : w.heap.size ≤ w'.heap.size) : ∀ x, P x → x < w'.heap.size := fun x hx => by have := (hlt x hx).2; omega

theorem take_both (h : Both w0 w bp br K s t) : Calls Try.prog 14 #[.pointer (some ⟨bp, 0, none⟩)] w fun e w' => e = .returned (.int .i64 s.nextK) ∧ Kept w0 w w' bp br K s.take t := by
  obtain ⟨P, R, h1, h2, h3, h4, h5, h6, h7⟩ := h
  refine (take_any w bp P s h1).mono ?_
  rintro e w' ⟨rfl, k1, k2⟩
  exact ⟨rfl, Both.stepP h1 h2 h3 h4 h5 h6 h7 k1 k2 (lift_all h4 k2.size)⟩
theorem ptake_both (h : Both w0 w bp br K s t) : Calls Try.prog 15 #[.pointer (some ⟨br, 0, none⟩)] w fun e w' => e = .returned (.int .i64 t.nextK) ∧ Kept w0 w w' bp br K s t.take := by
  obtain ⟨P, R, h1, h2, h3, h4, h5, h6, h7⟩ := h
  refine (ptake_any w br R t h2).mono ?_
  rintro e w' ⟨rfl, k1, k2⟩
  exact ⟨rfl, Both.stepR h1 h2 h3 h4 h5 h6 h7 k1 k2 (lift_all h5 k2.size)⟩
theorem give_both (k : Int) (h : Both w0 w bp br K s t) : Calls Try.prog 16 #[.pointer (some ⟨bp, 0, none⟩), .int .i64 k] w fun e w' => e = .returned (.bool (s.took k)) ∧ Kept w0 w w' bp br K (s.give k) t := by
  obtain ⟨P, R, h1, h2, h3, h4, h5, h6, h7⟩ := h
  refine (give_any w bp P s k h1).mono ?_
  rintro e w' ⟨rfl, k1, k2⟩
  exact ⟨rfl, Both.stepP h1 h2 h3 h4 h5 h6 h7 k1 k2 (fun x hx => hx.2)⟩
theorem pgive_both (k : Int) (h : Both w0 w bp br K s t) : Calls Try.prog 17 #[.pointer (some ⟨br, 0, none⟩), .int .i64 k] w fun e w' => e = .returned (.bool (t.took k)) ∧ Kept w0 w w' bp br K s (t.give k) := by
  obtain ⟨P, R, h1, h2, h3, h4, h5, h6, h7⟩ := h
  refine (pgive_any w br R t k h2).mono ?_
  rintro e w' ⟨rfl, k1, k2⟩
  exact ⟨rfl, Both.stepR h1 h2 h3 h4 h5 h6 h7 k1 k2 (fun x hx => hx.2)⟩
theorem store_both (k x : Int) (h : Both w0 w bp br K s t) : Calls Try.prog 18 #[.pointer (some ⟨bp, 0, none⟩), .int .i64 k, .int .i64 x] w fun e w' => e = .returned (.bool (s.place k)) ∧ Kept w0 w w' bp br K (s.store k x) t := by
  obtain ⟨P, R, h1, h2, h3, h4, h5, h6, h7⟩ := h
  refine (store_any w bp P s k x h1).mono ?_
  rintro e w' ⟨rfl, k1, k2⟩
  exact ⟨rfl, Both.stepP h1 h2 h3 h4 h5 h6 h7 k1 k2 (lift_all h4 k2.size)⟩
theorem load_both (k : Int) (h : Both w0 w bp br K s t) : Calls Try.prog 19 #[.pointer (some ⟨bp, 0, none⟩), .int .i64 k] w fun e w' => e = .returned (.tuple #[.int .i64 (s.load k), .bool (s.place k)]) ∧ w' = w := by
  obtain ⟨P, R, h1, h2, h3, h4, h5, h6, h7⟩ := h
  exact load_any w bp P s k h1
theorem free_both (h : Both w0 w bp br K s t) : Calls Try.prog 22 #[.pointer (some ⟨bp, 0, none⟩)] w fun e w' => e = .returned (.int .i64 s.free) ∧ ∃ m, w' = w.drewN m := by
  obtain ⟨P, R, h1, h2, h3, h4, h5, h6, h7⟩ := h
  exact free_any w bp P s h1
theorem pfree_both (h : Both w0 w bp br K s t) : Calls Try.prog 23 #[.pointer (some ⟨br, 0, none⟩)] w fun e w' => e = .returned (.int .i64 t.free) ∧ ∃ m, w' = w.drewN m := by
  obtain ⟨P, R, h1, h2, h3, h4, h5, h6, h7⟩ := h
  exact pfree_any w br R t h2
theorem words_both (h : Both w0 w bp br K s t) : Calls Try.prog 21 #[.pointer (some ⟨bp, 0, none⟩)] w fun e w' => ∃ v, e = .returned v ∧ Longs w' v ((List.range (16 * s.pages)).map s.ws) ∧ Below w.heap.size w w' := by
  obtain ⟨P, R, h1, h2, h3, h4, h5, h6, h7⟩ := h
  refine (words_any w bp P s h1).mono ?_
  rintro e w' ⟨v, rfl, k1, k2⟩
  exact ⟨v, rfl, k1.longs, k2⟩

/-- What the law itself reads of the document's pool: its words; and what becomes of it when it stores one. -/
theorem Both.words (h : Both w0 w bp br K s t) : ∃ gw n, w.cell? ⟨br, 0, none⟩ = some (.slice (some ⟨gw, 0, none⟩) n n) ∧ n ≤ 16 * t.pages ∧ 16 * t.pages ≤ n ∧ gw < w.heap.size ∧
    Hid (Longs w (.slice (some ⟨gw, 0, none⟩) n n) ((List.range (16 * t.pages)).map t.ws) ∧ (∀ i, i < n → w.cell? ⟨gw, i, none⟩ = some (.int .i64 (t.ws i)) ∧ w.frozen? ⟨gw, i, none⟩ = false ∧ ∀ x, Kept w0 w (w.setCell ⟨gw, i, none⟩ (.int .i64 x)) bp br K s (t.store i x))) := by
  obtain ⟨P, R, h1, h2, h3, h4, h5, h6, h7⟩ := h
  have h2' := h2
  obtain ⟨gw, n, a, len, cap, c0, c1, c2, c3, hf, X⟩ := h2.cells
  have hn := X.out.1
  refine ⟨gw, n, c0, by omega, by omega, X.out.2.2.2.1.lt, ?_, ?_⟩
  · have := rowIs_longs (cap := n) X.out.2.2.2.1
    rw [← hn]; exact this
  · intro i hi
    refine ⟨X.out.2.2.2.1.cell hi, X.out.2.2.2.1.frozen i, fun x => ?_⟩
    obtain ⟨d1, d2, d3, d4⟩ := h2'.setWord c0 i (by omega) x
    have e : t.store i x = { t with ws := fun j => if (j : Int) = i then x else t.ws j } := by
      have hpl : t.place i = true := by simp [St.place]; omega
      simp [St.store, hpl]
    rw [e]
    have k2 : Step R R w (w.setCell ⟨gw, i, none⟩ (.int .i64 x)) := (Step.refl R w).setCell (p := ⟨gw, i, none⟩) d3 _
    exact Both.stepR h1 h2' h3 h4 h5 h6 h7 d4 k2 (lift_all h5 k2.size)
end

end Go.Proofs.Ytoljcjefaeimgaa
