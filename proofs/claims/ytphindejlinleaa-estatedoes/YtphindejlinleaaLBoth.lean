/-
  The estate and the document's estate side by side in one memory, neither touching the other nor what the caller keeps: the contracts of both, said of the pair.
-/
import Derived.Test.YtphindejlinleaaLands2
import Derived.Test.YtphindejlinleaaEstWords
import Derived.Test.YtphindejlinleaaPool2
namespace Go.Proofs.Ytphindejlinleaa
open Go.ChangeShapes Go.WideShapes Go.ChangeAt Go.RowKit
set_option linter.unusedVariables false

/-- In w the estate b is in the state s, the document's estate c in the state t; both were made since w0, nothing older has turned; the blocks K are neither's. -/
def LBoth (w0 w : World) (b bp c cp gl : Nat) (K : Nat → Prop) (s t : Est) : Prop :=
  ∃ P R : Nat → Prop, EstAt w b bp P s ∧ LandAt w c cp gl R t ∧ (∀ x, P x → ¬ R x) ∧ (∀ x, P x → w0.heap.size ≤ x ∧ x < w.heap.size) ∧ (∀ x, R x → w0.heap.size ≤ x ∧ x < w.heap.size) ∧
    (∀ x, K x → ¬ P x ∧ ¬ R x ∧ x < w.heap.size) ∧ Below w0.heap.size w0 w

section
variable {w0 w w' : World} {b bp c cp gl : Nat} {K P R P' R' : Nat → Prop} {s s' t t' : Est}

theorem LBoth.done (h : LBoth w0 w b bp c cp gl K s t) : Below w0.heap.size w0 w := by
  obtain ⟨P, R, h1, h2, h3, h4, h5, h6, h7⟩ := h; exact h7
theorem LBoth.ok (h : LBoth w0 w b bp c cp gl K s t) : s.Ok := by
  obtain ⟨P, R, h1, h2, h3, h4, h5, h6, h7⟩ := h; exact h1.2
theorem LBoth.okT (h : LBoth w0 w b bp c cp gl K s t) : t.Ok := by
  obtain ⟨P, R, h1, h2, h3, h4, h5, h6, h7⟩ := h; exact h2.2
theorem LBoth.cells (h : LBoth w0 w b bp c cp gl K s t) : w.cell? ⟨b, 0, none⟩ = some (.pointer (some ⟨bp, 0, none⟩)) ∧ w.cell? ⟨c, 0, none⟩ = some (.pointer (some ⟨cp, 0, none⟩)) ∧ w.cell? ⟨c, 1, none⟩ = some (.slice (some ⟨gl, 0, none⟩) 16 16) := by
  obtain ⟨P, R, h1, h2, h3, h4, h5, h6, h7⟩ := h
  exact ⟨h1.1.cell0, h2.1.words.1, h2.1.words.2⟩
theorem LBoth.drewN (h : LBoth w0 w b bp c cp gl K s t) (n : Nat) : LBoth w0 (w.drewN n) b bp c cp gl K s t := by
  obtain ⟨P, R, h1, h2, h3, h4, h5, h6, h7⟩ := h
  exact ⟨P, R, ⟨h1.1.drewN n, h1.2⟩, ⟨h2.1.drewN n, h2.2⟩, h3, h4, h5, h6, ⟨h7.os, h7.tape, h7.output, h7.size, h7.block⟩⟩
theorem LBoth.drew (h : LBoth w0 w b bp c cp gl K s t) : LBoth w0 w.drew b bp c cp gl K s t := h.drewN 1
theorem LBoth.forget (h : LBoth w0 w b bp c cp gl K s t) : LBoth w0 w b bp c cp gl (fun _ => False) s t := by
  obtain ⟨P, R, h1, h2, h3, h4, h5, h6, h7⟩ := h
  exact ⟨P, R, h1, h2, h3, h4, h5, fun _ h => h.elim, h7⟩
theorem LBoth.below (h : LBoth w0 w b bp c cp gl K s t) (k : Below w.heap.size w w') : LBoth w0 w' b bp c cp gl K s t := by
  obtain ⟨P, R, h1, h2, h3, h4, h5, h6, h7⟩ := h
  have hs := k.size
  exact ⟨P, R, h1.step (Step.none_below k) (fun _ _ h => h), ⟨h2.1.step (Step.none_below k) (fun _ _ h => h), h2.2⟩, h3, fun x hx => ⟨(h4 x hx).1, by have := (h4 x hx).2; omega⟩, fun x hx => ⟨(h5 x hx).1, by have := (h5 x hx).2; omega⟩,
    fun x hx => ⟨(h6 x hx).1, (h6 x hx).2.1, by have := (h6 x hx).2.2; omega⟩, h7.trans (k.mono h7.size)⟩
theorem LBoth.alloc (h : LBoth w0 w b bp c cp gl (fun _ => False) s t) (o : Obj) : LBoth w0 (w.alloc o) b bp c cp gl (fun x => x = w.heap.size) s t := by
  obtain ⟨P, R, g1, g2, g3, g4, g5, g6, g7⟩ := h
  have k : Below w.heap.size w (w.alloc o) := (Below.refl _ _).alloc (Nat.le_refl _) o
  refine ⟨P, R, g1.step (Step.none_below k) (fun _ _ h => h), ⟨g2.1.step (Step.none_below k) (fun _ _ h => h), g2.2⟩, g3, fun x hx => ⟨(g4 x hx).1, by have := (g4 x hx).2; simp; omega⟩, fun x hx => ⟨(g5 x hx).1, by have := (g5 x hx).2; simp; omega⟩, ?_, g7.trans (k.mono g7.size)⟩
  rintro x rfl
  exact ⟨fun h => by have := (g4 _ h).2; omega, fun h => by have := (g5 _ h).2; omega, by simp⟩

/-- What a pair's call leaves. -/
def LKept (w0 w w' : World) (b bp c cp gl : Nat) (K : Nat → Prop) (s t : Est) : Prop := LBoth w0 w' b bp c cp gl K s t ∧ ∀ x, K x → w'.heap[x]? = w.heap[x]?

theorem LBoth.stepP (h1 : EstAt w b bp P s) (h2 : LandAt w c cp gl R t) (h3 : ∀ x, P x → ¬ R x) (h4 : ∀ x, P x → w0.heap.size ≤ x ∧ x < w.heap.size) (h5 : ∀ x, R x → w0.heap.size ≤ x ∧ x < w.heap.size)
    (h6 : ∀ x, K x → ¬ P x ∧ ¬ R x ∧ x < w.heap.size) (h7 : Below w0.heap.size w0 w) (k1 : EstMem w' b bp (grow P w w') s') (k2 : Step P (grow P w w') w w') (hok : s'.Ok) : LKept w0 w w' b bp c cp gl K s' t := by
  have hz := h7.size
  have hz2 := k2.size
  refine ⟨⟨grow P w w', R, ⟨k1, hok⟩, ⟨h2.1.step k2 (fun x hr hp => h3 x hp hr), h2.2⟩, ?_, ?_, ?_, ?_, h7.trans (k2.below hz (fun x hx => (h4 x hx).1))⟩, fun x hx => k2.block x (h6 x hx).2.2 (h6 x hx).1⟩
  · intro x hx hr
    rcases k2.own x hx with h | h
    · exact h3 x h hr
    · have := (h5 x hr).2; omega
  · intro x hx
    refine ⟨?_, hx.2⟩
    rcases k2.own x hx with h | h
    · exact (h4 x h).1
    · omega
  · exact fun x hx => ⟨(h5 x hx).1, by have := (h5 x hx).2; omega⟩
  · intro x hx
    refine ⟨fun hp => ?_, (h6 x hx).2.1, by have := (h6 x hx).2.2; omega⟩
    rcases k2.own x hp with h | h
    · exact (h6 x hx).1 h
    · have := (h6 x hx).2.2; omega

theorem LBoth.stepR (h1 : EstAt w b bp P s) (h2 : LandAt w c cp gl R t) (h3 : ∀ x, P x → ¬ R x) (h4 : ∀ x, P x → w0.heap.size ≤ x ∧ x < w.heap.size) (h5 : ∀ x, R x → w0.heap.size ≤ x ∧ x < w.heap.size)
    (h6 : ∀ x, K x → ¬ P x ∧ ¬ R x ∧ x < w.heap.size) (h7 : Below w0.heap.size w0 w) (k1 : LandMem w' c cp gl (grow R w w') t') (k2 : Step R (grow R w w') w w') (hok : t'.Ok) : LKept w0 w w' b bp c cp gl K s t' := by
  have hz := h7.size
  have hz2 := k2.size
  refine ⟨⟨P, grow R w w', h1.step k2 (fun x hp hr => h3 x hp hr), ⟨k1, hok⟩, ?_, ?_, ?_, ?_, h7.trans (k2.below hz (fun x hx => (h5 x hx).1))⟩, fun x hx => k2.block x (h6 x hx).2.2 (h6 x hx).2.1⟩
  · intro x hp hx
    rcases k2.own x hx with h | h
    · exact h3 x hp h
    · have := (h4 x hp).2; omega
  · exact fun x hx => ⟨(h4 x hx).1, by have := (h4 x hx).2; omega⟩
  · intro x hx
    refine ⟨?_, hx.2⟩
    rcases k2.own x hx with h | h
    · exact (h5 x h).1
    · omega
  · intro x hx
    refine ⟨(h6 x hx).1, fun hr => ?_, by have := (h6 x hx).2.2; omega⟩
    rcases k2.own x hr with h | h
    · exact (h6 x hx).2.1 h
    · have := (h6 x hx).2.2; omega

theorem open_lb (h : LBoth w0 w b bp c cp gl K s t) : Calls Try.prog 30 #[.pointer (some ⟨b, 0, none⟩)] w fun r w' => r = .returned (.int .i64 s.openK) ∧ LKept w0 w w' b bp c cp gl K s.opened t := by
  obtain ⟨P, R, h1, h2, h3, h4, h5, h6, h7⟩ := h
  refine (open_any w b bp P s h1.1).mono ?_
  rintro r w' ⟨rfl, k1, k2⟩
  exact ⟨rfl, LBoth.stepP h1 h2 h3 h4 h5 h6 h7 k1 k2 h1.2.opened⟩
theorem lopen_lb (h : LBoth w0 w b bp c cp gl K s t) : Calls Try.prog 31 #[.pointer (some ⟨c, 0, none⟩)] w fun r w' => r = .returned (.int .i64 t.openK) ∧ LKept w0 w w' b bp c cp gl K s t.opened := by
  obtain ⟨P, R, h1, h2, h3, h4, h5, h6, h7⟩ := h
  refine (lopen_any w c cp gl R t h2.1).mono ?_
  rintro r w' ⟨rfl, k1, k2⟩
  exact ⟨rfl, LBoth.stepR h1 h2 h3 h4 h5 h6 h7 k1 k2 h2.2.opened⟩
theorem shut_lb (k : Int) (h : LBoth w0 w b bp c cp gl K s t) : Calls Try.prog 32 #[.pointer (some ⟨b, 0, none⟩), .int .i64 k] w fun r w' => r = .returned (.bool (s.has k)) ∧ LKept w0 w w' b bp c cp gl K (s.shut k) t := by
  obtain ⟨P, R, h1, h2, h3, h4, h5, h6, h7⟩ := h
  refine (shut_any w b bp P s k h1).mono ?_
  rintro r w' ⟨rfl, k1, k2⟩
  exact ⟨rfl, LBoth.stepP h1 h2 h3 h4 h5 h6 h7 k1 k2 (h1.2.shut k)⟩
theorem lshut_lb (k : Int) (h : LBoth w0 w b bp c cp gl K s t) : Calls Try.prog 33 #[.pointer (some ⟨c, 0, none⟩), .int .i64 k] w fun r w' => r = .returned (.bool (t.has k)) ∧ LKept w0 w w' b bp c cp gl K s (t.shut k) := by
  obtain ⟨P, R, h1, h2, h3, h4, h5, h6, h7⟩ := h
  refine (lshut_any w c cp gl R t k h2).mono ?_
  rintro r w' ⟨rfl, k1, k2⟩
  exact ⟨rfl, LBoth.stepR h1 h2 h3 h4 h5 h6 h7 k1 k2 (h2.2.shut k)⟩
theorem get_lb (k n : Int) (h : LBoth w0 w b bp c cp gl K s t) : Calls Try.prog 34 #[.pointer (some ⟨b, 0, none⟩), .int .i64 k, .int .i64 n] w fun r w' => r = .returned (.tuple #[.int .i64 (s.getAt k n), .int .i64 (s.getCode k n)]) ∧ LKept w0 w w' b bp c cp gl K (s.got k n) t := by
  obtain ⟨P, R, h1, h2, h3, h4, h5, h6, h7⟩ := h
  refine (get_any w b bp P s k n h1).mono ?_
  rintro r w' ⟨rfl, k1, k2⟩
  exact ⟨rfl, LBoth.stepP h1 h2 h3 h4 h5 h6 h7 k1 k2 (h1.2.got k n)⟩
theorem lget_lb (k n : Int) (h : LBoth w0 w b bp c cp gl K s t) : Calls Try.prog 35 #[.pointer (some ⟨c, 0, none⟩), .int .i64 k, .int .i64 n] w fun r w' => r = .returned (.tuple #[.int .i64 (t.getAt k n), .int .i64 (t.getCode k n)]) ∧ LKept w0 w w' b bp c cp gl K s (t.got k n) := by
  obtain ⟨P, R, h1, h2, h3, h4, h5, h6, h7⟩ := h
  refine (lget_any w c cp gl R t k n h2).mono ?_
  rintro r w' ⟨rfl, k1, k2⟩
  exact ⟨rfl, LBoth.stepR h1 h2 h3 h4 h5 h6 h7 k1 k2 (h2.2.got k n)⟩
theorem store_lb (k n : Int) (h : LBoth w0 w b bp c cp gl K s t) : Calls Try.prog 20 #[.pointer (some ⟨bp, 0, none⟩), .int .i64 k, .int .i64 n] w fun r w' => r = .returned (.bool (s.p.place k)) ∧ LKept w0 w w' b bp c cp gl K (s.store k n) t := by
  obtain ⟨P, R, h1, h2, h3, h4, h5, h6, h7⟩ := h
  refine (estore_any w b bp P s k n h1.1).mono ?_
  rintro r w' ⟨rfl, k1, k2⟩
  exact ⟨rfl, LBoth.stepP h1 h2 h3 h4 h5 h6 h7 k1 k2 (h1.2.store k n)⟩
theorem has_lb (k : Int) (h : LBoth w0 w b bp c cp gl K s t) : Calls Try.prog 36 #[.pointer (some ⟨b, 0, none⟩), .int .i64 k] w fun r w' => r = .returned (.bool (s.has k)) ∧ w' = w := by
  obtain ⟨P, R, h1, h2, h3, h4, h5, h6, h7⟩ := h
  exact has_any w b bp P s k h1.1
theorem lhas_lb (k : Int) (h : LBoth w0 w b bp c cp gl K s t) : Calls Try.prog 37 #[.pointer (some ⟨c, 0, none⟩), .int .i64 k] w fun r w' => r = .returned (.bool (t.has k)) ∧ w' = w := by
  obtain ⟨P, R, h1, h2, h3, h4, h5, h6, h7⟩ := h
  exact lhas_any w c cp gl R t k h2.1
theorem count_lb (h : LBoth w0 w b bp c cp gl K s t) : Calls Try.prog 38 #[.pointer (some ⟨b, 0, none⟩)] w fun r w' => r = .returned (.int .i64 s.count) ∧ w' = w := by
  obtain ⟨P, R, h1, h2, h3, h4, h5, h6, h7⟩ := h
  exact count_any w b bp P s h1.1
theorem lcount_lb (h : LBoth w0 w b bp c cp gl K s t) : Calls Try.prog 39 #[.pointer (some ⟨c, 0, none⟩)] w fun r w' => r = .returned (.int .i64 t.count) ∧ w' = w := by
  obtain ⟨P, R, h1, h2, h3, h4, h5, h6, h7⟩ := h
  exact lcount_any w c cp gl R t h2.1
theorem free_lb (h : LBoth w0 w b bp c cp gl K s t) : Calls Try.prog 24 #[.pointer (some ⟨bp, 0, none⟩)] w fun r w' => r = .returned (.int .i64 s.p.free) ∧ ∃ m, w' = w.drewN m := by
  obtain ⟨P, R, h1, h2, h3, h4, h5, h6, h7⟩ := h
  exact efree_any w b bp P s h1.1
theorem lfree_lb (h : LBoth w0 w b bp c cp gl K s t) : Calls Try.prog 25 #[.pointer (some ⟨cp, 0, none⟩)] w fun r w' => r = .returned (.int .i64 t.p.free) ∧ ∃ m, w' = w.drewN m := by
  obtain ⟨P, R, h1, h2, h3, h4, h5, h6, h7⟩ := h
  obtain ⟨L, v, h2⟩ := h2.1
  exact pfree_any w cp _ t.p h2.pool
theorem pages_lb (k : Int) (h : LBoth w0 w b bp c cp gl K s t) : Calls Try.prog 41 #[.pointer (some ⟨b, 0, none⟩), .int .i64 k] w fun r w' => ∃ a cap, r = .returned (.slice a (if s.has k then s.pagesAt k.toNat else []).length cap) ∧ Row w' (fun x => w.heap.size ≤ x) 3 (.slice a (if s.has k then s.pagesAt k.toNat else []).length cap) (if s.has k then s.pagesAt k.toNat else []) ∧ Below w.heap.size w w' := by
  obtain ⟨P, R, h1, h2, h3, h4, h5, h6, h7⟩ := h
  exact epages_any w b bp P s k h1
theorem words_lb (h : LBoth w0 w b bp c cp gl K s t) : Calls Try.prog 23 #[.pointer (some ⟨bp, 0, none⟩)] w fun r w' => ∃ v, r = .returned v ∧ Longs w' v ((List.range (16 * s.p.pages)).map s.p.ws) ∧ Below w.heap.size w w' := by
  obtain ⟨P, R, h1, h2, h3, h4, h5, h6, h7⟩ := h
  obtain ⟨L, g, h1⟩ := h1.1
  refine (words_any w bp _ s.p h1.pool).mono ?_
  rintro r w' ⟨v, rfl, k1, k2⟩
  exact ⟨v, rfl, k1.longs, k2⟩

/-- The list of a region of the document's. -/
theorem LBoth.list (h : LBoth w0 w b bp c cp gl K s t) (j : Nat) (hj : j < 16) : ∃ a cap, w.cell? ⟨gl, j * 3 + 1, none⟩ = some (.slice a (t.pagesAt j).length cap) ∧ Longs w (.slice a (t.pagesAt j).length cap) (t.pagesAt j) := by
  obtain ⟨P, R, h1, h2, h3, h4, h5, h6, h7⟩ := h
  obtain ⟨L, v, h2⟩ := h2.1
  have hr := h2.rows j hj
  obtain ⟨a, cap, hv, -, -⟩ := hr.form
  rw [hv] at hr
  refine ⟨a, cap, ?_, hr.longs⟩
  rw [← hv]; exact h2.at1 j hj
/-- The words of the document's pool, and a word stored there. -/
theorem LBoth.words (h : LBoth w0 w b bp c cp gl K s t) : ∃ gw n, w.cell? ⟨cp, 0, none⟩ = some (.slice (some ⟨gw, 0, none⟩) n n) ∧ n = 16 * t.p.pages ∧ Longs w (.slice (some ⟨gw, 0, none⟩) n n) ((List.range (16 * t.p.pages)).map t.p.ws) ∧
    ∀ i, i < n → w.cell? ⟨gw, i, none⟩ = some (.int .i64 (t.p.ws i)) ∧ w.frozen? ⟨gw, i, none⟩ = false ∧ ∀ x, LKept w0 w (w.setCell ⟨gw, i, none⟩ (.int .i64 x)) b bp c cp gl K s (t.store i x) := by
  obtain ⟨P, R, h1, h2, h3, h4, h5, h6, h7⟩ := h
  have hok := h2.2
  obtain ⟨L, v, h2'⟩ := h2.1
  obtain ⟨gw, n, a, len, cap, c0, c1, c2, c3, hf, HR⟩ := h2'.pool.cells
  refine ⟨gw, n, c0, HR.out.1, ?_, fun i hi => ?_⟩
  · have := rowIs_longs (cap := n) HR.out.2.2.2.1
    rw [HR.out.1] at this ⊢; exact this
  · refine ⟨HR.out.2.2.2.1.cell hi, HR.out.2.2.2.1.frozen i, fun x => ?_⟩
    have hi' : i < 16 * t.p.pages := by rw [← HR.out.1]; exact hi
    obtain ⟨d1, d2, d3, d4⟩ := h2'.pool.setWord c0 i hi' x
    have hpl : t.p.place i = true := by simp [St.place]; omega
    have e : t.p.store i x = { t.p with ws := fun j => if (j : Int) = i then x else t.p.ws j } := by simp [St.store, hpl]
    have k2 : Step (fun y => L y = 2) (fun y => L y = 2) w (w.setCell ⟨gw, i, none⟩ (.int .i64 x)) := (Step.refl (fun y => L y = 2) w).setCell (p := ⟨gw, i, none⟩) d3 _
    obtain ⟨q1, q2⟩ := h2'.stepPool d4 k2
    rw [← e] at q1
    exact LBoth.stepR h1 h2 h3 h4 h5 h6 h7 ⟨_, _, q1⟩ q2 (hok.store i x)
end

theorem LBoth.start {w1 w2 w3 : World} {b bp c cp gl n : Nat} (h1 : EstAt w2 b bp (fun x => w1.heap.size ≤ x ∧ x < w2.heap.size) (Est.new n)) (b2 : Below w1.heap.size w1 w2) (h2 : LandAt w3 c cp gl (fun x => w2.heap.size ≤ x ∧ x < w3.heap.size) (Est.new n)) (b3 : Below w2.heap.size w2 w3) :
    LBoth w1 w3 b bp c cp gl (fun _ => False) (Est.new n) (Est.new n) := by
  have hz := b2.size
  have hz2 := b3.size
  refine ⟨_, _, h1.step (Step.none_below b3) (fun _ _ h => h), h2, fun x hx hr => by have := hx.2; have := hr.1; omega, fun x hx => ⟨hx.1, by have := hx.2; omega⟩, fun x hx => ⟨by have := hx.1; omega, hx.2⟩, fun _ h => h.elim, b2.trans (b3.mono hz)⟩

end Go.Proofs.Ytphindejlinleaa
