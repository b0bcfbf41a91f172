/-
  The estate, and the list of the words that were got, side by side in one memory: the contracts of package estate, said of the pair.
-/
import Derived.Test.YtphindejlinleaaEstWords
import Derived.Test.YtphindejlinleaaApartSt
namespace Go.Proofs.Ytphindejlinleaa
open Go.ChangeShapes Go.WideShapes Go.ChangeAt Go.RowKit
set_option linter.unusedVariables false

/-- The runs' cells, one behind the other. -/
def flat : List Run → List Value
  | [] => []
  | q :: r => .int .i64 q.region :: .int .i64 q.at_ :: .int .i64 q.n :: flat r
theorem flat_len : ∀ rs : List Run, (flat rs).length = rs.length * 3
  | [] => rfl
  | q :: r => by rw [flat]; simp [flat_len r]; omega
theorem flat_append : ∀ (rs us : List Run), flat (rs ++ us) = flat rs ++ flat us
  | [], us => rfl
  | q :: r, us => by show flat (q :: (r ++ us)) = _; rw [flat, flat_append r us]; rfl
def noRun : Run := ⟨0, 0, 0⟩
theorem flat_at : ∀ (rs : List Run) (i : Nat), i < rs.length → (flat rs)[i * 3]? = some (.int .i64 (rs.getD i noRun).region) ∧ (flat rs)[i * 3 + 1]? = some (.int .i64 (rs.getD i noRun).at_) ∧ (flat rs)[i * 3 + 2]? = some (.int .i64 (rs.getD i noRun).n)
  | [], i, h => by simp at h
  | q :: r, 0, _ => ⟨rfl, rfl, rfl⟩
  | q :: r, i + 1, h => by
    have := flat_at r i (by simpa using h)
    have e : (i + 1) * 3 = i * 3 + 3 := by omega
    rw [e]
    exact this
theorem flat_one : ∀ (rs : List Run) (u : Value), u ∈ flat rs → u.oneCell' = true
  | [], u, h => by simp [flat] at h
  | q :: r, u, h => by
    rw [flat] at h
    simp at h
    rcases h with rfl | rfl | rfl | h
    · rfl
    · rfl
    · rfl
    · exact flat_one r u h

/-- A row of runs that a slice value owns, its block among O. -/
def RunsAt (w : World) (O : Nat → Prop) (v : Value) (rs : List Run) : Prop := w.ownsRow 0 74 3 v rs.length (flat rs) ∧ ∀ g, v.ownBlock = some g → O g

section
variable {w w' : World} {O O' : Nat → Prop} {v : Value} {rs : List Run}
theorem RunsAt.nil (w : World) (O : Nat → Prop) : RunsAt w O (.slice none 0 0) [] := ⟨⟨rfl, Or.inl ⟨rfl, rfl⟩⟩, by simp [Value.ownBlock]⟩
theorem RunsAt.block (h : RunsAt w O v rs) {g : Nat} (hg : v.ownBlock = some g) : ∃ c, w.heap[g]? = some (.cells c 74 (0, 0)) := by
  obtain ⟨⟨h1, h2⟩, h3⟩ := h
  rcases h2 with ⟨rfl, _⟩ | ⟨g', cap, cur, rfl, _, hh, r⟩
  · simp [Value.ownBlock] at hg
  · simp [Value.ownBlock] at hg; subst hg; exact ⟨cur, hh⟩
theorem RunsAt.lt (h : RunsAt w O v rs) {g : Nat} (hg : v.ownBlock = some g) : g < w.heap.size := by
  obtain ⟨c, hc⟩ := h.block hg
  exact lt_of_block hc
theorem RunsAt.keep (h : RunsAt w O v rs) (hb : ∀ g, v.ownBlock = some g → w'.heap[g]? = w.heap[g]?) (hO : ∀ g, v.ownBlock = some g → O' g) : RunsAt w' O' v rs := by
  obtain ⟨⟨h1, h2⟩, h3⟩ := h
  refine ⟨⟨h1, ?_⟩, hO⟩
  rcases h2 with h4 | ⟨g, cap, cur, rfl, hg, hh, r⟩
  · exact Or.inl h4
  · exact Or.inr ⟨g, cap, cur, rfl, hg, (hb g rfl).trans hh, r⟩
theorem RunsAt.form (h : RunsAt w O v rs) : ∃ a cap, v = .slice a rs.length cap ∧ ∀ i, i < rs.length → ∃ g, a = some ⟨g, 0, none⟩ ∧ w.cell? ⟨g, i * 3, none⟩ = some (.int .i64 (rs.getD i noRun).region) ∧ w.cell? ⟨g, i * 3 + 1, none⟩ = some (.int .i64 (rs.getD i noRun).at_) ∧ w.cell? ⟨g, i * 3 + 2, none⟩ = some (.int .i64 (rs.getD i noRun).n) := by
  obtain ⟨⟨h1, h2⟩, h3⟩ := h
  rcases h2 with ⟨rfl, h4⟩ | ⟨g, cap, cur, rfl, _, hh, hn, hm, hs, ht⟩
  · rw [h4]
    exact ⟨none, 0, rfl, fun i hi => absurd hi (Nat.not_lt_zero _)⟩
  · refine ⟨some ⟨g, 0, none⟩, cap, rfl, fun i hi => ⟨g, rfl, ?_⟩⟩
    have key : ∀ j u, j < rs.length * 3 → (flat rs)[j]? = some u → w.cell? ⟨g, j, none⟩ = some u := fun j u hj hu => by
      rw [← ht, List.getElem?_take, if_pos hj] at hu
      exact cellOf hh j u (by rw [← Array.getElem?_toList]; exact hu)
    obtain ⟨a1, a2, a3⟩ := flat_at rs i hi
    exact ⟨key _ _ (by omega) a1, key _ _ (by omega) a2, key _ _ (by omega) a3⟩
end

/-- The estate and the list of runs; with the step at hand. -/
def ApL (w1 w : World) (b bp : Nat) (v : Value) (rs : List Run) (e : Est) : Prop := ∃ K, EKeep w1 w b bp K e ∧ RunsAt w K v rs
def ApX (w1 w : World) (b bp X : Nat) (v : Value) (rs : List Run) (e : Est) (x y z : Int) : Prop :=
  ∃ K, EKeep w1 w b bp K e ∧ RunsAt w K v rs ∧ K X ∧ w.heap[X]? = some (.cells #[.int .i64 x, .int .i64 y, .int .i64 z] 57 (0, 0))

section
variable {w1 w w' : World} {b bp X : Nat} {v u : Value} {rs us : List Run} {e e' : Est} {x y z : Int} {K : Nat → Prop}

theorem ApL.enter (h : ApL w1 w b bp v rs e) (x y z : Int) : ApX w1 (w.alloc (.cells #[.int .i64 x, .int .i64 y, .int .i64 z] 57)) b bp w.heap.size v rs e x y z := by
  obtain ⟨K, h1, h2⟩ := h
  refine ⟨fun q => K q ∨ q = w.heap.size, h1.alloc _ (fun _ h => h), h2.keep (fun g hg => Below.heap_alloc _ _ _ (h2.lt hg)) (fun g hg => Or.inl (h2.2 g hg)), Or.inr rfl, blockNew w _ _⟩
theorem ApX.leave (h : ApX w1 w b bp X v rs e x y z) : ApL w1 w b bp v rs e := by
  obtain ⟨K, h1, h2, _⟩ := h
  exact ⟨K, h1, h2⟩
theorem ApL.done (h : ApL w1 w b bp v rs e) : Below w1.heap.size w1 w := by
  obtain ⟨K, h1, h2⟩ := h; exact h1.done
theorem ApL.ok (h : ApL w1 w b bp v rs e) : e.Ok := by
  obtain ⟨K, h1, h2⟩ := h; exact h1.ok
theorem ApL.drewN (h : ApL w1 w b bp v rs e) (n : Nat) : ApL w1 (w.drewN n) b bp v rs e := by
  obtain ⟨K, h1, h2⟩ := h
  exact ⟨K, h1.drewN n, h2⟩
theorem ApL.cell0 (h : ApL w1 w b bp v rs e) : w.cell? ⟨b, 0, none⟩ = some (.pointer (some ⟨bp, 0, none⟩)) := by
  obtain ⟨K, h1, h2⟩ := h; exact h1.cell0
theorem ApX.cell0 (h : ApX w1 w b bp X v rs e x y z) : w.cell? ⟨b, 0, none⟩ = some (.pointer (some ⟨bp, 0, none⟩)) := h.leave.cell0
theorem ApX.step (h : ApX w1 w b bp X v rs e x y z) : w.heap[X]? = some (.cells #[.int .i64 x, .int .i64 y, .int .i64 z] 57 (0, 0)) := by
  obtain ⟨K, h1, h2, h3, h4⟩ := h; exact h4
theorem ApX.runs (h : ApX w1 w b bp X v rs e x y z) : ∃ K, RunsAt w K v rs := by
  obtain ⟨K, h1, h2, h3, h4⟩ := h; exact ⟨K, h2⟩
theorem ApX.drewN (h : ApX w1 w b bp X v rs e x y z) (n : Nat) : ApX w1 (w.drewN n) b bp X v rs e x y z := by
  obtain ⟨K, h1, h2, h3, h4⟩ := h
  exact ⟨K, h1.drewN n, h2, h3, h4⟩
theorem ApX.next (h2 : RunsAt w K v rs) (h3 : K X) (h4 : w.heap[X]? = some (.cells #[.int .i64 x, .int .i64 y, .int .i64 z] 57 (0, 0))) (k : EKept w1 w w' b bp K e') : ApX w1 w' b bp X v rs e' x y z :=
  ⟨K, k.1, h2.keep (fun g hg => k.2 g (h2.2 g hg)) h2.2, h3, (k.2 X h3).trans h4⟩
theorem ApX.below (h : ApX w1 w b bp X v rs e x y z) (k : Below w.heap.size w w') : ApX w1 w' b bp X v rs e x y z := by
  obtain ⟨K, h1, h2, h3, h4⟩ := h
  exact ⟨K, h1.below k, h2.keep (fun g hg => k.block g (h2.lt hg)) h2.2, h3, (k.block X (lt_of_block h4)).trans h4⟩
theorem ApL.below (h : ApL w1 w b bp v rs e) (k : Below w.heap.size w w') : ApL w1 w' b bp v rs e := by
  obtain ⟨K, h1, h2⟩ := h
  exact ⟨K, h1.below k, h2.keep (fun g hg => k.block g (h2.lt hg)) h2.2⟩

theorem open_ax (h : ApX w1 w b bp X v rs e x y z) : Calls Try.prog 30 #[.pointer (some ⟨b, 0, none⟩)] w fun r w' => r = .returned (.int .i64 e.openK) ∧ ApX w1 w' b bp X v rs e.opened x y z := by
  obtain ⟨K, h1, h2, h3, h4⟩ := h
  refine (open_keep h1).mono ?_
  rintro r w' ⟨rfl, k⟩
  exact ⟨rfl, ApX.next h2 h3 h4 k⟩
theorem shut_ax (k : Int) (h : ApX w1 w b bp X v rs e x y z) : Calls Try.prog 32 #[.pointer (some ⟨b, 0, none⟩), .int .i64 k] w fun r w' => r = .returned (.bool (e.has k)) ∧ ApX w1 w' b bp X v rs (e.shut k) x y z := by
  obtain ⟨K, h1, h2, h3, h4⟩ := h
  refine (shut_keep k h1).mono ?_
  rintro r w' ⟨rfl, k⟩
  exact ⟨rfl, ApX.next h2 h3 h4 k⟩
theorem get_ax (k m : Int) (h : ApX w1 w b bp X v rs e x y z) : Calls Try.prog 34 #[.pointer (some ⟨b, 0, none⟩), .int .i64 k, .int .i64 m] w fun r w' => r = .returned (.tuple #[.int .i64 (e.getAt k m), .int .i64 (e.getCode k m)]) ∧ ApX w1 w' b bp X v rs (e.got k m) x y z := by
  obtain ⟨K, h1, h2, h3, h4⟩ := h
  refine (get_keep k m h1).mono ?_
  rintro r w' ⟨rfl, k⟩
  exact ⟨rfl, ApX.next h2 h3 h4 k⟩
theorem load_ax (k : Int) (h : ApX w1 w b bp X v rs e x y z) : Calls Try.prog 21 #[.pointer (some ⟨bp, 0, none⟩), .int .i64 k] w fun r w' => r = .returned (.tuple #[.int .i64 (e.p.load k), .bool (e.p.place k)]) ∧ w' = w := by
  obtain ⟨K, h1, h2, h3, h4⟩ := h
  exact eload_keep k h1
theorem store_ax (k m : Int) (h : ApX w1 w b bp X v rs e x y z) : Calls Try.prog 20 #[.pointer (some ⟨bp, 0, none⟩), .int .i64 k, .int .i64 m] w fun r w' => r = .returned (.bool (e.p.place k)) ∧ ApX w1 w' b bp X v rs (e.store k m) x y z := by
  obtain ⟨K, h1, h2, h3, h4⟩ := h
  refine (estore_keep k m h1).mono ?_
  rintro r w' ⟨rfl, k⟩
  exact ⟨rfl, ApX.next h2 h3 h4 k⟩
theorem pages_ax (k : Int) (h : ApX w1 w b bp X v rs e x y z) : Calls Try.prog 41 #[.pointer (some ⟨b, 0, none⟩), .int .i64 k] w fun r w' => ∃ a cap, r = .returned (.slice a (if e.has k then e.pagesAt k.toNat else []).length cap) ∧ Row w' (fun x => w.heap.size ≤ x) 3 (.slice a (if e.has k then e.pagesAt k.toNat else []).length cap) (if e.has k then e.pagesAt k.toNat else []) ∧ Below w.heap.size w w' := by
  obtain ⟨K, h1, h2, h3, h4⟩ := h
  exact epages_keep k h1
theorem pages_al (k : Int) (h : ApL w1 w b bp v rs e) : Calls Try.prog 41 #[.pointer (some ⟨b, 0, none⟩), .int .i64 k] w fun r w' => ∃ a cap, r = .returned (.slice a (if e.has k then e.pagesAt k.toNat else []).length cap) ∧ Row w' (fun x => w.heap.size ≤ x) 3 (.slice a (if e.has k then e.pagesAt k.toNat else []).length cap) (if e.has k then e.pagesAt k.toNat else []) ∧ Below w.heap.size w w' := by
  obtain ⟨K, h1, h2⟩ := h
  exact epages_keep k h1
theorem free_al (h : ApL w1 w b bp v rs e) : Calls Try.prog 24 #[.pointer (some ⟨bp, 0, none⟩)] w fun r w' => r = .returned (.int .i64 e.p.free) ∧ ∃ m, w' = w.drewN m := by
  obtain ⟨K, h1, h2⟩ := h
  exact efree_keep h1

/-- Behind a law on append: one more run. -/
theorem ApX.push {w9 : World} {q : Run} {g cap : Nat} {o : Obj} (h : ApX w1 w b bp X v rs e x y z) (k1 : w9.ownsRow 0 74 3 (.slice (some ⟨g, 0, none⟩) (rs.length + 1) cap) (rs.length + 1) (flat rs ++ [.int .i64 q.region, .int .i64 q.at_, .int .i64 q.n]))
    (hgrow : (w.alloc o).grownBy w9 v.ownBlock) (hat : v.ownBlock = some g ∨ g = w.heap.size + 1) (hlt : g < w9.heap.size) : ApL w1 w9 b bp (.slice (some ⟨g, 0, none⟩) (rs.length + 1) cap) (rs ++ [q]) e := by
  obtain ⟨K, h1, h2, h3, h4⟩ := h
  have hsz : w.heap.size + 1 ≤ w9.heap.size := by have := hgrow.size; simpa using this
  have keep : ∀ x, x < w.heap.size → v.ownBlock ≠ some x → w9.heap[x]? = w.heap[x]? := fun x hx hne =>
    (hgrow.block x (by simp; omega) (fun e => hne e.symm)).trans (Below.heap_alloc _ _ _ hx)
  have S : Step K K w w9 := ⟨hgrow.os, hgrow.tape, hgrow.output, by omega, fun x hx hn => keep x hx (fun e => hn (h2.2 x e)), fun x hx => Or.inl hx⟩
  refine ⟨fun x => (K x ∨ w.heap.size ≤ x) ∧ x < w9.heap.size, h1.stepK S (fun _ h => h) (fun x hx => hx), ⟨?_, fun g' e' => ?_⟩⟩
  · rw [flat_append, List.length_append]; exact k1
  · simp [Value.ownBlock] at e'; subst e'
    refine ⟨?_, hlt⟩
    rcases hat with h' | h'
    · exact Or.inl (h2.2 _ h')
    · exact Or.inr (by omega)

/-- Another list, of blocks that were made since. -/
theorem ApX.other (h : ApX w1 w b bp X v rs e x y z) (k : Below w.heap.size w w') (hu : w'.ownsRow w.heap.size 74 3 u us.length (flat us)) : ApL w1 w' b bp u us e := by
  obtain ⟨K, h1, h2, h3, h4⟩ := h
  have hge : ∀ x, u.ownBlock = some x → w.heap.size ≤ x ∧ x < w'.heap.size := by
    intro x hx
    obtain ⟨_, e | ⟨g', cap', cur, e, hge, hh, _⟩⟩ := hu
    · rw [e.1] at hx; simp [Value.ownBlock] at hx
    · rw [e] at hx; simp [Value.ownBlock] at hx; subst hx; exact ⟨hge, lt_of_block hh⟩
  refine ⟨fun x => w.heap.size ≤ x ∧ x < w'.heap.size, h1.stepK (Step.none_below k) (fun _ h => h.elim) (fun x hx => ⟨Or.inr hx.1, hx.2⟩), ⟨?_, hge⟩⟩
  obtain ⟨h5, h6⟩ := hu
  refine ⟨h5, ?_⟩
  rcases h6 with h6 | ⟨g', cap', cur, hv, _, r⟩
  · exact Or.inl h6
  · exact Or.inr ⟨g', cap', cur, hv, Nat.zero_le _, r⟩
end

theorem under_runs : Try.prog.underlying 72 = some (.slice 74) := by kernel_rfl
theorem info_run : (Try.prog.info? 74).map (fun i => (i.zero, i.size, i.bytes)) = some (some (.agg #[.int .i64 0, .int .i64 0, .int .i64 0]), 3, 24) := by kernel_rfl
theorem news_three (w : World) (a c d : Value) (t : TypeId) : ∀ (j : Nat) (u : Value), [a, c, d][j]? = some u → (w.alloc (.cells #[a, c, d] t)).cell? (Addr.add ⟨w.heap.size, 0, none⟩ j) = some u := by
  intro j u hj
  exact World.news_of_block (blockNew w #[a, c, d] t) j u hj
theorem oneCell_three (p q r : Int) : ∀ u, u ∈ [Value.int .i64 p, Value.int .i64 q, Value.int .i64 r] → u.oneCell' = true := by
  intro u hu
  simp at hu
  rcases hu with rfl | rfl | rfl <;> rfl

end Go.Proofs.Ytphindejlinleaa
