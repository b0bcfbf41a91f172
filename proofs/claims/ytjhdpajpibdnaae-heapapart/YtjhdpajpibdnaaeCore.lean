/-
  Plain laws on worlds: what a call that owns a set of blocks leaves as it was; rows of integers that an object owns; no function of the program is spoken of.
-/
import Derived.Test.YtjhdpajpibdnaaeRows
import Derived.WalkKit
import Derived.WalkLawsBesides
import Derived.ProofKit
import Derived.OpenShut
import Derived.Deep.OwnRows
import Derived.Deep.AppendLies
import Derived.Deep.Draws
namespace Go.Proofs.Ytjhdpajpibdnaae
open Go.RowKit
set_option linter.unusedVariables false

/-- w' is w but for the blocks in O and new ones; what is owned behind it, O', are blocks of O and new ones. -/
structure Step (O O' : Nat → Prop) (w w' : World) : Prop where
  os : w'.os = w.os
  tape : w'.tape = w.tape
  output : w'.output = w.output
  size : w.heap.size ≤ w'.heap.size
  block : ∀ k, k < w.heap.size → ¬ O k → w'.heap[k]? = w.heap[k]?
  own : ∀ k, O' k → O k ∨ w.heap.size ≤ k

theorem Step.refl (O : Nat → Prop) (w : World) : Step O O w w := ⟨rfl, rfl, rfl, Nat.le_refl _, fun _ _ _ => rfl, fun _ h => Or.inl h⟩

theorem Step.trans {O O' O'' : Nat → Prop} {a b c : World} (h : Step O O' a b) (k : Step O' O'' b c) : Step O O'' a c :=
  ⟨k.os.trans h.os, k.tape.trans h.tape, k.output.trans h.output, Nat.le_trans h.size k.size,
   fun i hi hn => (k.block i (Nat.lt_of_lt_of_le hi h.size) (fun ho => (h.own i ho).elim hn (fun hge => by omega))).trans (h.block i hi hn),
   fun i hi => (k.own i hi).elim (h.own i) (fun hge => Or.inr (Nat.le_trans h.size hge))⟩

theorem Step.mono {O O' P : Nat → Prop} {a b : World} (h : Step O O' a b) (hP : ∀ k, O k → P k) : Step P O' a b :=
  ⟨h.os, h.tape, h.output, h.size, fun i hi hn => h.block i hi (fun ho => hn (hP i ho)), fun i hi => (h.own i hi).imp (hP i) id⟩

theorem Step.sub {O O' P : Nat → Prop} {a b : World} (h : Step O O' a b) (hP : ∀ k, P k → O' k) : Step O P a b :=
  ⟨h.os, h.tape, h.output, h.size, h.block, fun i hi => h.own i (hP i hi)⟩

theorem Step.drewN {O O' : Nat → Prop} {a w : World} (h : Step O O' a w) (n : Nat) : Step O O' a (w.drewN n) := ⟨h.os, h.tape, h.output, h.size, h.block, h.own⟩
theorem Step.drew {O O' : Nat → Prop} {a w : World} (h : Step O O' a w) : Step O O' a w.drew := ⟨h.os, h.tape, h.output, h.size, h.block, h.own⟩
theorem Step.undrewN {O O' : Nat → Prop} {a w : World} {n : Nat} (h : Step O O' (a.drewN n) w) : Step O O' a w := ⟨h.os, h.tape, h.output, h.size, h.block, h.own⟩

theorem Step.alloc {O O' : Nat → Prop} {a w : World} (h : Step O O' a w) (o : Obj) : Step O O' a (w.alloc o) :=
  ⟨h.os, h.tape, h.output, by have := h.size; simp; omega, fun k hk hn => (Below.heap_alloc _ _ _ (by have := h.size; omega)).trans (h.block k hk hn), h.own⟩

/-- A store into a block that is owned at last. -/
theorem Step.setCell {O O' : Nat → Prop} {a w : World} (h : Step O O' a w) {p : Addr} (hp : O' p.block) (u : Value) : Step O O' a (w.setCell p u) :=
  ⟨h.os, h.tape, h.output, by have := h.size; simp; omega,
   fun k hk hn => (Below.heap_setCell _ _ _ _ (fun e => by subst e; rcases h.own _ hp with h' | h'; exact hn h'; omega)).trans (h.block k hk hn), h.own⟩

theorem Step.below {O O' : Nat → Prop} {a w : World} {B : Nat} (h : Step O O' a w) (hB : B ≤ a.heap.size) (hO : ∀ k, O k → B ≤ k) : Below B a w :=
  ⟨h.os, h.tape, h.output, h.size, fun k hk => h.block k (by omega) (fun ho => by have := hO k ho; omega)⟩

theorem Step.of_below {O O' : Nat → Prop} {a w : World} (h : Below a.heap.size a w) (hO : ∀ k, O' k → O k ∨ a.heap.size ≤ k) : Step O O' a w :=
  ⟨h.os, h.tape, h.output, h.size, fun k hk _ => h.block k hk, hO⟩

/-- A block that is not owned stays. -/
theorem Step.keep {O O' : Nat → Prop} {a w : World} (h : Step O O' a w) {k : Nat} {o : Obj} (hk : a.heap[k]? = some o) (hn : ¬ O k) : w.heap[k]? = some o :=
  (h.block k (lt_of_block hk) hn).trans hk

/-- Whole blocks: their cells. -/
theorem cellOf {w : World} {b : Nat} {c : Array Value} {t : TypeId} (h : w.heap[b]? = some (.cells c t (0, 0))) (i : Nat) (v : Value) (hv : c[i]? = some v) : w.cell? ⟨b, i, none⟩ = some v := by
  simp [World.cell?, h, hv]
theorem freeOf {w : World} {b : Nat} {c : Array Value} {t : TypeId} (h : w.heap[b]? = some (.cells c t (0, 0))) (i : Nat) : w.frozen? ⟨b, i, none⟩ = false := by
  simp [World.frozen?, h]
theorem blockSet {w : World} {b : Nat} {c : Array Value} {t : TypeId} (h : w.heap[b]? = some (.cells c t (0, 0))) (i : Nat) (v : Value) :
    (w.setCell ⟨b, i, none⟩ v).heap[b]? = some (.cells (c.setIfInBounds i v) t (0, 0)) := by
  simp [World.setCell, Array.getElem?_modify, h]
theorem blockNew (w : World) (c : Array Value) (t : TypeId) : (w.alloc (.cells c t)).heap[w.heap.size]? = some (.cells c t (0, 0)) := by
  show (w.heap.push _)[w.heap.size]? = _
  simp
theorem blockNe {w : World} {b g : Nat} {c d : Array Value} {t u : TypeId} {f : Nat × Nat} (h : w.heap[b]? = some (.cells c t f)) (k : w.heap[g]? = some (.cells d u f)) (hn : t ≠ u) : b ≠ g := by
  intro e; subst e; rw [h] at k; simp at k; exact hn k.2

/-- A ROW OF INTEGERS that a slice value owns, its block among O (nil, or the head of a block of its own). -/
def Row (w : World) (O : Nat → Prop) (t : TypeId) (v : Value) (xs : List Int) : Prop :=
  w.ownsRow 0 t 1 v xs.length (xs.map (Value.int .i64)) ∧ ∀ g, v.ownBlock = some g → O g

theorem Row.nil (w : World) (O : Nat → Prop) (t : TypeId) : Row w O t (.slice none 0 0) [] := ⟨⟨rfl, Or.inl ⟨rfl, rfl⟩⟩, by simp [Value.ownBlock]⟩

/-- Its form: the address, the capacity. -/
theorem Row.form {w : World} {O : Nat → Prop} {t : TypeId} {v : Value} {xs : List Int} (h : Row w O t v xs) :
    ∃ a cap, v = .slice a xs.length cap ∧ (a = none → xs = [] ∧ cap = 0) ∧ ∀ g, a = some g → g = ⟨g.block, 0, none⟩ ∧ O g.block ∧ xs.length ≤ cap ∧ cap ≤ maxLen ∧ ∃ c, w.heap[g.block]? = some (.cells c t (0, 0)) ∧ c.size = cap ∧ ∀ i, i < xs.length → c[i]? = some (.int .i64 (xs.getD i 0)) := by
  obtain ⟨⟨h1, h2⟩, h3⟩ := h
  rcases h2 with ⟨rfl, h4⟩ | ⟨g, cap, cur, rfl, _, hh, hn, hm, hs, ht⟩
  · have : xs = [] := List.length_eq_zero_iff.1 h4
    subst this
    exact ⟨none, 0, rfl, (fun _ => ⟨rfl, rfl⟩), (fun g e => by cases e)⟩
  · refine ⟨some ⟨g, 0, none⟩, cap, rfl, (fun e => by cases e), (fun g' e => ?_)⟩
    cases e
    refine ⟨rfl, h3 g rfl, hn, hm, cur, hh, by simpa using hs, fun i hi => ?_⟩
    have : (cur.toList.take (xs.length * 1))[i]? = (xs.map (Value.int .i64))[i]? := by rw [ht]
    rw [List.getElem?_take, if_pos (by omega), List.getElem?_map] at this
    rw [← Array.getElem?_toList, this]
    simp [List.getD, hi]

theorem Row.cell {w : World} {O : Nat → Prop} {t : TypeId} {g : Nat} {n cap : Nat} {xs : List Int} (h : Row w O t (.slice (some ⟨g, 0, none⟩) n cap) xs) (i : Nat) (hi : i < xs.length) :
    w.cell? ⟨g, i, none⟩ = some (.int .i64 (xs.getD i 0)) := by
  obtain ⟨a, cap', e, _, h2⟩ := h.form
  cases e
  obtain ⟨_, _, _, _, c, hc, _, hi'⟩ := h2 _ rfl
  exact cellOf hc i _ (hi' i hi)

/-- It stays where its block stays. -/
theorem Row.keep {w w' : World} {O O' : Nat → Prop} {t : TypeId} {v : Value} {xs : List Int} (h : Row w O t v xs) (hb : ∀ g, v.ownBlock = some g → w'.heap[g]? = w.heap[g]?) (hO : ∀ g, v.ownBlock = some g → O' g) : Row w' O' t v xs := by
  obtain ⟨⟨h1, h2⟩, h3⟩ := h
  refine ⟨⟨h1, ?_⟩, hO⟩
  rcases h2 with h4 | ⟨g, cap, cur, rfl, hg, hh, r⟩
  · exact Or.inl h4
  · exact Or.inr ⟨g, cap, cur, rfl, hg, (hb g rfl).trans hh, r⟩

theorem Row.lt {w : World} {O : Nat → Prop} {t : TypeId} {v : Value} {xs : List Int} (h : Row w O t v xs) {g : Nat} (hg : v.ownBlock = some g) : g < w.heap.size := by
  obtain ⟨⟨h1, h2⟩, h3⟩ := h
  rcases h2 with ⟨rfl, _⟩ | ⟨g', cap, cur, rfl, _, hh, r⟩
  · simp [Value.ownBlock] at hg
  · simp [Value.ownBlock] at hg; subst hg; exact lt_of_block hh

theorem Row.block {w : World} {O : Nat → Prop} {t : TypeId} {v : Value} {xs : List Int} (h : Row w O t v xs) {g : Nat} (hg : v.ownBlock = some g) : ∃ c, w.heap[g]? = some (.cells c t (0, 0)) := by
  obtain ⟨⟨h1, h2⟩, h3⟩ := h
  rcases h2 with ⟨rfl, _⟩ | ⟨g', cap, cur, rfl, _, hh, r⟩
  · simp [Value.ownBlock] at hg
  · simp [Value.ownBlock] at hg; subst hg; exact ⟨cur, hh⟩

/-- It stays behind a call that owns other blocks. -/
theorem Row.step {w w' : World} {O P P' : Nat → Prop} {t : TypeId} {v : Value} {xs : List Int} (h : Row w O t v xs) (k : Step P P' w w') (hd : ∀ x, O x → ¬ P x) : Row w' O t v xs :=
  h.keep (fun g hg => k.block g (h.lt hg) (hd g (h.2 g hg))) h.2

theorem Row.drewN {w : World} {O : Nat → Prop} {t : TypeId} {v : Value} {xs : List Int} (h : Row w O t v xs) (n : Nat) : Row (w.drewN n) O t v xs := h

/-- The last one goes: xs[:len(xs)-1]. -/
theorem Row.init {w : World} {O : Nat → Prop} {t : TypeId} {g n cap : Nat} {xs : List Int} (h : Row w O t (.slice (some ⟨g, 0, none⟩) n cap) xs) (m : Nat) (hm : m ≤ xs.length) :
    Row w O t (.slice (some ⟨g, 0, none⟩) m cap) (xs.take m) := by
  obtain ⟨⟨h1, h2⟩, h3⟩ := h
  rcases h2 with ⟨e, _⟩ | ⟨g', cap', cur, e, hg, hh, hn, hmx, hs, ht⟩
  · cases e
  · cases e
    have hl : (xs.take m).length = m := by simp; omega
    refine ⟨⟨by simp, Or.inr ⟨g, cap, cur, by rw [hl], Nat.zero_le _, hh, by omega, hmx, hs, ?_⟩⟩, fun g' e => h3 g' e⟩
    rw [hl, Nat.mul_one, List.map_take, ← ht, List.take_take, Nat.mul_one, Nat.min_eq_left hm]

/-- A slice value that owns a row and is not empty begins at the head of a block. -/
theorem Row.head {w : World} {O : Nat → Prop} {t : TypeId} {a : Option Addr} {n cap : Nat} {xs : List Int} (h : Row w O t (.slice a n cap) xs) (hn : 0 < xs.length) :
    ∃ g, a = some ⟨g, 0, none⟩ ∧ n = xs.length ∧ xs.length ≤ cap ∧ O g ∧ g < w.heap.size := by
  have hlt := fun g hg => h.lt (g := g) hg
  obtain ⟨a', cap', e, ha, hs⟩ := h.form
  simp only [Value.slice.injEq] at e
  obtain ⟨rfl, rfl, rfl⟩ := e
  cases a with
  | none => rw [(ha rfl).1] at hn; simp at hn
  | some g =>
    have h1 := (hs g rfl).1
    exact ⟨g.block, by rw [← h1], rfl, (hs g rfl).2.2.1, (hs g rfl).2.1, hlt _ rfl⟩

theorem Row.lenEq {w : World} {O : Nat → Prop} {t : TypeId} {a : Option Addr} {n cap : Nat} {xs : List Int} (h : Row w O t (.slice a n cap) xs) : n = xs.length := by
  obtain ⟨a', cap', e, ha, hs⟩ := h.form
  simp only [Value.slice.injEq] at e
  exact e.2.1

/-- Many cells of one block stored. -/
theorem setCells_other {b k : Nat} (hk : k ≠ b) : ∀ (vs : List Value) (o : Nat) (w : World), (w.setCells b o vs).heap[k]? = w.heap[k]?
  | [], _, _ => rfl
  | v :: r, o, w => by rw [World.setCells, setCells_other hk r]; exact Below.heap_setCell _ _ _ _ hk
theorem Step.setCells {O O' : Nat → Prop} {a : World} {b : Nat} (hp : O' b) : ∀ (vs : List Value) (o : Nat) (w : World), Step O O' a w → Step O O' a (w.setCells b o vs)
  | [], _, _, h => h
  | v :: r, o, w, h => Step.setCells hp r (o + 1) _ (h.setCell (p := ⟨b, o, none⟩) hp v)
theorem rowIs_fill {b : Nat} {t : TypeId} {n : Nat} (z : Value) : ∀ (m o : Nat) (w : World) (f : Nat → Value), w.rowIs b t n f → (w.setCells b o (List.replicate m z)).rowIs b t n (fun j => if o ≤ j ∧ j < o + m then z else f j)
  | 0, o, w, f, h => h.congr fun j hj => by rw [if_neg (by omega)]
  | m + 1, o, w, f, h => by
    rw [List.replicate_succ, World.setCells]
    refine (rowIs_fill z m (o + 1) _ _ (h.set o z)).congr fun j hj => ?_
    by_cases h1 : j = o
    · subst h1; simp
    · by_cases h2 : o ≤ j ∧ j < o + (m + 1)
      · rw [if_pos (by omega), if_pos h2]
      · rw [if_neg (by omega), if_neg h2, if_neg h1]

/-- A row that was appended to, by the law 'wpList_append_lies' (one value, which lay in a block of its own). -/
theorem Row.pushed {w w1 : World} {O : Nat → Prop} {t : TypeId} {v : Value} {xs : List Int} {k : Int} {g cap : Nat} {o : Obj} (h : Row w O t v xs) (h1 : w1.ownsRow 0 t 1 (.slice (some ⟨g, 0, none⟩) (xs.length + 1) cap) (xs.length + 1) (xs.map (Value.int .i64) ++ [.int .i64 k]))
    (hat : v.ownBlock = some g ∨ g = w.heap.size + 1) (hlt : g < w1.heap.size) (O' : Nat → Prop) (hO : ∀ x, O x ∨ w.heap.size ≤ x → x < w1.heap.size → O' x) : Row w1 O' t (.slice (some ⟨g, 0, none⟩) (xs.length + 1) cap) (xs ++ [k]) := by
  refine ⟨?_, fun g' e => ?_⟩
  · have e : (xs ++ [k]).length = xs.length + 1 := by simp
    rw [e, List.map_append]; exact h1
  · simp [Value.ownBlock] at e; subst e
    refine hO _ ?_ hlt
    rcases hat with h' | h'
    · exact Or.inl (h.2 _ h')
    · right; omega

theorem news_one (w : World) (v : Value) (t : TypeId) : ∀ (j : Nat) (u : Value), [v][j]? = some u → (w.alloc (.cells #[v] t)).cell? (Addr.add ⟨w.heap.size, 0, none⟩ j) = some u := by
  intro j u hj
  match j, hj with
  | 0, hj => simp at hj; subst hj; simp [Addr.add]
theorem oneCell_one (k : Int) : ∀ u, u ∈ [Value.int .i64 k] → u.oneCell' = true := by intro u hu; simp at hu; subst hu; rfl

#print axioms Row.init
end Go.Proofs.Ytjhdpajpibdnaae
