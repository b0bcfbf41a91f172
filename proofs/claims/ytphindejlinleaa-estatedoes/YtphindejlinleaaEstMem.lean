/-
  An estate in memory: its block, its pool and its regions, each in blocks of its own; what stays where one of them turns.
-/
import Derived.Test.YtphindejlinleaaEstSt
import Derived.Test.YtphindejlinleaaPoolNew
namespace Go.Proofs.Ytphindejlinleaa
open Go.ChangeShapes Go.WideShapes Go.ChangeAt Go.RowKit
set_option linter.unusedVariables false

def RegAt (w : World) (g : Nat) (O : Nat → Prop) (r : Reg) : Prop :=
  ∃ v, w.heap[g]? = some (.cells #[v, .int .i64 r.left] 82 (0, 0)) ∧ Row w O 3 v r.pages ∧ O g
theorem RegAt.step {w w' : World} {g : Nat} {O P P' : Nat → Prop} {r : Reg} (h : RegAt w g O r) (k : Step P P' w w') (hd : ∀ x, O x → ¬ P x) : RegAt w' g O r := by
  obtain ⟨v, h1, h2, h3⟩ := h
  exact ⟨v, k.keep h1 (hd g h3), h2.step k hd, h3⟩
theorem Row.mono {w : World} {O O' : Nat → Prop} {t : TypeId} {v : Value} {xs : List Int} (h : Row w O t v xs) (hO : ∀ x, O x → x < w.heap.size → O' x) : Row w O' t v xs := ⟨h.1, fun g hg => hO g (h.2 g hg) (h.lt hg)⟩
theorem RegAt.mono {w : World} {g : Nat} {O O' : Nat → Prop} {r : Reg} (h : RegAt w g O r) (hO : ∀ x, O x → x < w.heap.size → O' x) : RegAt w g O' r := by
  obtain ⟨v, h1, h2, h3⟩ := h
  exact ⟨v, h1, h2.mono hO, hO g h3 (lt_of_block h1)⟩
theorem PoolAt.mono {w : World} {b : Nat} {O O' : Nat → Prop} {s : St} (h : PoolAt w b O s) (hO : ∀ x, O x → x < w.heap.size → O' x) : PoolAt w b O' s := by
  obtain ⟨gw, n, vg, hb, hr, hg, ho, how, hn, hok⟩ := h
  exact ⟨gw, n, vg, hb, hr, hg.mono hO, hO b ho (lt_of_block hb), hO gw how hr.lt, hn, hok⟩

def ptrOf (o : Option Reg) (g : Nat) : Value := .pointer (match o with | some _ => some ⟨g, 0, none⟩ | none => none)
def estF (bp : Nat) (reg : Nat → Option Reg) (g : Nat → Nat) : Nat → Value := fun i => if i = 0 then .pointer (some ⟨bp, 0, none⟩) else ptrOf (reg (i - 1)) (g (i - 1))

/-- The estate's parts: block x is its own (L x = 1), its pool's (2), or of the region k (k + 3). -/
structure Parts (w : World) (b : Nat) (O : Nat → Prop) (e : Est) (L : Nat → Nat) (bp : Nat) (g : Nat → Nat) : Prop where
  row : w.rowIs b 63 17 (estF bp e.reg g)
  own : L b = 1
  pool : PoolAt w bp (fun x => L x = 2) e.p
  reg : ∀ k r, e.reg k = some r → RegAt w (g k) (fun x => L x = k + 3) r
  all : ∀ x, L x ≠ 0 → O x ∧ x < w.heap.size

def EstMem (w : World) (b bp : Nat) (O : Nat → Prop) (e : Est) : Prop := ∃ L g, Parts w b O e L bp g
def EstAt (w : World) (b bp : Nat) (O : Nat → Prop) (e : Est) : Prop := EstMem w b bp O e ∧ e.Ok

/-- Where one part's step has made new blocks: they are that part's. -/
def relab (L : Nat → Nat) (c : Nat) (w w' : World) : Nat → Nat := fun x => if L x = c ∨ (w.heap.size ≤ x ∧ x < w'.heap.size) then c else L x

section
variable {w w' : World} {b bp : Nat} {O O' : Nat → Prop} {e : Est} {L : Nat → Nat} {g : Nat → Nat} {c : Nat}

theorem relab_other (ha : ∀ x, L x ≠ 0 → O x ∧ x < w.heap.size) {d : Nat} (hd : d ≠ c) (h0 : d ≠ 0) (x : Nat) : relab L c w w' x = d ↔ L x = d := by
  unfold relab
  constructor
  · intro h
    split at h
    · exact absurd h.symm hd
    · exact h
  · intro h
    rw [if_neg]
    · exact h
    · rintro (h' | h')
      · omega
      · have := (ha x (by omega)).2; omega
theorem relab_own (ha : ∀ x, L x ≠ 0 → O x ∧ x < w.heap.size) (k : Step (fun x => L x = c) O' w w') (x : Nat) (hx : O' x) (hl : x < w'.heap.size) : relab L c w w' x = c := by
  unfold relab
  rw [if_pos]
  rcases k.own x hx with h | h
  · exact Or.inl h
  · exact Or.inr ⟨h, hl⟩
theorem relab_all (ha : ∀ x, L x ≠ 0 → O x ∧ x < w.heap.size) (hc : c ≠ 0) (hs : w.heap.size ≤ w'.heap.size) (x : Nat) (hx : relab L c w w' x ≠ 0) : grow O w w' x ∧ x < w'.heap.size := by
  have key : (O x ∨ w.heap.size ≤ x) ∧ x < w'.heap.size := by
    unfold relab at hx
    split at hx
    · rename_i h
      rcases h with h | h
      · have := ha x (by omega); exact ⟨Or.inl this.1, by omega⟩
      · exact ⟨Or.inr h.1, h.2⟩
    · have := ha x hx; exact ⟨Or.inl this.1, by omega⟩
  exact ⟨key, key.2⟩
theorem step_grow (ha : ∀ x, L x ≠ 0 → O x ∧ x < w.heap.size) (hc : c ≠ 0) (k : Step (fun x => L x = c) O' w w') : Step O (grow O w w') w w' :=
  ⟨k.os, k.tape, k.output, k.size, fun x hx hn => k.block x hx (fun h => hn (ha x (by show L x ≠ 0; rw [h]; exact hc)).1), fun x hx => hx.1⟩

/-- The pool has turned. -/
theorem Parts.stepPool (h : Parts w b O e L bp g) {s' : St} (k1 : PoolAt w' bp O' s') (k2 : Step (fun x => L x = 2) O' w w') :
    Parts w' b (grow O w w') (e.withP s') (relab L 2 w w') bp g ∧ Step O (grow O w w') w w' := by
  refine ⟨⟨?_, ?_, ?_, ?_, ?_⟩, step_grow h.all (by decide) k2⟩
  · exact h.row.of_block (k2.block b h.row.lt (by rw [h.own]; decide))
  · exact (relab_other h.all (by decide) (by decide) b).2 h.own
  · exact k1.mono (fun x hx hl => relab_own h.all k2 x hx hl)
  · intro k r hr
    exact ((h.reg k r hr).step k2 (fun x h1 h2 => by omega)).mono (fun x hx _ => (relab_other h.all (by omega) (by omega) x).2 hx)
  · exact relab_all h.all (by decide) k2.size

/-- A region has turned. -/
theorem Parts.stepReg (h : Parts w b O e L bp g) {j : Nat} {r r' : Reg} (hj : e.reg j = some r) (k1 : RegAt w' (g j) O' r') (k2 : Step (fun x => L x = j + 3) O' w w') :
    Parts w' b (grow O w w') (e.set j (some r')) (relab L (j + 3) w w') bp g ∧ Step O (grow O w w') w w' := by
  refine ⟨⟨?_, ?_, ?_, ?_, ?_⟩, step_grow h.all (by omega) k2⟩
  · refine (h.row.of_block (k2.block b h.row.lt (by rw [h.own]; omega))).congr fun i hi => ?_
    unfold estF ptrOf Est.set
    by_cases e0 : i = 0
    · simp [e0]
    · by_cases e1 : i - 1 = j
      · simp [e0, e1, hj]
      · simp [e0, e1]
  · exact (relab_other h.all (by omega) (by decide) b).2 h.own
  · exact (h.pool.step k2 (fun x h1 h2 => by omega)).mono (fun x hx _ => (relab_other h.all (by omega) (by decide) x).2 hx)
  · intro k q hq
    by_cases e1 : k = j
    · subst e1
      have : q = r' := by simpa [Est.set] using hq.symm
      subst this
      exact k1.mono (fun x hx hl => relab_own h.all k2 x hx hl)
    · have hq' : e.reg k = some q := by simpa [Est.set, e1] using hq
      exact ((h.reg k q hq').step k2 (fun x h1 h2 => by omega)).mono (fun x hx _ => (relab_other h.all (by omega) (by omega) x).2 hx)
  · exact relab_all h.all (by omega) k2.size
end

theorem EstMem.step {w w' : World} {b bp : Nat} {O P P' : Nat → Prop} {e : Est} (h : EstMem w b bp O e) (k : Step P P' w w') (hd : ∀ x, O x → ¬ P x) : EstMem w' b bp O e := by
  obtain ⟨L, g, h⟩ := h
  have hL : ∀ x, L x ≠ 0 → ¬ P x := fun x hx => hd x (h.all x hx).1
  refine ⟨L, g, ⟨?_, h.own, ?_, ?_, ?_⟩⟩
  · exact h.row.of_block (k.block b h.row.lt (hL b (by rw [h.own]; decide)))
  · exact h.pool.step k (fun x hx => hL x (by omega))
  · exact fun j r hr => (h.reg j r hr).step k (fun x hx => hL x (by omega))
  · intro x hx
    have := h.all x hx
    have := k.size
    exact ⟨this |> fun _ => (h.all x hx).1, by omega⟩
theorem EstAt.step {w w' : World} {b bp : Nat} {O P P' : Nat → Prop} {e : Est} (h : EstAt w b bp O e) (k : Step P P' w w') (hd : ∀ x, O x → ¬ P x) : EstAt w' b bp O e := ⟨h.1.step k hd, h.2⟩
theorem EstMem.mono {w : World} {b bp : Nat} {O O' : Nat → Prop} {e : Est} (h : EstMem w b bp O e) (hO : ∀ x, O x → x < w.heap.size → O' x) : EstMem w b bp O' e := by
  obtain ⟨L, g, h⟩ := h
  exact ⟨L, g, ⟨h.row, h.own, h.pool, h.reg, fun x hx => ⟨hO x (h.all x hx).1 (h.all x hx).2, (h.all x hx).2⟩⟩⟩
theorem EstMem.drewN {w : World} {b bp : Nat} {O : Nat → Prop} {e : Est} (h : EstMem w b bp O e) (n : Nat) : EstMem (w.drewN n) b bp O e := by
  obtain ⟨L, g, h⟩ := h
  exact ⟨L, g, ⟨h.row, h.own, h.pool, h.reg, h.all⟩⟩
theorem grow_trans {O : Nat → Prop} {w w' w'' : World} (h1 : w.heap.size ≤ w'.heap.size) (x : Nat) (h : grow (grow O w w') w' w'' x) : grow O w w'' x := by
  obtain ⟨h2, h3⟩ := h
  refine ⟨?_, h3⟩
  rcases h2 with h2 | h2
  · exact h2.1
  · exact Or.inr (by omega)
theorem grow_self {O : Nat → Prop} {w : World} (x : Nat) (h : O x) (hl : x < w.heap.size) : grow O w w x := ⟨Or.inl h, hl⟩
theorem Step.trans_grow {O : Nat → Prop} {a b c : World} (h : Step O (grow O a b) a b) (k : Step (grow O a b) (grow (grow O a b) b c) b c) : Step O (grow O a c) a c :=
  ⟨k.os.trans h.os, k.tape.trans h.tape, k.output.trans h.output, Nat.le_trans h.size k.size, (h.trans k).block, fun x hx => hx.1⟩
theorem Step.refl_grow (O : Nat → Prop) (w : World) : Step O (grow O w w) w w := ⟨rfl, rfl, rfl, Nat.le_refl _, fun _ _ _ => rfl, fun _ h => h.1⟩

#print axioms Parts.stepReg
end Go.Proofs.Ytphindejlinleaa
