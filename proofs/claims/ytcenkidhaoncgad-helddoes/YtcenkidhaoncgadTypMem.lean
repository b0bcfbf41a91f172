/-
  Where a type's tree lies in memory, and that it lies there still behind what turns nothing of it; a tree that came in. No function of the program is spoken of.
-/
import Derived.Test.YtcenkidhaoncgadCore
import Derived.Test.YtcenkidhaoncgadTypSt
import Derived.Deep.Slices
import Derived.Deep.Strs
import Derived.Below
import Derived.ChangeOld
namespace Go.Proofs.Ytcenkidhaoncgad
open Go.ChangeShapes Go.WideShapes Go.ChangeAt Go.RowKit Go.Deep
set_option linter.unusedVariables false

/-- Whatever block; the blocks from lo on; those from lo on that a slice's row is not. -/
abbrev All : Nat → Prop := fun _ => True
abbrev From (lo : Nat) : Nat → Prop := fun g => lo ≤ g
abbrev But (lo : Nat) (v : Value) : Nat → Prop := fun g => lo ≤ g ∧ v.ownBlock ≠ some g

/-- The lists of t lie in w, the first at a; all of their blocks among O. -/
def TIn (w : World) (O : Nat → Prop) : {n : Nat} → TT n → Option Addr → Prop
  | 0, t, _ => Empty.elim t
  | n + 1, t, a => ∀ (i : Nat) (x : TT n), t.2.2[i]? = some x → ∃ g o a' c', a = some ⟨g, o, none⟩ ∧ O g ∧
      w.cell? ⟨g, o + i * 3, none⟩ = some (.int .i64 x.kind) ∧ w.cell? ⟨g, o + i * 3 + 1, none⟩ = some (.int .i64 x.r) ∧ w.cell? ⟨g, o + i * 3 + 2, none⟩ = some (.slice a' x.len c') ∧ TIn w O (n := n) x a'

/-- The value of a type. -/
abbrev Tv {n : Nat} (t : TT n) (a : Option Addr) (c : Nat) : Value := .agg #[.int .i64 t.kind, .int .i64 t.r, .slice a t.len c]

/-- A list of types. -/
abbrev mkT {n : Nat} (k r : Int) (l : List (TT n)) : TT (n + 1) := (k, r, l)
abbrev LIn (w : World) (O : Nat → Prop) {n : Nat} (l : List (TT n)) (a : Option Addr) : Prop := TIn w O (mkT 0 0 l) a

theorem TIn.list {w : World} {O : Nat → Prop} {n : Nat} {t : TT (n + 1)} {a : Option Addr} (h : TIn w O t a) : LIn w O t.2.2 a := h
theorem LIn.tree {w : World} {O : Nat → Prop} {n : Nat} {k r : Int} {l : List (TT n)} {a : Option Addr} (h : LIn w O l a) : TIn w O (mkT k r l) a := h

theorem LIn.at {w : World} {O : Nat → Prop} {n : Nat} {l : List (TT n)} {a : Option Addr} (h : LIn w O l a) {i : Nat} {x : TT n} (hx : l[i]? = some x) :
    ∃ g o a' c', a = some ⟨g, o, none⟩ ∧ O g ∧
      w.cell? ⟨g, o + i * 3, none⟩ = some (.int .i64 x.kind) ∧ w.cell? ⟨g, o + i * 3 + 1, none⟩ = some (.int .i64 x.r) ∧ w.cell? ⟨g, o + i * 3 + 2, none⟩ = some (.slice a' x.len c') ∧ TIn w O x a' := h i x hx

theorem LIn.nil {w : World} {O : Nat → Prop} {n : Nat} {a : Option Addr} : LIn w O ([] : List (TT n)) a := fun i x h => by simp at h

theorem TIn.keep {w w' : World} {O O' : Nat → Prop} (hb : ∀ k, O k → k < w.heap.size → w'.heap[k]? = w.heap[k]?) (hl : ∀ k, O k → k < w.heap.size → O' k) : {n : Nat} → {t : TT n} → {a : Option Addr} → TIn w O t a → TIn w' O' t a
  | 0, t, _, _ => Empty.elim t
  | n + 1, t, a, h => fun i x hx => by
    obtain ⟨g, o, a', c', e, hg, h1, h2, h3, h4⟩ := h i x hx
    have hgl : g < w.heap.size := World.block_lt_of_cell? w ⟨g, o + i * 3, none⟩ h1
    have hk : w'.heap[g]? = w.heap[g]? := hb g hg hgl
    refine ⟨g, o, a', c', e, hl g hg hgl, ?_, ?_, ?_, TIn.keep hb hl h4⟩
    · exact (World.cell?_of_block (w := w) (a := ⟨g, o + i * 3, none⟩) hk).trans h1
    · exact (World.cell?_of_block (w := w) (a := ⟨g, o + i * 3 + 1, none⟩) hk).trans h2
    · exact (World.cell?_of_block (w := w) (a := ⟨g, o + i * 3 + 2, none⟩) hk).trans h3

section
variable {w w' : World} {O O' : Nat → Prop} {n : Nat} {t : TT n} {a : Option Addr}
theorem TIn.below (h : TIn w O t a) (b : Below w.heap.size w w') : TIn w' O t a := h.keep (fun k _ hk => b.block k hk) (fun _ h _ => h)
theorem TIn.mono (h : TIn w O t a) (hl : ∀ k, O k → k < w.heap.size → O' k) : TIn w O' t a := h.keep (fun k _ _ => rfl) hl
theorem TIn.all (h : TIn w O t a) : TIn w All t a := h.mono (fun _ _ _ => trivial)
theorem TIn.alloc (h : TIn w O t a) (o : Obj) : TIn (w.alloc o) O t a := h.keep (fun k _ hk => Below.heap_alloc _ _ _ hk) (fun _ h _ => h)
theorem TIn.setCell (h : TIn w O t a) {p : Addr} (hp : ¬ O p.block) (v : Value) : TIn (w.setCell p v) O t a :=
  h.keep (fun k hk _ => Below.heap_setCell _ _ _ _ (fun e => by subst e; exact hp hk)) (fun _ h _ => h)
theorem TIn.drew (h : TIn w O t a) : TIn w.drew O t a := h.keep (w := w) (w' := w.drew) (fun k _ _ => rfl) (fun _ h _ => h)
theorem TIn.drewN (h : TIn w O t a) (m : Nat) : TIn (w.drewN m) O t a := h.keep (w := w) (w' := w.drewN m) (fun k _ _ => rfl) (fun _ h _ => h)
end

/-- The parts of a tree that is given by its parts. -/
theorem TT.parts {n : Nat} (t : TT (n + 1)) : t = mkT t.kind t.r t.2.2 := rfl
theorem TT.len_eq {n : Nat} (t : TT (n + 1)) : t.len = t.2.2.length := rfl

/-- A list of functions' values. -/
theorem list_of {α : Type} {P : Nat → α → Prop} (m : Nat) (h : ∀ i, i < m → ∃ x, P i x) : ∃ l : List α, l.length = m ∧ ∀ i x, l[i]? = some x → P i x := by
  induction m with
  | zero => exact ⟨[], rfl, fun i x hx => by simp at hx⟩
  | succ m ih =>
    obtain ⟨l, hl, hp⟩ := ih (fun i hi => h i (by omega))
    obtain ⟨x, hx⟩ := h m (by omega)
    refine ⟨l ++ [x], by simp [hl], fun i y hy => ?_⟩
    rw [List.getElem?_append] at hy
    split at hy
    · exact hp i y hy
    · rename_i hi
      have : i = m := by
        have := (List.getElem?_eq_some_iff.1 hy).1
        simp at this
        omega
      subst this
      simp [hl] at hy
      subst hy
      exact hx

set_option maxRecDepth 100000 in
/-- A tree that came in. -/
theorem tin_of {H : Type} {enc : TypeId × Value → H} {P : Program} {w : World} {base : Nat} {spare : Nat → Bool} {held : Bool} {tt ts ti : TypeId} {f0 f1 f2 : Field}
    (hs : P.underlying ts = some (.slice tt)) (ht : P.underlying tt = some (.struct #[f0, f1, f2])) (hc : P.cellsOf tt = 3)
    (h0 : f0.offset = 0 ∧ P.cellsOf f0.type = 1 ∧ P.underlying f0.type = some (.int .i64)) (h1 : f1.offset = 1 ∧ P.cellsOf f1.type = 1 ∧ P.underlying f1.type = some (.int .i64))
    (h2 : f2.offset = 2 ∧ P.cellsOf f2.type = 1 ∧ f2.type = ts) : ∀ (n fuel : Nat), fuel ≤ n → ∀ {cs : List Value} {x : DataW H × List MemPlace},
    DataW.trod enc P w base spare held fuel tt cs = some x → ∃ (T : TT n) (a : Option Addr) (c : Nat), cs = [.int .i64 T.kind, .int .i64 T.r, .slice a T.len c] ∧ TIn w All T a ∧ T.ok := by
  intro n
  induction n with
  | zero =>
    intro fuel hf cs x h
    obtain rfl : fuel = 0 := by omega
    simp [DataW.trod] at h
  | succ n ih =>
    intro fuel hf cs x h
    obtain ⟨xs, m, rfl, _, hcl, hxl, hfl⟩ := DataW.trod_struct ht h
    have hxl' : xs.length = 3 := hxl
    have g0 := hfl 0 f0 rfl
    have g1 := hfl 1 f1 rfl
    have g2 := hfl 2 f2 rfl
    rw [h0.1, h0.2.1, List.getElem?_eq_getElem (by omega)] at g0
    rw [h1.1, h1.2.1, List.getElem?_eq_getElem (by omega)] at g1
    rw [h2.1, h2.2.1, h2.2.2, List.getElem?_eq_getElem (by omega)] at g2
    obtain ⟨k, e0, _, _⟩ := DataW.trod_int h0.2.2 g0
    obtain ⟨r, e1, _, wf1⟩ := DataW.trod_int h1.2.2 g1
    have ew : -9223372036854775808 ≤ r ∧ r ≤ 9223372036854775807 := by
      have := Go.bounds_i64 wf1
      omega
    rw [hc] at hcl
    obtain ⟨c0, c1, c2, rfl⟩ : ∃ c0 c1 c2, cs = [c0, c1, c2] := by
      match cs, hcl with
      | [c0, c1, c2], _ => exact ⟨_, _, _, rfl⟩
    simp at e0 e1
    subst e0 e1
    rcases DataW.trod_slice hs g2 with ⟨e2, _⟩ | ⟨a, len, cap, elems, rest, q, rfl, e2, _, hb, hl, hm, hlen, hel, _, _⟩
    · simp at e2
      subst e2
      exact ⟨mkT k r [], none, 0, rfl, LIn.nil, ew, fun x hx => by cases hx⟩
    · simp at e2
      subst e2
      obtain ⟨l, hll, hp⟩ := list_of (P := fun i (T : TT n) => ∃ a' c', w.cells? base (a.add (i * 3)) 3 = some [.int .i64 T.kind, .int .i64 T.r, .slice a' T.len c'] ∧ TIn w All T a' ∧ T.ok) len (fun i hi => by
        have he := hel i hi
        rw [List.getElem?_eq_getElem (by omega), hc] at he
        rw [Option.bind_eq_some_iff] at he
        obtain ⟨cs', hcs, htr⟩ := he
        obtain ⟨T, a', c', rfl, t1, t2⟩ := ih q (by omega) htr
        exact ⟨T, a', c', hcs, t1, t2⟩)
      refine ⟨mkT k r l, some a, cap, by simp [TT.kind, TT.r, TT.len, hll], fun i x hx => ?_, ew, fun x hx => ?_⟩
      · obtain ⟨a', c', hcs, t1, t2⟩ := hp i x hx
        obtain ⟨_, hcl', hcell⟩ := World.cells?_some hcs
        have q0 := hcell 0 (by omega)
        have q1 := hcell 1 (by omega)
        have q2 := hcell 2 (by omega)
        obtain ⟨b, off, spot⟩ := a
        have hspot : spot = none := by
          have hi : 0 < l.length := Nat.lt_of_le_of_lt (Nat.zero_le i) (List.getElem?_eq_some_iff.1 hx).1
          obtain ⟨_, _, hcs0, _, _⟩ := hp 0 l[0] (List.getElem?_eq_getElem hi)
          have := (World.cells?_some hcs0).2.2 0 (by omega)
          simpa [Addr.add] using World.cell?_spot this
        subst hspot
        rw [Go.WideShapes.add_plain, Go.WideShapes.add_plain] at q0 q1 q2
        exact ⟨b, off, a', c', rfl, trivial, q0, q1, q2, t1⟩
      · obtain ⟨i, hi, rfl⟩ := List.mem_iff_getElem.1 hx
        obtain ⟨a', c', hcs, t1, t2⟩ := hp i l[i] (List.getElem?_eq_getElem hi)
        exact t2

#print axioms tin_of
end Go.Proofs.Ytcenkidhaoncgad
