/-
  How plain data lie in memory: numbers, pairs of data one behind the other (the fields of a struct), slices of data. One notion for all of them, with what stays, what came in, what grows by append. No function of the program is spoken of.
-/
import Derived.Test.YtjhdpajpibdnaaeCore
import Derived.Deep.Slices
import Derived.Deep.Strs
import Derived.Below
import Derived.ChangeOld
namespace Go.Proofs.Ytjhdpajpibdnaae
open Go.ChangeShapes Go.WideShapes Go.ChangeAt Go.RowKit Go.Deep
set_option linter.unusedVariables false

/-- How the data of one type lie: in how many cells, and when just these cells hold the datum x, all that they lead to in blocks among O. -/
structure Lay (α : Type) where
  size : Nat
  In : World → (Nat → Prop) → α → List Value → Prop
  len : ∀ {w O x cs}, In w O x cs → cs.length = size
  keep : ∀ {w w' : World} {O O' : Nat → Prop} {x cs}, (∀ k, O k → k < w.heap.size → w'.heap[k]? = w.heap[k]?) → (∀ k, O k → k < w.heap.size → O' k) → In w O x cs → In w' O' x cs

section
variable {α β : Type} {L : Lay α} {w w' : World} {O O' : Nat → Prop} {x : α} {cs : List Value}
theorem Lay.below (h : L.In w O x cs) (b : Below w.heap.size w w') : L.In w' O x cs := L.keep (fun k _ hk => b.block k hk) (fun _ h _ => h) h
theorem Lay.lt {B : Nat} (h : L.In w (fun g => g < B) x cs) (b : Below B w w') : L.In w' (fun g => g < B) x cs := L.keep (fun k hk _ => b.block k hk) (fun _ h _ => h) h
theorem Lay.mono (h : L.In w O x cs) (hl : ∀ k, O k → k < w.heap.size → O' k) : L.In w O' x cs := L.keep (fun k _ _ => rfl) hl h
theorem Lay.alloc (h : L.In w O x cs) (o : Obj) : L.In (w.alloc o) O x cs := L.keep (fun k _ hk => Below.heap_alloc _ _ _ hk) (fun _ h _ => h) h
theorem Lay.setCell (h : L.In w O x cs) {p : Addr} (hp : ¬ O p.block) (v : Value) : L.In (w.setCell p v) O x cs :=
  L.keep (fun k hk _ => Below.heap_setCell _ _ _ _ (fun e => by subst e; exact hp hk)) (fun _ h _ => h) h
theorem Lay.drewN (h : L.In w O x cs) (m : Nat) : L.In (w.drewN m) O x cs := L.keep (w := w) (w' := w.drewN m) (fun k _ _ => rfl) (fun _ h _ => h) h
end

/-- A number. -/
def Lay.int : Lay Int where
  size := 1
  In := fun _ _ x cs => cs = [.int .i64 x] ∧ -9223372036854775808 ≤ x ∧ x ≤ 9223372036854775807
  len := fun h => by rw [h.1]; rfl
  keep := fun _ _ h => h

/-- One behind the other. -/
def Lay.pair {α β : Type} (A : Lay α) (B : Lay β) : Lay (α × β) where
  size := A.size + B.size
  In := fun w O x cs => ∃ c d, cs = c ++ d ∧ A.In w O x.1 c ∧ B.In w O x.2 d
  len := fun ⟨c, d, e, h1, h2⟩ => by rw [e, List.length_append, A.len h1, B.len h2]
  keep := fun hb hl ⟨c, d, e, h1, h2⟩ => ⟨c, d, e, A.keep hb hl h1, B.keep hb hl h2⟩

/-- A slice of such data: element i in the cells behind the address. -/
def Lay.list {α : Type} (A : Lay α) : Lay (List α) where
  size := 1
  In := fun w O l cs => ∃ a c, cs = [.slice a l.length c] ∧ ∀ (i : Nat) (x : α), l[i]? = some x → ∃ g o ds, a = some ⟨g, o, none⟩ ∧ O g ∧ g < w.heap.size ∧ (∀ j, j < A.size → w.cell? ⟨g, o + i * A.size + j, none⟩ = ds[j]?) ∧ A.In w O x ds
  len := fun ⟨_, _, e, _⟩ => by rw [e]; rfl
  keep := fun {w w' O O' l cs} hb hl ⟨a, c, e, h⟩ => ⟨a, c, e, fun i x hx => by
    obtain ⟨g, o, ds, e1, hg, hlt, hc, hi⟩ := h i x hx
    have hk : w'.heap[g]? = w.heap[g]? := hb g hg hlt
    refine ⟨g, o, ds, e1, hl g hg hlt, ?_, fun j hj => ?_, A.keep hb hl hi⟩
    · rcases Nat.lt_or_ge g w'.heap.size with h' | h'
      · exact h'
      · rw [Array.getElem?_eq_none h', Array.getElem?_eq_getElem hlt] at hk; cases hk
    · exact (World.cell?_of_block (w := w) (a := ⟨g, o + i * A.size + j, none⟩) hk).trans (hc j hj)⟩

theorem Lay.int_mk (w : World) (O : Nat → Prop) {x : Int} (h : -9223372036854775808 ≤ x ∧ x ≤ 9223372036854775807) : Lay.int.In w O x [.int .i64 x] := ⟨rfl, h⟩
theorem Lay.pair_mk {α β : Type} {A : Lay α} {B : Lay β} {w : World} {O : Nat → Prop} {x : α} {y : β} {c d : List Value} (h1 : A.In w O x c) (h2 : B.In w O y d) : (A.pair B).In w O (x, y) (c ++ d) := ⟨c, d, rfl, h1, h2⟩
theorem Lay.list_nil {α : Type} (A : Lay α) (w : World) (O : Nat → Prop) (a : Option Addr) (c : Nat) : A.list.In w O [] [.slice a 0 c] := ⟨a, c, rfl, fun i x h => by simp at h⟩
/-- An element. -/
theorem Lay.list_at {α : Type} {A : Lay α} {w : World} {O : Nat → Prop} {l : List α} {a : Option Addr} {n c : Nat} (h : A.list.In w O l [.slice a n c]) {i : Nat} {x : α} (hx : l[i]? = some x) :
    ∃ g o ds, a = some ⟨g, o, none⟩ ∧ O g ∧ g < w.heap.size ∧ (∀ j, j < A.size → w.cell? ⟨g, o + i * A.size + j, none⟩ = ds[j]?) ∧ A.In w O x ds := by
  obtain ⟨a', c', e, h⟩ := h
  simp at e
  obtain ⟨rfl, _, rfl⟩ := e
  exact h i x hx
theorem Lay.list_len {α : Type} {A : Lay α} {w : World} {O : Nat → Prop} {l : List α} {a : Option Addr} {n c : Nat} (h : A.list.In w O l [.slice a n c]) : n = l.length := by
  obtain ⟨a', c', e, h⟩ := h
  simp at e
  exact e.2.1

/-! ### what came in -/

/-- Whatever reads as t (its reading no deeper than n) is such a datum. -/
def Reads (P : Program) (t : TypeId) {α : Type} (A : Lay α) (n : Nat) : Prop :=
  P.cellsOf t = A.size ∧ ∀ {H : Type} {enc : TypeId × Value → H} {w : World} {base : Nat} {spare : Nat → Bool} {held : Bool} {fuel : Nat} {cs : List Value} {x : DataW H × List MemPlace},
    fuel ≤ n → DataW.trod enc P w base spare held fuel t cs = some x → ∃ d, A.In w (fun _ => True) d cs

theorem Reads.int {P : Program} {t : TypeId} (n : Nat) (h : P.underlying t = some (.int .i64)) (hc : P.cellsOf t = 1) : Reads P t Lay.int n :=
  ⟨hc, fun _ h' => by
    obtain ⟨k, e, _, wf⟩ := DataW.trod_int h h'
    exact ⟨k, e, Go.bounds_i64 wf⟩⟩

/-- A list of functions' values. -/
theorem list_of' {α : Type} {P : Nat → α → Prop} (m : Nat) (h : ∀ i, i < m → ∃ x, P i x) : ∃ l : List α, l.length = m ∧ ∀ i x, l[i]? = some x → P i x := by
  induction m with
  | zero => exact ⟨[], rfl, fun i x hx => by simp at hx⟩
  | succ m ih =>
    obtain ⟨l, hl, hp⟩ := ih (fun i hi => h i (by omega))
    obtain ⟨x, hx⟩ := h m (by omega)
    refine ⟨l ++ [x], by simp [hl], fun i y hy => ?_⟩
    rw [List.getElem?_append] at hy
    split at hy
    · exact hp i y hy
    · rename_i hi
      have : i = m := by
        have := (List.getElem?_eq_some_iff.1 hy).1
        simp at this
        omega
      subst this
      simp [hl] at hy
      subst hy
      exact hx

theorem Reads.list {P : Program} {t e : TypeId} {α : Type} {A : Lay α} {n : Nat} (h : P.underlying t = some (.slice e)) (hc : P.cellsOf t = 1) (hA : Reads P e A n) (h0 : 0 < A.size) : Reads P t A.list (n + 1) :=
  ⟨hc, fun {H enc w base spare held fuel cs x} hf h' => by
    rcases DataW.trod_slice h h' with ⟨e2, _⟩ | ⟨a, len, cap, elems, rest, q, rfl, e2, _, hb, hl, hm, hlen, hel, _, _⟩
    · exact ⟨[], by rw [e2]; exact Lay.list_nil A _ _ _ _⟩
    · obtain ⟨l, hll, hp⟩ := list_of' (P := fun i (d : α) => ∃ ds, w.cells? base (a.add (i * A.size)) A.size = some ds ∧ A.In w (fun _ => True) d ds) len (fun i hi => by
        have he := hel i hi
        rw [List.getElem?_eq_getElem (by omega), hA.1] at he
        rw [Option.bind_eq_some_iff] at he
        obtain ⟨ds, hds, htr⟩ := he
        obtain ⟨d, hd⟩ := hA.2 (by omega) htr
        exact ⟨d, ds, hds, hd⟩)
      refine ⟨l, some a, cap, by rw [e2, hll], fun i x hx => ?_⟩
      obtain ⟨ds, hds, hd⟩ := hp i x hx
      obtain ⟨_, hcl, hcell⟩ := World.cells?_some hds
      obtain ⟨b, off, spot⟩ := a
      have hspot : spot = none := by
        have hi : 0 < l.length := Nat.lt_of_le_of_lt (Nat.zero_le i) (List.getElem?_eq_some_iff.1 hx).1
        obtain ⟨ds0, hds0, hd0⟩ := hp 0 l[0] (List.getElem?_eq_getElem hi)
        have hl0 : 0 < ds0.length := by rw [A.len hd0]; exact h0
        have := (World.cells?_some hds0).2.2 0 h0
        rw [List.getElem?_eq_getElem hl0] at this
        simpa [Addr.add] using World.cell?_spot this
      subst hspot
      have key : ∀ j, j < A.size → w.cell? ⟨b, off + i * A.size + j, none⟩ = ds[j]? := fun j hj => by
        have := hcell j hj
        rw [Go.WideShapes.add_plain, Go.WideShapes.add_plain] at this
        exact this
      refine ⟨b, off, ds, rfl, trivial, ?_, key, hd⟩
      have hl0 : 0 < ds.length := by rw [A.len hd]; exact h0
      have := key 0 h0
      rw [List.getElem?_eq_getElem hl0] at this
      exact World.block_lt_of_cell? w _ this⟩

theorem Reads.mono {P : Program} {t : TypeId} {α : Type} {A : Lay α} {n m : Nat} (h : Reads P t A n) (hm : m ≤ n) : Reads P t A m := ⟨h.1, fun hf h' => h.2 (Nat.le_trans hf hm) h'⟩

/-- Fields one behind the other, from the field i on, at the cell o. -/
def FieldsFrom (P : Program) (fs : Array Field) : Nat → Nat → {α : Type} → Lay α → Nat → Prop := fun i o α A n =>
  ∀ {H : Type} {enc : TypeId × Value → H} {w : World} {base : Nat} {spare : Nat → Bool} {held : Bool} {fuel : Nat} {cs : List Value} {xs : List (DataW H × List MemPlace)},
    fuel ≤ n → cs.length = o + A.size → xs.length = fs.size → (∀ (j : Nat) (f : Field), fs[j]? = some f → DataW.trod enc P w base spare held fuel f.type ((cs.drop f.offset).take (P.cellsOf f.type)) = xs[j]?) →
    ∃ d, A.In w (fun _ => True) d (cs.drop o)

theorem FieldsFrom.last {P : Program} {fs : Array Field} {i o n : Nat} {f : Field} {α : Type} {A : Lay α} (hf : fs[i]? = some f) (ho : f.offset = o) (hA : Reads P f.type A n) : FieldsFrom P fs i o A n := by
  intro H enc w base spare held fuel cs xs hn hl hx h
  have g := h i f hf
  have hi : i < fs.size := (Array.getElem?_eq_some_iff.1 hf).1
  rw [List.getElem?_eq_getElem (by omega), ho, hA.1] at g
  obtain ⟨d, hd⟩ := hA.2 hn g
  refine ⟨d, ?_⟩
  rwa [List.take_of_length_le (by simp; omega)] at hd

theorem FieldsFrom.cons {P : Program} {fs : Array Field} {i o n : Nat} {f : Field} {α β : Type} {A : Lay α} {B : Lay β} (hf : fs[i]? = some f) (ho : f.offset = o) (hA : Reads P f.type A n) (hB : FieldsFrom P fs (i + 1) (o + A.size) B n) : FieldsFrom P fs i o (A.pair B) n := by
  intro H enc w base spare held fuel cs xs hn hl hx h
  have g := h i f hf
  have hi : i < fs.size := (Array.getElem?_eq_some_iff.1 hf).1
  rw [List.getElem?_eq_getElem (by omega), ho, hA.1] at g
  obtain ⟨d, hd⟩ := hA.2 hn g
  have hs : (A.pair B).size = A.size + B.size := rfl
  obtain ⟨e, he⟩ := hB hn (by omega) hx h
  refine ⟨(d, e), _, _, ?_, hd, he⟩
  rw [← List.drop_drop, List.take_append_drop]

theorem Reads.struct {P : Program} {t : TypeId} {fs : Array Field} {α : Type} {A : Lay α} {n : Nat} (h : P.underlying t = some (.struct fs)) (hc : P.cellsOf t = A.size) (hF : FieldsFrom P fs 0 0 A n) : Reads P t A (n + 1) :=
  ⟨hc, fun {H enc w base spare held fuel cs x} hf h' => by
    obtain ⟨xs, m, rfl, _, hcl, hxl, hfl⟩ := DataW.trod_struct h h'
    obtain ⟨d, hd⟩ := hF (by omega) (by rw [hcl, hc]; omega) hxl hfl
    exact ⟨d, by simpa using hd⟩⟩

/-! ### a row that grows -/

/-- The slice value v owns a row of the data l, all in blocks from lo on, what they lead to in other blocks than the row's. -/
structure ARow {α : Type} (A : Lay α) (e : TypeId) (w : World) (lo : Nat) (v : Value) (l : List α) (xs : List Value) : Prop where
  own : w.ownsRow lo e A.size v l.length xs
  kids : ∀ (i : Nat) (x : α), l[i]? = some x → A.In w (fun g => lo ≤ g ∧ v.ownBlock ≠ some g) x ((xs.drop (i * A.size)).take A.size)

section
variable {α : Type} {A : Lay α} {e : TypeId} {w w' : World} {lo : Nat} {v : Value} {l : List α} {xs : List Value}
theorem ARow.nil (A : Lay α) (e : TypeId) (w : World) (lo : Nat) : ARow A e w lo (.slice none 0 0) [] [] := ⟨⟨by simp, Or.inl ⟨rfl, rfl⟩⟩, fun i x h => by simp at h⟩

theorem ARow.lo_le (h : ARow A e w lo v l xs) {g : Nat} (hg : v.ownBlock = some g) : lo ≤ g ∧ g < w.heap.size := by
  obtain ⟨⟨h1, h2⟩, h3⟩ := h
  rcases h2 with ⟨rfl, h4⟩ | ⟨g', cap, cur, rfl, hg', hh, r⟩
  · simp [Value.ownBlock] at hg
  · simp [Value.ownBlock] at hg; subst hg; exact ⟨hg', lt_of_block hh⟩

theorem ARow.below (h : ARow A e w lo v l xs) (b : Below w.heap.size w w') : ARow A e w' lo v l xs := by
  obtain ⟨⟨h1, h2⟩, h3⟩ := h
  refine ⟨⟨h1, ?_⟩, fun i x hx => Lay.below (h3 i x hx) b⟩
  rcases h2 with h4 | ⟨g, cap, cur, e, hg, hh, r⟩
  · exact Or.inl h4
  · exact Or.inr ⟨g, cap, cur, e, hg, (b.block g (lt_of_block hh)).trans hh, r⟩

/-- A store elsewhere. -/
theorem ARow.setOther (h : ARow A e w lo v l xs) {p : Addr} (hp : p.block < lo) (y : Value) : ARow A e (w.setCell p y) lo v l xs := by
  obtain ⟨⟨h1, h2⟩, h3⟩ := h
  refine ⟨⟨h1, ?_⟩, fun i x hx => Lay.setCell (h3 i x hx) (fun hk => by have := hk.1; omega) _⟩
  rcases h2 with h4 | ⟨g, cap, cur, e, hg, hh, r⟩
  · exact Or.inl h4
  · exact Or.inr ⟨g, cap, cur, e, hg, (Below.heap_setCell _ _ _ _ (by omega)).trans hh, r⟩

/-- What it is at last. -/
theorem ARow.lay (h : ARow A e w lo v l xs) : A.list.In w (fun g => lo ≤ g) l [v] := by
  obtain ⟨⟨h1, h2⟩, h3⟩ := h
  rcases h2 with ⟨rfl, h4⟩ | ⟨g, cap, cur, rfl, hg, hh, hn, hm, hs, ht⟩
  · have : l = [] := List.length_eq_zero_iff.1 h4
    subst this
    exact Lay.list_nil A _ _ _ _
  · refine ⟨some ⟨g, 0, none⟩, cap, rfl, fun i x hx => ⟨g, 0, _, rfl, hg, lt_of_block hh, fun j hj => ?_, Lay.mono (h3 i x hx) (fun k hk _ => hk.1)⟩⟩
    have hi : i < l.length := (List.getElem?_eq_some_iff.1 hx).1
    have hij : i * A.size + j < l.length * A.size := by
      have : (i + 1) * A.size ≤ l.length * A.size := Nat.mul_le_mul_right _ hi
      rw [Nat.add_mul] at this
      omega
    rw [List.getElem?_take, if_pos hj, List.getElem?_drop, ← ht, List.getElem?_take, if_pos hij, Nat.zero_add]
    have hcs : i * A.size + j < cur.size := by
      have : l.length * A.size ≤ cap * A.size := Nat.mul_le_mul_right _ hn
      omega
    rw [Array.getElem?_toList]
    exact (cellOf hh _ cur[i * A.size + j] (Array.getElem?_eq_getElem hcs)).trans (Array.getElem?_eq_getElem hcs).symm

/-- One more, what it leads to in blocks that are none of the row's. -/
theorem ARow.push (h : ARow A e w lo v l xs) {x : α} {ds : List Value} (hx : A.In w (fun g => lo ≤ g ∧ v.ownBlock ≠ some g) x ds)
    {g cap : Nat} (hg : w.grownBy w' v.ownBlock) (hat : v.ownBlock = some g ∨ g = w.heap.size)
    (ho : w'.ownsRow lo e A.size (.slice (some ⟨g, 0, none⟩) (l.length + 1) cap) (l.length + 1) (xs ++ ds)) :
    ARow A e w' lo (.slice (some ⟨g, 0, none⟩) (l.length + 1) cap) (l ++ [x]) (xs ++ ds) := by
  obtain ⟨h1, h3⟩ := h
  have hxl := h1.1
  have hdl := A.len hx
  have keep : ∀ {y : α} {es : List Value}, A.In w (fun g => lo ≤ g ∧ v.ownBlock ≠ some g) y es → A.In w' (fun g' => lo ≤ g' ∧ (Value.slice (some ⟨g, 0, none⟩) (l.length + 1) cap).ownBlock ≠ some g') y es := fun hy => by
    refine A.keep (fun k hk hl => ?_) (fun k hk hl => ⟨hk.1, ?_⟩) hy
    · exact hg.block k hl (fun e => hk.2 e.symm)
    · simp only [Value.ownBlock, ne_eq, Option.some.injEq]
      intro e
      subst e
      rcases hat with h' | h'
      · exact hk.2 h'
      · omega
  refine ⟨by rw [List.length_append]; exact ho, fun i y hy => ?_⟩
  rw [List.getElem?_append] at hy
  split at hy
  · rename_i hi
    have hm : (i + 1) * A.size ≤ l.length * A.size := Nat.mul_le_mul_right _ hi
    rw [Nat.add_mul] at hm
    have := h3 i y hy
    rw [List.drop_append_of_le_length (by omega), List.take_append_of_le_length (by simp; omega)]
    exact keep this
  · rename_i hi
    have hi2 : i = l.length := by
      have := (List.getElem?_eq_some_iff.1 hy).1
      simp at this
      omega
    subst hi2
    simp at hy
    subst hy
    rw [List.drop_append, List.drop_of_length_le (by omega), ← hxl, Nat.sub_self, List.drop_zero, List.nil_append, List.take_of_length_le (by omega)]
    exact keep hx
end
end Go.Proofs.Ytjhdpajpibdnaae
