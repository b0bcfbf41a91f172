/-
  Rows of values that a law builds by append.
-/
import Derived.Test.YtjhdpajpibdnaaeHpBeg
import Derived.Test.YtjhdpajpibdnaaeLay
namespace Go.Proofs.Ytjhdpajpibdnaae
open Go.ChangeShapes Go.WideShapes Go.ChangeAt Go.RowKit
set_option linter.unusedVariables false
set_option linter.unusedSimpArgs false

def vcells (v : HVal) : List Value := [.int .i64 v.kind, .int .i64 v.region, .int .i64 v.thing, .int .i64 v.n]
def vflat (l : List HVal) : List Value := l.flatMap vcells
theorem vflat_snoc (l : List HVal) (x : HVal) : vflat (l ++ [x]) = vflat l ++ vcells x := by simp [vflat]
theorem vflat_len : ∀ l : List HVal, (vflat l).length = l.length * 4
  | [] => rfl
  | x :: r => by have := vflat_len r; simp [vflat, vcells] at this ⊢; omega
theorem vflat_at : ∀ (l : List HVal) (i : Nat) (x : HVal), l[i]? = some x → ∀ j, j < 4 → (vflat l)[i * 4 + j]? = (vcells x)[j]?
  | [], _, _, h, _, _ => by simp at h
  | y :: r, 0, x, h, j, hj => by
    simp at h; subst h
    show (vcells y ++ vflat r)[0 * 4 + j]? = _
    rw [List.getElem?_append_left (by simp [vcells]; omega)]; simp
  | y :: r, i + 1, x, h, j, hj => by
    have ih := vflat_at r i x (by simpa using h) j hj
    show (vcells y ++ vflat r)[(i + 1) * 4 + j]? = _
    rw [List.getElem?_append_right (by simp [vcells]; omega), ← ih]
    congr 1
    simp [vcells]; omega
def VRow (w : World) (v : Value) (l : List HVal) : Prop := w.ownsRow 0 37 4 v l.length (vflat l)
theorem VRow.nil (w : World) : VRow w (.slice none 0 0) [] := ⟨rfl, .inl ⟨rfl, rfl⟩⟩
theorem VRow.form {w : World} {v : Value} {l : List HVal} (h : VRow w v l) : ∃ a c, v = .slice a l.length c := by
  rcases h.2 with ⟨e, e0⟩ | ⟨g, cap, cur, e, _⟩
  · exact ⟨none, 0, by rw [e, e0]⟩
  · exact ⟨_, _, e⟩
theorem VRow.vin {w : World} {a : Option Addr} {n c : Nat} {l : List HVal} (h : VRow w (.slice a n c) l) : VIn w a l := fun i x hx => by
  have hi := (List.getElem?_eq_some_iff.1 hx).1
  rcases h.2 with ⟨e, e0⟩ | ⟨g, cap, cur, e, -, hh, -, -, -, hk⟩
  · omega
  · simp only [Value.slice.injEq] at e
    have c : ∀ j, j < 4 → w.cell? ⟨g, 0 + i * 4 + j, none⟩ = (vcells x)[j]? := fun j hj => by
      have h1 := vflat_at l i x hx j hj
      rw [← hk, List.getElem?_take, if_pos (by omega)] at h1
      obtain ⟨u, hu⟩ : ∃ u, (vcells x)[j]? = some u := ⟨_, List.getElem?_eq_getElem (by simp [vcells]; omega)⟩
      rw [hu] at h1 ⊢
      exact cellOf hh _ _ (by rw [Nat.zero_add]; simpa using h1)
    exact ⟨g, 0, e.1, lt_of_block hh, c 0 (by decide), c 1 (by decide), c 2 (by decide), c 3 (by decide)⟩
theorem VRow.keep {w w' : World} {v : Value} {l : List HVal} (h : VRow w v l) (hb : ∀ x, v.ownBlock = some x → w'.heap[x]? = w.heap[x]?) : VRow w' v l := rowKeep h hb
theorem VRow.lt {w : World} {v : Value} {l : List HVal} (h : VRow w v l) {x : Nat} (hx : v.ownBlock = some x) : x < w.heap.size := by
  obtain ⟨c, hc⟩ := rowBlock h hx; exact lt_of_block hc
theorem vone (a b c d : Int) : ∀ u ∈ [Value.int .i64 a, .int .i64 b, .int .i64 c, .int .i64 d], u.oneCell' = true := by
  intro u hu
  simp at hu
  rcases hu with rfl | rfl | rfl | rfl <;> rfl
theorem ownBlock_some {a : Option Addr} {n c x : Nat} (h : (Value.slice a n c).ownBlock = some x) : ∃ ad, a = some ad ∧ ad.block = x := by
  cases a with
  | none => simp [Value.ownBlock] at h
  | some ad => exact ⟨ad, rfl, by simpa [Value.ownBlock] using h⟩
/-- What came in: a list of numbers, element by element. -/
theorem ints_in {w : World} {O : Nat → Prop} {l : List Int} {a : Option Addr} {n c : Nat} (h : Lay.int.list.In w O l [.slice a n c]) {q : Nat} {y : Int} (hy : l[q]? = some y) : ∃ g o, a = some ⟨g, o, none⟩ ∧ g < w.heap.size ∧ w.cell? ⟨g, o + q, none⟩ = some (.int .i64 y) := by
  obtain ⟨a', c', e, hl⟩ := h
  simp only [List.cons.injEq, Value.slice.injEq, and_true] at e
  obtain ⟨g, o, ds, e1, -, hlt, hc, hi⟩ := hl q y hy
  have := hc 0 (by decide)
  rw [hi.1] at this
  exact ⟨g, o, e.1.trans e1, hlt, by simpa [Lay.int] using this⟩
end Go.Proofs.Ytjhdpajpibdnaae
