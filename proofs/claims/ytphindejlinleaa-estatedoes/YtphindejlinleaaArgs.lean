/-
  A slice of structs of integers that came in: where its numbers lie. Plain laws on readings; no function of the program is spoken of.
-/
import Derived.Test.YtphindejlinleaaCore
import Derived.Deep.Slices
import Derived.Deep.Strs
import Derived.Below
import Derived.ChangeOld
namespace Go.Proofs.Ytphindejlinleaa
open Go.ChangeShapes Go.WideShapes Go.ChangeAt Go.RowKit Go.Deep
set_option linter.unusedVariables false

/-- The structs lie one behind the other, m numbers each: number j of the struct i is F i j. -/
def Lies (w : World) (a : Option Addr) (len m : Nat) (F : Nat → Nat → Int) : Prop :=
  ∀ i, i < len → ∃ g o, a = some ⟨g, o, none⟩ ∧ ∀ j, j < m → w.cell? ⟨g, o + i * m + j, none⟩ = some (.int .i64 (F i j))

theorem lies_of {H : Type} {enc : TypeId × Value → H} {P : Program} {w : World} {base : Nat} {spare : Nat → Bool} {held : Bool} {t e : TypeId} {fs : Array Field} {fuel : Nat} {a : Option Addr} {len cap : Nat} {x : DataW H × List MemPlace}
    (ht : P.underlying t = some (.slice e)) (he : P.underlying e = some (.struct fs)) (hc : P.cellsOf e = fs.size) (h0 : 0 < fs.size)
    (hf : ∀ (j : Nat) (f : Field), fs[j]? = some f → f.offset = j ∧ P.cellsOf f.type = 1 ∧ P.underlying f.type = some (.int .i64))
    (h : DataW.trod enc P w base spare held fuel t [.slice a len cap] = some x) : ∃ F, Lies w a len fs.size F := by
  rcases open_slice ht h with ⟨h1, _⟩ | ⟨a', len', cap', m, n, D, Pl, hcs, _, hl, _, hm, _, hx⟩
  · simp at h1
    obtain ⟨rfl, rfl, rfl⟩ := h1
    exact ⟨fun _ _ => 0, fun i hi => absurd hi (Nat.not_lt_zero _)⟩
  · simp at hcs
    obtain ⟨rfl, rfl, rfl⟩ := hcs
    have hlm : len ≤ m := by rw [hm]; split <;> omega
    have key : ∀ i, i < len → ∀ j, j < fs.size → ∃ k, w.cell? ((a'.add (i * fs.size)).add j) = some (.int .i64 k) := by
      intro i hi j hj
      obtain ⟨cs', h2, h3⟩ := hx i (by omega)
      rw [hc] at h2
      obtain ⟨_, hcl, hcell⟩ := World.cells?_some h2
      obtain ⟨xs, k, hk, _, _, hxl, hfl⟩ := DataW.trod_struct he h3
      have hfj : fs[j]? = some fs[j] := Array.getElem?_eq_getElem hj
      obtain ⟨o1, o2, o3⟩ := hf j _ hfj
      have g := hfl j _ hfj
      rw [o1, o2] at g
      have hxj : xs[j]? = some xs[j] := List.getElem?_eq_getElem (by omega)
      rw [hxj] at g
      obtain ⟨q, e1, _, _⟩ := DataW.trod_int o3 g
      refine ⟨q, ?_⟩
      rw [hcell j hj]
      have : (List.take 1 (List.drop j cs'))[0]? = some (.int .i64 q) := by rw [e1]; rfl
      rw [List.getElem?_take, if_pos (by omega), List.getElem?_drop] at this
      simpa using this
    by_cases hp : 0 < len
    · obtain ⟨b, off, spot⟩ := a'
      have hspot : spot = none := by
        obtain ⟨k, hk⟩ := key 0 hp 0 h0
        simpa [Addr.add] using World.cell?_spot hk
      subst hspot
      refine ⟨fun i j => intOf ((w.cell? ⟨b, off + i * fs.size + j, none⟩).getD (.bool false)), fun i hi => ⟨b, off, rfl, fun j hj => ?_⟩⟩
      obtain ⟨k, hk⟩ := key i hi j hj
      rw [Go.WideShapes.add_plain, Go.WideShapes.add_plain] at hk
      simp only [hk, Option.getD_some, intOf]
    · exact ⟨fun _ _ => 0, fun i hi => by omega⟩

#print axioms lies_of
end Go.Proofs.Ytphindejlinleaa
