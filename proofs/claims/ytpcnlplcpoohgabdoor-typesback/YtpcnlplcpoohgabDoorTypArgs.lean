/-
  The arguments of the laws on types, as they came in; the library's table; the heap in which the program begins.
-/
import Derived.Test.YtpcnlplcpoohgabDoorTypBld
import Derived.Test.YtpcnlplcpoohgabDoorTypRen
import Derived.Lib.LaidTab
import Derived.Stop.LaidErr
import Derived.Stop.Joined
import Derived.LaidMore
import Derived.ProofKit
import Derived.OpenShut
namespace Go.Proofs.YtpcnlplcpoohgabDoor
open Go.ChangeShapes Go.WideShapes Go.ChangeAt Go.RowKit Go.Deep
set_option linter.unusedVariables false

theorem own : ownKnob Tryd.prog.godebug = none := by kernel_rfl
theorem laidOut : laidOutB Tryd.prog = true := by kernel_rfl
theorem cellsT : Tryd.prog.cellsOf 24 = 3 := by kernel_rfl
theorem cellsInt : Tryd.prog.cellsOf 3 = 1 := by kernel_rfl

theorem fieldsT : ∃ f0 f1 f2 : Field, Tryd.prog.underlying 24 = some (.struct #[f0, f1, f2]) ∧
    (f0.offset = 0 ∧ Tryd.prog.cellsOf f0.type = 1 ∧ Tryd.prog.underlying f0.type = some (.int .i64)) ∧ (f1.offset = 1 ∧ Tryd.prog.cellsOf f1.type = 1 ∧ Tryd.prog.underlying f1.type = some (.int .i64)) ∧
    (f2.offset = 2 ∧ Tryd.prog.cellsOf f2.type = 1 ∧ f2.type = 22) :=
  ⟨_, _, _, Tryd.underlying24, ⟨rfl, by kernel_rfl, by kernel_rfl⟩, ⟨rfl, by kernel_rfl, by kernel_rfl⟩, ⟨rfl, by kernel_rfl, rfl⟩⟩

/-- A type that came in is a tree. -/
theorem type_of {H : Type} {enc : TypeId × Value → H} {W : World} {base : Nat} {spare : Nat → Bool} {held : Bool} {v : Value} {fuel : Nat} {x : DataW H × List MemPlace}
    (hv : ∃ cs, v = .agg cs ∧ cs.size = Tryd.prog.cellsOf 24) (h : DataW.trod enc Tryd.prog W base spare held fuel 24 v.cells.toList = some x) (n : Nat) (hn : fuel ≤ n) :
    ∃ (t : TT n) (a : Option Addr) (c : Nat), v = Tv t a c ∧ TIn W All t a ∧ t.ok := by
  obtain ⟨f0, f1, f2, e, h0, h1, h2⟩ := fieldsT
  obtain ⟨t, a, c, hc, h3, h4⟩ := tin_of (ti := 0) underTs e cellsT h0 h1 h2 n fuel hn h
  obtain ⟨cs, rfl, _⟩ := hv
  refine ⟨t, a, c, ?_, h3, h4⟩
  obtain ⟨l⟩ := cs
  simp only [Value.cells] at hc
  rw [hc]

/-- A slice of numbers that came in. -/
theorem ints_of {H : Type} {enc : TypeId × Value → H} {W : World} {base : Nat} {spare : Nat → Bool} {held : Bool} {a : Option Addr} {len cap : Nat} {fuel : Nat} {x : DataW H × List MemPlace}
    (h : DataW.trod enc Tryd.prog W base spare held fuel 25 [.slice a len cap] = some x) : ∃ nm, ToIn W a len nm := by
  rcases open_ints Tryd.underlying25 Tryd.underlying3 cellsInt h with ⟨hc, _⟩ | ⟨a', len', cap', zs, hc, _, hl, _, hz, _, hcell, _⟩
  · simp at hc
    obtain ⟨rfl, rfl, rfl⟩ := hc
    exact ⟨fun _ => 0, fun i hi => by omega⟩
  · simp at hc
    obtain ⟨rfl, rfl, rfl⟩ := hc
    have hlz : len ≤ zs.length := by rw [hz]; split <;> omega
    refine ⟨fun i => zs.getD i 0, fun i hi => ?_⟩
    obtain ⟨b, off, spot⟩ := a'
    have hspot : spot = none := by
      have := hcell 0 (by omega)
      simpa [Addr.add] using World.cell?_spot this
    subst hspot
    have := hcell i (by omega)
    rw [Go.WideShapes.add_plain] at this
    exact ⟨b, off, rfl, this⟩

theorem powT : (Tryd.prog.globals[0]?).map (·.type) = some 68 := by kernel_rfl
theorem powD : (Rows.laid_internal_strconv_uint64pow10 : DataW Unit) = Lib.tabData .u64 Lib.pow10Tab := by kernel_rfl

/-- What the condition gives: the table of powers. -/
theorem pows_of {W : World} (h : laidMetH Tryd.prog Rows.typesDoesRow.laid W) : Pows W := by
  rw [MakeChecks.laidMetH_plain _ _ _ (by kernel_rfl)] at h
  have h3 : laidMet Tryd.prog [(powN, Rows.laid_internal_strconv_uint64pow10)] W := h.tail.tail
  rw [powD] at h3
  exact Lib.tabIs_of_head powG powT Tryd.underlying68 Tryd.underlying61 (by kernel_rfl) (by kernel_rfl) h3

/-- The program's own start meets the condition. -/
theorem door_met (os : Os) (args : Array Value) : laidMetH Tryd.prog Rows.typesDoesRow.laid ((World.doorLaid Tryd.prog 24 os).forCall (fun _ _ => 0) ⟨#[], args, []⟩).memory :=
  laidMetH_of_parts3 (fuel := 8) (laidMet_of_run' 8 (by kernel_rfl) (by kernel_rfl)) (by kernel_rfl) (by kernel_rfl)
end Go.Proofs.YtpcnlplcpoohgabDoor
