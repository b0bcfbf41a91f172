/-
  Boxes: whole blocks that a call has made, and that they stay. No function of the program is spoken of.
-/
import Derived.Test.YtcenkidhaoncgadCore
namespace Go.Proofs.Ytcenkidhaoncgad
open Go.ChangeShapes Go.WideShapes Go.ChangeAt Go.RowKit
set_option linter.unusedVariables false

theorem undrewN_below {B m : Nat} {w w' : World} (h : Below B (w.drewN m) w') : Below B w w' := ⟨h.os, h.tape, h.output, h.size, h.block⟩
theorem drewN_below {B m : Nat} {w w' : World} (h : Below B w w') : Below B w (w'.drewN m) := ⟨h.os, h.tape, h.output, h.size, h.block⟩
theorem box_cells {w wr : World} {B : Nat} {c : Array Value} {ty : TypeId} (h : wr.heap[B]? = some (.cells c ty (0, 0))) (b : Below wr.heap.size wr w) : w.heap[B]? = some (.cells c ty (0, 0)) :=
  (b.block B (lt_of_block h)).trans h
/-- A whole block. -/
abbrev Blk (w : World) (B : Nat) (c : Array Value) (t : TypeId) : Prop := w.heap[B]? = some (.cells c t (0, 0))
theorem Blk.below {w w' : World} {B : Nat} {c : Array Value} {t : TypeId} (h : Blk w B c t) (b : Below w.heap.size w w') : Blk w' B c t := box_cells h b
theorem Blk.alloc {w : World} {B : Nat} {c : Array Value} {t : TypeId} (h : Blk w B c t) (o : Obj) : Blk (w.alloc o) B c t := box_cells h ((Below.refl _ w).alloc (Nat.le_refl _) _)
theorem Blk.new (w : World) (c : Array Value) (t : TypeId) : Blk (w.alloc (.cells c t)) w.heap.size c t := blockNew w c t
theorem Blk.drewN {w : World} {B : Nat} {c : Array Value} {t : TypeId} (h : Blk w B c t) (m : Nat) : Blk (w.drewN m) B c t := h
theorem Blk.lt {w : World} {B : Nat} {c : Array Value} {t : TypeId} (h : Blk w B c t) : B < w.heap.size := lt_of_block h
theorem Blk.setOther {w : World} {B : Nat} {c : Array Value} {t : TypeId} (h : Blk w B c t) {p : Addr} (hp : p.block ≠ B) (v : Value) : Blk (w.setCell p v) B c t := (Below.heap_setCell _ _ _ _ (fun e => hp e.symm)).trans h

/-- One, two boxes: the world at a call's beginning. -/
theorem bel1 (w : World) (o : Obj) : Below w.heap.size w (w.alloc o) := (Below.refl _ w).alloc (Nat.le_refl _) _
theorem bel2 (w : World) (o p : Obj) : Below w.heap.size w ((w.alloc o).alloc p) := (bel1 w o).alloc (by simp) _
theorem Below.andThen {w w1 w2 : World} (h : Below w.heap.size w w1) (b : Below w1.heap.size w1 w2) : Below w.heap.size w w2 := h.trans (b.mono h.size)
theorem Blk.new1 (w : World) (c d : Array Value) (t u : TypeId) : Blk ((w.alloc (.cells c t)).alloc (.cells d u)) w.heap.size c t := (Blk.new w c t).alloc _
theorem Blk.new2 (w : World) (o : Obj) (d : Array Value) (u : TypeId) : Blk ((w.alloc o).alloc (.cells d u)) (w.heap.size + 1) d u := by
  have := Blk.new (w.alloc o) d u
  simpa using this
end Go.Proofs.Ytcenkidhaoncgad
