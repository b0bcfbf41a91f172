/-
  Package heap: bare, isPart, region, parts; what a value that is answered looks like.
-/
import Derived.Test.YtjhdpajpibdnaaeHpMem2
import Derived.Deep.Cut
import Derived.Deep.AppendLies
namespace Go.Proofs.Ytjhdpajpibdnaae
open Go.ChangeShapes Go.WideShapes Go.ChangeAt Go.RowKit
set_option linter.unusedVariables false
set_option linter.unusedSimpArgs false
theorem belA (w : World) (o : Obj) : Below w.heap.size w (w.alloc o) := (Below.refl _ w).alloc (Nat.le_refl _) _
theorem belowN {B : Nat} {w w1 : World} (h : Below B w w1) (n : Nat) : Below B w (w1.drewN n) := ⟨h.os, h.tape, h.output, h.size, h.block⟩
theorem belAA (w : World) (o o' : Obj) : Below w.heap.size w ((w.alloc o).alloc o') := (belA w o).alloc (by simp) _
theorem newA (w : World) (c : Array Value) (t : TypeId) (o' : Obj) : ((w.alloc (.cells c t)).alloc o').heap[w.heap.size]? = some (.cells c t (0, 0)) := by
  rw [Below.heap_alloc _ _ _ (by simp)]; exact blockNew w c t
theorem newAA (w : World) (o : Obj) (c : Array Value) (t : TypeId) : ((w.alloc o).alloc (.cells c t)).heap[w.heap.size + 1]? = some (.cells c t (0, 0)) := by
  have := blockNew (w.alloc o) c t
  simpa using this
/-- A value stored into a box. -/
theorem st4_blk {w : World} {R : Nat} {a0 a1 a2 a3 : Value} (h : w.heap[R]? = some (.cells #[a0, a1, a2, a3] 37 (0, 0))) (x0 x1 x2 x3 : Int) :
    ((((w.setCell ⟨R, 0, none⟩ (.int .i64 x0)).setCell ⟨R, 1, none⟩ (.int .i64 x1)).setCell ⟨R, 2, none⟩ (.int .i64 x2)).setCell ⟨R, 3, none⟩ (.int .i64 x3)).heap[R]? = some (.cells #[.int .i64 x0, .int .i64 x1, .int .i64 x2, .int .i64 x3] 37 (0, 0)) := by
  have h1 := blockSet h 0 (.int .i64 x0)
  have h2 := blockSet h1 1 (.int .i64 x1)
  have h3 := blockSet h2 2 (.int .i64 x2)
  have h4 := blockSet h3 3 (.int .i64 x3)
  simpa using h4
theorem st4_other {w : World} {R k : Nat} (hk : k ≠ R) (x0 x1 x2 x3 : Int) : ((((w.setCell ⟨R, 0, none⟩ (.int .i64 x0)).setCell ⟨R, 1, none⟩ (.int .i64 x1)).setCell ⟨R, 2, none⟩ (.int .i64 x2)).setCell ⟨R, 3, none⟩ (.int .i64 x3)).heap[k]? = w.heap[k]? := by
  rw [Below.heap_setCell _ _ _ _ hk, Below.heap_setCell _ _ _ _ hk, Below.heap_setCell _ _ _ _ hk, Below.heap_setCell _ _ _ _ hk]
theorem st4_below {w0 w : World} {R B : Nat} (h : Below B w0 w) (hR : B ≤ R) (x0 x1 x2 x3 : Int) : Below B w0 ((((w.setCell ⟨R, 0, none⟩ (.int .i64 x0)).setCell ⟨R, 1, none⟩ (.int .i64 x1)).setCell ⟨R, 2, none⟩ (.int .i64 x2)).setCell ⟨R, 3, none⟩ (.int .i64 x3)) :=
  (((h.setCell (p := ⟨R, 0, none⟩) hR _).setCell (p := ⟨R, 1, none⟩) hR _).setCell (p := ⟨R, 2, none⟩) hR _).setCell (p := ⟨R, 3, none⟩) hR _
theorem st4_step {O O' : Nat → Prop} {w0 w : World} {R : Nat} (h : Step O O' w0 w) (hR : w0.heap.size ≤ R) (x0 x1 x2 x3 : Int) : Step O O' w0 ((((w.setCell ⟨R, 0, none⟩ (.int .i64 x0)).setCell ⟨R, 1, none⟩ (.int .i64 x1)).setCell ⟨R, 2, none⟩ (.int .i64 x2)).setCell ⟨R, 3, none⟩ (.int .i64 x3)) :=
  ⟨h.os, h.tape, h.output, by simpa using h.size, fun k hk hn => (st4_other (by omega) x0 x1 x2 x3).trans (h.block k hk hn), h.own⟩
theorem bare_kind (v : HVal) : v.bare.kind = v.kind := by
  unfold HVal.bare
  split
  · rename_i h; exact h.symm
  · split
    · rename_i h; exact h.symm
    · split <;> rfl
set_option maxHeartbeats 1000000 in
set_option maxRecDepth 100000 in
theorem hbare_int (w : World) (rg th n : Int) : Calls Try.prog 37 #[.agg #[.int .i64 1, .int .i64 rg, .int .i64 th, .int .i64 n]] w fun e w' => e = .returned (.agg #[.int .i64 1, .int .i64 0, .int .i64 0, .int .i64 n]) ∧ Below w.heap.size w w' := by
  go_enter Try.func37, Try.ntmps37
  go_wp2
  exact bodyPost_ret (v := .agg #[.int .i64 1, .int .i64 0, .int .i64 0, .int .i64 n]) (by simp [results, Try.results37, go_sem]) rfl ⟨rfl, belAA _ _ _⟩
set_option maxHeartbeats 1000000 in
set_option maxRecDepth 100000 in
theorem hbare_hdl (w : World) (rg th n : Int) : Calls Try.prog 37 #[.agg #[.int .i64 2, .int .i64 rg, .int .i64 th, .int .i64 n]] w fun e w' => e = .returned (.agg #[.int .i64 2, .int .i64 rg, .int .i64 0, .int .i64 0]) ∧ Below w.heap.size w w' := by
  go_enter Try.func37, Try.ntmps37
  go_wp2
  exact bodyPost_ret (v := .agg #[.int .i64 2, .int .i64 rg, .int .i64 0, .int .i64 0]) (by simp [results, Try.results37, go_sem]) rfl ⟨rfl, belAA _ _ _⟩
set_option maxHeartbeats 1000000 in
set_option maxRecDepth 100000 in
theorem hbare_tup (w : World) (rg th n : Int) : Calls Try.prog 37 #[.agg #[.int .i64 3, .int .i64 rg, .int .i64 th, .int .i64 n]] w fun e w' => e = .returned (.agg #[.int .i64 3, .int .i64 rg, .int .i64 th, .int .i64 0]) ∧ Below w.heap.size w w' := by
  go_enter Try.func37, Try.ntmps37
  go_wp2
  exact bodyPost_ret (v := .agg #[.int .i64 3, .int .i64 rg, .int .i64 th, .int .i64 0]) (by simp [results, Try.results37, go_sem]) rfl ⟨rfl, belAA _ _ _⟩
set_option maxHeartbeats 1000000 in
set_option maxRecDepth 100000 in
theorem hbare_arr (w : World) (rg th n : Int) : Calls Try.prog 37 #[.agg #[.int .i64 4, .int .i64 rg, .int .i64 th, .int .i64 n]] w fun e w' => e = .returned (.agg #[.int .i64 4, .int .i64 rg, .int .i64 th, .int .i64 0]) ∧ Below w.heap.size w w' := by
  go_enter Try.func37, Try.ntmps37
  go_wp2
  exact bodyPost_ret (v := .agg #[.int .i64 4, .int .i64 rg, .int .i64 th, .int .i64 0]) (by simp [results, Try.results37, go_sem]) rfl ⟨rfl, belAA _ _ _⟩
set_option maxHeartbeats 1000000 in
set_option maxRecDepth 100000 in
theorem hbare_odd (w : World) (kd rg th n : Int) (h1 : (kd == 1) = false) (h2 : (kd == 2) = false) (h3 : (kd == 3) = false) (h4 : (kd == 4) = false) : Calls Try.prog 37 #[.agg #[.int .i64 kd, .int .i64 rg, .int .i64 th, .int .i64 n]] w fun e w' => e = .returned (.agg #[.int .i64 kd, .int .i64 0, .int .i64 0, .int .i64 0]) ∧ Below w.heap.size w w' := by
  go_enter Try.func37, Try.ntmps37
  go_wp2
  exact bodyPost_ret (v := .agg #[.int .i64 kd, .int .i64 0, .int .i64 0, .int .i64 0]) (by simp [results, Try.results37, go_sem]) rfl ⟨rfl, belAA _ _ _⟩
theorem hbare_any (w : World) (v : HVal) : Calls Try.prog 37 #[vAgg v] w fun e w' => e = .returned (vAgg v.bare) ∧ Below w.heap.size w w' := by
  obtain ⟨kd, rg, th, n⟩ := v
  by_cases h1 : kd = 1
  · subst h1; exact hbare_int w rg th n
  by_cases h2 : kd = 2
  · subst h2; exact hbare_hdl w rg th n
  by_cases h3 : kd = 3
  · subst h3; exact hbare_tup w rg th n
  by_cases h4 : kd = 4
  · subst h4; exact hbare_arr w rg th n
  have := hbare_odd w kd rg th n (by simpa using h1) (by simpa using h2) (by simpa using h3) (by simpa using h4)
  rw [show HVal.bare ⟨kd, rg, th, n⟩ = ⟨kd, 0, 0, 0⟩ by unfold HVal.bare; simp [h1, h2, h3, h4]]
  exact this
set_option maxHeartbeats 1000000 in
set_option maxRecDepth 100000 in
theorem hisPart_any (w : World) (a : Option Addr) (n c : Nat) (k : Int) (hn : n ≤ 4611686018427387904) : Calls Try.prog 35 #[.slice a n c, .int .i64 k] w fun e w' => e = .returned (.bool (decide (0 ≤ k) && decide (k < (n : Int)))) ∧ w' = w := by
  by_cases h0 : 0 ≤ k
  · have h0' : decide (0 ≤ k) = true := decide_eq_true h0
    have h1 : decide (k ≥ 0) = true := decide_eq_true h0
    rw [h0']
    clear h0
    go_enter Try.func35, Try.ntmps35
    go_wp2
    go_ret
    simp
  · have h0' : decide (0 ≤ k) = false := decide_eq_false h0
    have h1 : decide (k ≥ 0) = false := decide_eq_false h0
    rw [h0']
    clear h0
    go_enter Try.func35, Try.ntmps35
    go_wp2
    go_ret
    simp
theorem at_and (h : HHeap) (v : HVal) : (h.at v).isSome = ((h.place v.region).isSome && (v.kind == 2)) := by
  unfold HHeap.at
  by_cases e : v.kind = 2
  · rw [if_pos e, e]; simp
  · rw [if_neg e]; simp [e]
set_option maxHeartbeats 1000000 in
set_option maxRecDepth 100000 in
theorem hregion_any {w : World} {b : Nat} {O : Nat → Prop} {h : HHeap} {G : HG} (H : HIn w b O h G) (v : HVal) (hv : v.ok) :
    Calls Try.prog 27 #[.pointer (some ⟨b, 0, none⟩), vAgg v] w fun e w' => e = .returned (.tuple #[.pointer (hptr h G v.region), .bool (h.at v).isSome]) ∧ Below w.heap.size w w' := by
  have B0 := hidH (belA w (.cells #[.int .i64 v.kind, .int .i64 v.region, .int .i64 v.thing, .int .i64 v.n] 37))
  have BX := hidH (blockNew w #[.int .i64 v.kind, .int .i64 v.region, .int .i64 v.thing, .int .i64 v.n] 37)
  have H1 := H.below B0.out
  have hl := H1.lookN hv.2.1
  have t2 := cellOf H1.top 2 _ rfl
  rw [at_and h v]
  clear H H1 hv
  obtain ⟨kd, rg, th, n⟩ := v
  simp only at *
  generalize hptr h G rg = a at hl ⊢
  generalize (h.place rg).isSome = ok at hl ⊢
  generalize G.bm = bm at hl t2
  go_enter Try.func27, Try.ntmps27
  go_upto_region 1 with fail
  generalize w.alloc (.cells #[.int .i64 kd, .int .i64 rg, .int .i64 th, .int .i64 n] 37) = w1 at B0 BX hl t2 ⊢
  generalize w.heap.size = X at BX ⊢
  have x0 := cellOf BX.out 0 _ rfl
  have x1 := cellOf BX.out 1 _ rfl
  go_quiet (fail)
  go_wp2
  cases ok with
  | true =>
    go_quiet (fail)
    go_wp2
    go_ret2
    exact ⟨by simp, belowN (belowN B0.out _) _⟩
  | false =>
    go_quiet (fail)
    go_wp2
    go_ret2
    exact ⟨by simp, belowN (belowN B0.out _) _⟩
end Go.Proofs.Ytjhdpajpibdnaae
