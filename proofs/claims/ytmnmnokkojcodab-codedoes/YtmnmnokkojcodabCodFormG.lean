/-
  Places; the form of an instruction in package code.
-/
import Derived.Test.YtmnmnokkojcodabCodFormE
namespace Go.Proofs.Ytmnmnokkojcodab
open Go.ChangeShapes Go.WideShapes Go.ChangeAt Go.RowKit
set_option linter.unusedVariables false
set_option linter.unusedSimpArgs false

theorem wrap_small (x : Int) (h : -4611686018427387904 ≤ x ∧ x < 4611686018427387904) : IntKind.i64.wrap x = x := by
  by_cases hx : 0 ≤ x
  · have e1 : x % 2 ^ 64 = x := by omega
    simp only [IntKind.wrap, IntKind.signed, IntKind.bits, e1, Bool.true_and]
    rw [if_neg (by simp only [decide_eq_true_eq]; omega)]
  · have e1 : x % 2 ^ 64 = x + 2 ^ 64 := by omega
    simp only [IntKind.wrap, IntKind.signed, IntKind.bits, e1, Bool.true_and]
    rw [if_pos (by simp only [decide_eq_true_eq]; omega)]
    omega

set_option maxHeartbeats 4000000 in
set_option maxRecDepth 100000 in
theorem cFuncAt_any {f : Nat} {w : World} (h : f < 1000) :
    Rd Try.prog 24 #[.int .i64 (f : Int)] w (.int .i64 (10000 * (f : Int) + 9999)) := by
  refine fr_enter (n := 6) Try.func24 rfl rfl rfl ?_
  intro a hF
  have hW := Wd.start w
  replace hF : Fr 6 a [(0, .int .i64 (f : Int))] := hF
  refine wp_seq_k ?_
  intro K1 hK1
  refine fr_region ?_
  intro ops hops
  clear hops
  refine St.go hF ?_; clear hF a
  refine sa trivial rfl rfl ?_
  refine St.nil fun a2 h2 => ?_
  refine hK1 _ _ ?_
  refine wp_seq_k ?_
  intro K3 hK3
  refine fr_region ?_
  intro ops hops
  clear hops
  refine St.go h2 ?_; clear h2 a2
  refine sm trivial rfl rfl ?_
  intro a4 h4
  refine fr_pure (t := 4) (v := .int .i64 ((f : Int) * 10000)) (w' := w) h4 rfl rfl rfl (fun K hK => ?_) ?_
  ·have k0 : a4.tmps.getD 3 undef = .int .i64 (f : Int) := h4.sl 3 _ rfl
   have hwr : IntKind.i64.wrap ((f : Int) * 10000) = (f : Int) * 10000 := wrap_small _ (by omega)
   go_simp
   exact hK
  clear h4; intro a5 hF5
  refine fr_pure (t := 5) (v := .int .i64 (((f : Int) * 10000) + 9999)) (w' := w) hF5 rfl rfl rfl (fun K hK => ?_) ?_
  ·have k0 : a5.tmps.getD 4 undef = .int .i64 ((f : Int) * 10000) := hF5.sl 4 _ rfl
   have hwr : IntKind.i64.wrap (((f : Int) * 10000) + 9999) = ((f : Int) * 10000) + 9999 := wrap_small _ (by omega)
   go_simp
   exact hK
  clear hF5; intro a6 hF6
  refine St.go hF6 ?_; clear hF6 a6
  refine sa trivial rfl rfl ?_
  refine St.nil fun a7 h7 => ?_
  refine hK3 _ _ ?_
  refine wp_ret ?_
  repeat (first | with_reducible refine of_then_ret ?_ | with_reducible refine of_block_ret ?_)
  have R : 10000 * (f : Int) + 9999 = (((f : Int) * 10000) + 9999) := by omega
  exact ret_tmp (t := 2) h7 rfl rfl ⟨by rw [R], hW.bel⟩

set_option maxHeartbeats 4000000 in
set_option maxRecDepth 100000 in
theorem atFunc_any {f : Nat} {w : World} (h : f < 1000) :
    Rd Try.prog 25 #[.int .i64 (f : Int)] w (.int .i64 (10000 * (f : Int) + 9999)) := by
  refine fr_enter (n := 6) Try.func25 rfl rfl rfl ?_
  intro a hF
  have hW := Wd.start w
  replace hF : Fr 6 a [(0, .int .i64 (f : Int))] := hF
  refine wp_seq_k ?_
  intro K1 hK1
  refine fr_region ?_
  intro ops hops
  clear hops
  refine St.go hF ?_; clear hF a
  refine sa trivial rfl rfl ?_
  refine St.nil fun a2 h2 => ?_
  refine hK1 _ _ ?_
  refine wp_seq_k ?_
  intro K3 hK3
  refine fr_region ?_
  intro ops hops
  clear hops
  refine St.go h2 ?_; clear h2 a2
  refine sm trivial rfl rfl ?_
  intro a4 h4
  refine fr_pure (t := 4) (v := .int .i64 (10000 * (f : Int))) (w' := w) h4 rfl rfl rfl (fun K hK => ?_) ?_
  ·have k0 : a4.tmps.getD 3 undef = .int .i64 (f : Int) := h4.sl 3 _ rfl
   have hwr : IntKind.i64.wrap (10000 * (f : Int)) = 10000 * (f : Int) := wrap_small _ (by omega)
   go_simp
   exact hK
  clear h4; intro a5 hF5
  refine fr_pure (t := 5) (v := .int .i64 ((10000 * (f : Int)) + 9999)) (w' := w) hF5 rfl rfl rfl (fun K hK => ?_) ?_
  ·have k0 : a5.tmps.getD 4 undef = .int .i64 (10000 * (f : Int)) := hF5.sl 4 _ rfl
   have hwr : IntKind.i64.wrap ((10000 * (f : Int)) + 9999) = (10000 * (f : Int)) + 9999 := wrap_small _ (by omega)
   go_simp
   exact hK
  clear hF5; intro a6 hF6
  refine St.go hF6 ?_; clear hF6 a6
  refine sa trivial rfl rfl ?_
  refine St.nil fun a7 h7 => ?_
  refine hK3 _ _ ?_
  refine wp_ret ?_
  repeat (first | with_reducible refine of_then_ret ?_ | with_reducible refine of_block_ret ?_)
  have R : 10000 * (f : Int) + 9999 = ((10000 * (f : Int)) + 9999) := by omega
  exact ret_tmp (t := 2) h7 rfl rfl ⟨by rw [R], hW.bel⟩

set_option maxHeartbeats 4000000 in
set_option maxRecDepth 100000 in
theorem cBlockAt_any {f b : Nat} {w : World} (h : f < 1000 ∧ b < 1000) :
    Rd Try.prog 26 #[.int .i64 (f : Int), .int .i64 (b : Int)] w (.int .i64 (10000 * (f : Int) + 100 * (b : Int) + 90)) := by
  refine fr_enter (n := 11) Try.func26 rfl rfl rfl ?_
  intro a hF
  have hW := Wd.start w
  replace hF : Fr 11 a [(0, .int .i64 (f : Int)), (1, .int .i64 (b : Int))] := hF
  refine wp_seq_k ?_
  intro K1 hK1
  refine fr_region ?_
  intro ops hops
  clear hops
  refine St.go hF ?_; clear hF a
  refine sa trivial rfl rfl ?_
  refine St.nil fun a2 h2 => ?_
  refine hK1 _ _ ?_
  refine wp_seq_k ?_
  intro K3 hK3
  refine fr_region ?_
  intro ops hops
  clear hops
  refine St.go h2 ?_; clear h2 a2
  refine sm trivial rfl rfl ?_
  intro a4 h4
  refine fr_pure (t := 6) (v := .int .i64 ((f : Int) * 10000)) (w' := w) h4 rfl rfl rfl (fun K hK => ?_) ?_
  ·have k0 : a4.tmps.getD 5 undef = .int .i64 (f : Int) := h4.sl 5 _ rfl
   have hwr : IntKind.i64.wrap ((f : Int) * 10000) = (f : Int) * 10000 := wrap_small _ (by omega)
   go_simp
   exact hK
  clear h4; intro a5 hF5
  refine St.go hF5 ?_; clear hF5 a5
  refine sm trivial rfl rfl ?_
  intro a6 h6
  refine fr_pure (t := 8) (v := .int .i64 ((b : Int) * 100)) (w' := w) h6 rfl rfl rfl (fun K hK => ?_) ?_
  ·have k0 : a6.tmps.getD 7 undef = .int .i64 (b : Int) := h6.sl 7 _ rfl
   have hwr : IntKind.i64.wrap ((b : Int) * 100) = (b : Int) * 100 := wrap_small _ (by omega)
   go_simp
   exact hK
  clear h6; intro a7 hF7
  refine fr_pure (t := 9) (v := .int .i64 (((f : Int) * 10000) + ((b : Int) * 100))) (w' := w) hF7 rfl rfl rfl (fun K hK => ?_) ?_
  ·have k0 : a7.tmps.getD 6 undef = .int .i64 ((f : Int) * 10000) := hF7.sl 6 _ rfl
   have k1 : a7.tmps.getD 8 undef = .int .i64 ((b : Int) * 100) := hF7.sl 8 _ rfl
   have hwr : IntKind.i64.wrap (((f : Int) * 10000) + ((b : Int) * 100)) = ((f : Int) * 10000) + ((b : Int) * 100) := wrap_small _ (by omega)
   go_simp
   exact hK
  clear hF7; intro a8 hF8
  refine fr_pure (t := 10) (v := .int .i64 ((((f : Int) * 10000) + ((b : Int) * 100)) + 90)) (w' := w) hF8 rfl rfl rfl (fun K hK => ?_) ?_
  ·have k0 : a8.tmps.getD 9 undef = .int .i64 (((f : Int) * 10000) + ((b : Int) * 100)) := hF8.sl 9 _ rfl
   have hwr : IntKind.i64.wrap ((((f : Int) * 10000) + ((b : Int) * 100)) + 90) = (((f : Int) * 10000) + ((b : Int) * 100)) + 90 := wrap_small _ (by omega)
   go_simp
   exact hK
  clear hF8; intro a9 hF9
  refine St.go hF9 ?_; clear hF9 a9
  refine sa trivial rfl rfl ?_
  refine St.nil fun a10 h10 => ?_
  refine hK3 _ _ ?_
  refine wp_ret ?_
  repeat (first | with_reducible refine of_then_ret ?_ | with_reducible refine of_block_ret ?_)
  have R : 10000 * (f : Int) + 100 * (b : Int) + 90 = ((((f : Int) * 10000) + ((b : Int) * 100)) + 90) := by omega
  exact ret_tmp (t := 4) h10 rfl rfl ⟨by rw [R], hW.bel⟩

set_option maxHeartbeats 4000000 in
set_option maxRecDepth 100000 in
theorem atBlock_any {f b : Nat} {w : World} (h : f < 1000 ∧ b < 1000) :
    Rd Try.prog 27 #[.int .i64 (f : Int), .int .i64 (b : Int)] w (.int .i64 (10000 * (f : Int) + 100 * (b : Int) + 90)) := by
  refine fr_enter (n := 11) Try.func27 rfl rfl rfl ?_
  intro a hF
  have hW := Wd.start w
  replace hF : Fr 11 a [(0, .int .i64 (f : Int)), (1, .int .i64 (b : Int))] := hF
  refine wp_seq_k ?_
  intro K1 hK1
  refine fr_region ?_
  intro ops hops
  clear hops
  refine St.go hF ?_; clear hF a
  refine sa trivial rfl rfl ?_
  refine St.nil fun a2 h2 => ?_
  refine hK1 _ _ ?_
  refine wp_seq_k ?_
  intro K3 hK3
  refine fr_region ?_
  intro ops hops
  clear hops
  refine St.go h2 ?_; clear h2 a2
  refine sm trivial rfl rfl ?_
  intro a4 h4
  refine fr_pure (t := 6) (v := .int .i64 (10000 * (f : Int))) (w' := w) h4 rfl rfl rfl (fun K hK => ?_) ?_
  ·have k0 : a4.tmps.getD 5 undef = .int .i64 (f : Int) := h4.sl 5 _ rfl
   have hwr : IntKind.i64.wrap (10000 * (f : Int)) = 10000 * (f : Int) := wrap_small _ (by omega)
   go_simp
   exact hK
  clear h4; intro a5 hF5
  refine St.go hF5 ?_; clear hF5 a5
  refine sm trivial rfl rfl ?_
  intro a6 h6
  refine fr_pure (t := 8) (v := .int .i64 (100 * (b : Int))) (w' := w) h6 rfl rfl rfl (fun K hK => ?_) ?_
  ·have k0 : a6.tmps.getD 7 undef = .int .i64 (b : Int) := h6.sl 7 _ rfl
   have hwr : IntKind.i64.wrap (100 * (b : Int)) = 100 * (b : Int) := wrap_small _ (by omega)
   go_simp
   exact hK
  clear h6; intro a7 hF7
  refine fr_pure (t := 9) (v := .int .i64 ((10000 * (f : Int)) + (100 * (b : Int)))) (w' := w) hF7 rfl rfl rfl (fun K hK => ?_) ?_
  ·have k0 : a7.tmps.getD 6 undef = .int .i64 (10000 * (f : Int)) := hF7.sl 6 _ rfl
   have k1 : a7.tmps.getD 8 undef = .int .i64 (100 * (b : Int)) := hF7.sl 8 _ rfl
   have hwr : IntKind.i64.wrap ((10000 * (f : Int)) + (100 * (b : Int))) = (10000 * (f : Int)) + (100 * (b : Int)) := wrap_small _ (by omega)
   go_simp
   exact hK
  clear hF7; intro a8 hF8
  refine fr_pure (t := 10) (v := .int .i64 (((10000 * (f : Int)) + (100 * (b : Int))) + 90)) (w' := w) hF8 rfl rfl rfl (fun K hK => ?_) ?_
  ·have k0 : a8.tmps.getD 9 undef = .int .i64 ((10000 * (f : Int)) + (100 * (b : Int))) := hF8.sl 9 _ rfl
   have hwr : IntKind.i64.wrap (((10000 * (f : Int)) + (100 * (b : Int))) + 90) = ((10000 * (f : Int)) + (100 * (b : Int))) + 90 := wrap_small _ (by omega)
   go_simp
   exact hK
  clear hF8; intro a9 hF9
  refine St.go hF9 ?_; clear hF9 a9
  refine sa trivial rfl rfl ?_
  refine St.nil fun a10 h10 => ?_
  refine hK3 _ _ ?_
  refine wp_ret ?_
  repeat (first | with_reducible refine of_then_ret ?_ | with_reducible refine of_block_ret ?_)
  have R : 10000 * (f : Int) + 100 * (b : Int) + 90 = (((10000 * (f : Int)) + (100 * (b : Int))) + 90) := by omega
  exact ret_tmp (t := 4) h10 rfl rfl ⟨by rw [R], hW.bel⟩

set_option maxHeartbeats 4000000 in
set_option maxRecDepth 100000 in
theorem cEndAt_any {f b : Nat} {w : World} (h : f < 1000 ∧ b < 1000) :
    Rd Try.prog 28 #[.int .i64 (f : Int), .int .i64 (b : Int)] w (.int .i64 (10000 * (f : Int) + 100 * (b : Int) + 91)) := by
  refine fr_enter (n := 11) Try.func28 rfl rfl rfl ?_
  intro a hF
  have hW := Wd.start w
  replace hF : Fr 11 a [(0, .int .i64 (f : Int)), (1, .int .i64 (b : Int))] := hF
  refine wp_seq_k ?_
  intro K1 hK1
  refine fr_region ?_
  intro ops hops
  clear hops
  refine St.go hF ?_; clear hF a
  refine sa trivial rfl rfl ?_
  refine St.nil fun a2 h2 => ?_
  refine hK1 _ _ ?_
  refine wp_seq_k ?_
  intro K3 hK3
  refine fr_region ?_
  intro ops hops
  clear hops
  refine St.go h2 ?_; clear h2 a2
  refine sm trivial rfl rfl ?_
  intro a4 h4
  refine fr_pure (t := 6) (v := .int .i64 ((f : Int) * 10000)) (w' := w) h4 rfl rfl rfl (fun K hK => ?_) ?_
  ·have k0 : a4.tmps.getD 5 undef = .int .i64 (f : Int) := h4.sl 5 _ rfl
   have hwr : IntKind.i64.wrap ((f : Int) * 10000) = (f : Int) * 10000 := wrap_small _ (by omega)
   go_simp
   exact hK
  clear h4; intro a5 hF5
  refine St.go hF5 ?_; clear hF5 a5
  refine sm trivial rfl rfl ?_
  intro a6 h6
  refine fr_pure (t := 8) (v := .int .i64 ((b : Int) * 100)) (w' := w) h6 rfl rfl rfl (fun K hK => ?_) ?_
  ·have k0 : a6.tmps.getD 7 undef = .int .i64 (b : Int) := h6.sl 7 _ rfl
   have hwr : IntKind.i64.wrap ((b : Int) * 100) = (b : Int) * 100 := wrap_small _ (by omega)
   go_simp
   exact hK
  clear h6; intro a7 hF7
  refine fr_pure (t := 9) (v := .int .i64 (((f : Int) * 10000) + ((b : Int) * 100))) (w' := w) hF7 rfl rfl rfl (fun K hK => ?_) ?_
  ·have k0 : a7.tmps.getD 6 undef = .int .i64 ((f : Int) * 10000) := hF7.sl 6 _ rfl
   have k1 : a7.tmps.getD 8 undef = .int .i64 ((b : Int) * 100) := hF7.sl 8 _ rfl
   have hwr : IntKind.i64.wrap (((f : Int) * 10000) + ((b : Int) * 100)) = ((f : Int) * 10000) + ((b : Int) * 100) := wrap_small _ (by omega)
   go_simp
   exact hK
  clear hF7; intro a8 hF8
  refine fr_pure (t := 10) (v := .int .i64 ((((f : Int) * 10000) + ((b : Int) * 100)) + 91)) (w' := w) hF8 rfl rfl rfl (fun K hK => ?_) ?_
  ·have k0 : a8.tmps.getD 9 undef = .int .i64 (((f : Int) * 10000) + ((b : Int) * 100)) := hF8.sl 9 _ rfl
   have hwr : IntKind.i64.wrap ((((f : Int) * 10000) + ((b : Int) * 100)) + 91) = (((f : Int) * 10000) + ((b : Int) * 100)) + 91 := wrap_small _ (by omega)
   go_simp
   exact hK
  clear hF8; intro a9 hF9
  refine St.go hF9 ?_; clear hF9 a9
  refine sa trivial rfl rfl ?_
  refine St.nil fun a10 h10 => ?_
  refine hK3 _ _ ?_
  refine wp_ret ?_
  repeat (first | with_reducible refine of_then_ret ?_ | with_reducible refine of_block_ret ?_)
  have R : 10000 * (f : Int) + 100 * (b : Int) + 91 = ((((f : Int) * 10000) + ((b : Int) * 100)) + 91) := by omega
  exact ret_tmp (t := 4) h10 rfl rfl ⟨by rw [R], hW.bel⟩

set_option maxHeartbeats 4000000 in
set_option maxRecDepth 100000 in
theorem atEnd_any {f b : Nat} {w : World} (h : f < 1000 ∧ b < 1000) :
    Rd Try.prog 29 #[.int .i64 (f : Int), .int .i64 (b : Int)] w (.int .i64 (10000 * (f : Int) + 100 * (b : Int) + 91)) := by
  refine fr_enter (n := 11) Try.func29 rfl rfl rfl ?_
  intro a hF
  have hW := Wd.start w
  replace hF : Fr 11 a [(0, .int .i64 (f : Int)), (1, .int .i64 (b : Int))] := hF
  refine wp_seq_k ?_
  intro K1 hK1
  refine fr_region ?_
  intro ops hops
  clear hops
  refine St.go hF ?_; clear hF a
  refine sa trivial rfl rfl ?_
  refine St.nil fun a2 h2 => ?_
  refine hK1 _ _ ?_
  refine wp_seq_k ?_
  intro K3 hK3
  refine fr_region ?_
  intro ops hops
  clear hops
  refine St.go h2 ?_; clear h2 a2
  refine sm trivial rfl rfl ?_
  intro a4 h4
  refine fr_pure (t := 6) (v := .int .i64 (10000 * (f : Int))) (w' := w) h4 rfl rfl rfl (fun K hK => ?_) ?_
  ·have k0 : a4.tmps.getD 5 undef = .int .i64 (f : Int) := h4.sl 5 _ rfl
   have hwr : IntKind.i64.wrap (10000 * (f : Int)) = 10000 * (f : Int) := wrap_small _ (by omega)
   go_simp
   exact hK
  clear h4; intro a5 hF5
  refine St.go hF5 ?_; clear hF5 a5
  refine sm trivial rfl rfl ?_
  intro a6 h6
  refine fr_pure (t := 8) (v := .int .i64 (100 * (b : Int))) (w' := w) h6 rfl rfl rfl (fun K hK => ?_) ?_
  ·have k0 : a6.tmps.getD 7 undef = .int .i64 (b : Int) := h6.sl 7 _ rfl
   have hwr : IntKind.i64.wrap (100 * (b : Int)) = 100 * (b : Int) := wrap_small _ (by omega)
   go_simp
   exact hK
  clear h6; intro a7 hF7
  refine fr_pure (t := 9) (v := .int .i64 ((10000 * (f : Int)) + (100 * (b : Int)))) (w' := w) hF7 rfl rfl rfl (fun K hK => ?_) ?_
  ·have k0 : a7.tmps.getD 6 undef = .int .i64 (10000 * (f : Int)) := hF7.sl 6 _ rfl
   have k1 : a7.tmps.getD 8 undef = .int .i64 (100 * (b : Int)) := hF7.sl 8 _ rfl
   have hwr : IntKind.i64.wrap ((10000 * (f : Int)) + (100 * (b : Int))) = (10000 * (f : Int)) + (100 * (b : Int)) := wrap_small _ (by omega)
   go_simp
   exact hK
  clear hF7; intro a8 hF8
  refine fr_pure (t := 10) (v := .int .i64 (((10000 * (f : Int)) + (100 * (b : Int))) + 91)) (w' := w) hF8 rfl rfl rfl (fun K hK => ?_) ?_
  ·have k0 : a8.tmps.getD 9 undef = .int .i64 ((10000 * (f : Int)) + (100 * (b : Int))) := hF8.sl 9 _ rfl
   have hwr : IntKind.i64.wrap (((10000 * (f : Int)) + (100 * (b : Int))) + 91) = ((10000 * (f : Int)) + (100 * (b : Int))) + 91 := wrap_small _ (by omega)
   go_simp
   exact hK
  clear hF8; intro a9 hF9
  refine St.go hF9 ?_; clear hF9 a9
  refine sa trivial rfl rfl ?_
  refine St.nil fun a10 h10 => ?_
  refine hK3 _ _ ?_
  refine wp_ret ?_
  repeat (first | with_reducible refine of_then_ret ?_ | with_reducible refine of_block_ret ?_)
  have R : 10000 * (f : Int) + 100 * (b : Int) + 91 = (((10000 * (f : Int)) + (100 * (b : Int))) + 91) := by omega
  exact ret_tmp (t := 4) h10 rfl rfl ⟨by rw [R], hW.bel⟩

set_option maxHeartbeats 4000000 in
set_option maxRecDepth 100000 in
theorem cInsAt_any {f b i : Nat} {w : World} (h : f < 1000 ∧ b < 1000 ∧ i < 1000) :
    Rd Try.prog 30 #[.int .i64 (f : Int), .int .i64 (b : Int), .int .i64 (i : Int)] w (.int .i64 (10000 * (f : Int) + 100 * (b : Int) + (i : Int))) := by
  refine fr_enter (n := 14) Try.func30 rfl rfl rfl ?_
  intro a hF
  have hW := Wd.start w
  replace hF : Fr 14 a [(0, .int .i64 (f : Int)), (1, .int .i64 (b : Int)), (2, .int .i64 (i : Int))] := hF
  refine wp_seq_k ?_
  intro K1 hK1
  refine fr_region ?_
  intro ops hops
  clear hops
  refine St.go hF ?_; clear hF a
  refine sa trivial rfl rfl ?_
  refine St.nil fun a2 h2 => ?_
  refine hK1 _ _ ?_
  refine wp_seq_k ?_
  intro K3 hK3
  refine fr_region ?_
  intro ops hops
  clear hops
  refine St.go h2 ?_; clear h2 a2
  refine sm trivial rfl rfl ?_
  intro a4 h4
  refine fr_pure (t := 8) (v := .int .i64 ((f : Int) * 10000)) (w' := w) h4 rfl rfl rfl (fun K hK => ?_) ?_
  ·have k0 : a4.tmps.getD 7 undef = .int .i64 (f : Int) := h4.sl 7 _ rfl
   have hwr : IntKind.i64.wrap ((f : Int) * 10000) = (f : Int) * 10000 := wrap_small _ (by omega)
   go_simp
   exact hK
  clear h4; intro a5 hF5
  refine St.go hF5 ?_; clear hF5 a5
  refine sm trivial rfl rfl ?_
  intro a6 h6
  refine fr_pure (t := 10) (v := .int .i64 ((b : Int) * 100)) (w' := w) h6 rfl rfl rfl (fun K hK => ?_) ?_
  ·have k0 : a6.tmps.getD 9 undef = .int .i64 (b : Int) := h6.sl 9 _ rfl
   have hwr : IntKind.i64.wrap ((b : Int) * 100) = (b : Int) * 100 := wrap_small _ (by omega)
   go_simp
   exact hK
  clear h6; intro a7 hF7
  refine fr_pure (t := 11) (v := .int .i64 (((f : Int) * 10000) + ((b : Int) * 100))) (w' := w) hF7 rfl rfl rfl (fun K hK => ?_) ?_
  ·have k0 : a7.tmps.getD 8 undef = .int .i64 ((f : Int) * 10000) := hF7.sl 8 _ rfl
   have k1 : a7.tmps.getD 10 undef = .int .i64 ((b : Int) * 100) := hF7.sl 10 _ rfl
   have hwr : IntKind.i64.wrap (((f : Int) * 10000) + ((b : Int) * 100)) = ((f : Int) * 10000) + ((b : Int) * 100) := wrap_small _ (by omega)
   go_simp
   exact hK
  clear hF7; intro a8 hF8
  refine St.go hF8 ?_; clear hF8 a8
  refine sm trivial rfl rfl ?_
  intro a9 h9
  refine fr_pure (t := 13) (v := .int .i64 ((((f : Int) * 10000) + ((b : Int) * 100)) + (i : Int))) (w' := w) h9 rfl rfl rfl (fun K hK => ?_) ?_
  ·have k0 : a9.tmps.getD 11 undef = .int .i64 (((f : Int) * 10000) + ((b : Int) * 100)) := h9.sl 11 _ rfl
   have k1 : a9.tmps.getD 12 undef = .int .i64 (i : Int) := h9.sl 12 _ rfl
   have hwr : IntKind.i64.wrap ((((f : Int) * 10000) + ((b : Int) * 100)) + (i : Int)) = (((f : Int) * 10000) + ((b : Int) * 100)) + (i : Int) := wrap_small _ (by omega)
   go_simp
   exact hK
  clear h9; intro a10 hF10
  refine St.go hF10 ?_; clear hF10 a10
  refine sa trivial rfl rfl ?_
  refine St.nil fun a11 h11 => ?_
  refine hK3 _ _ ?_
  refine wp_ret ?_
  repeat (first | with_reducible refine of_then_ret ?_ | with_reducible refine of_block_ret ?_)
  have R : 10000 * (f : Int) + 100 * (b : Int) + (i : Int) = ((((f : Int) * 10000) + ((b : Int) * 100)) + (i : Int)) := by omega
  exact ret_tmp (t := 6) h11 rfl rfl ⟨by rw [R], hW.bel⟩

set_option maxHeartbeats 4000000 in
set_option maxRecDepth 100000 in
theorem atIns_any {f b i : Nat} {w : World} (h : f < 1000 ∧ b < 1000 ∧ i < 1000) :
    Rd Try.prog 31 #[.int .i64 (f : Int), .int .i64 (b : Int), .int .i64 (i : Int)] w (.int .i64 (10000 * (f : Int) + 100 * (b : Int) + (i : Int))) := by
  refine fr_enter (n := 14) Try.func31 rfl rfl rfl ?_
  intro a hF
  have hW := Wd.start w
  replace hF : Fr 14 a [(0, .int .i64 (f : Int)), (1, .int .i64 (b : Int)), (2, .int .i64 (i : Int))] := hF
  refine wp_seq_k ?_
  intro K1 hK1
  refine fr_region ?_
  intro ops hops
  clear hops
  refine St.go hF ?_; clear hF a
  refine sa trivial rfl rfl ?_
  refine St.nil fun a2 h2 => ?_
  refine hK1 _ _ ?_
  refine wp_seq_k ?_
  intro K3 hK3
  refine fr_region ?_
  intro ops hops
  clear hops
  refine St.go h2 ?_; clear h2 a2
  refine sm trivial rfl rfl ?_
  intro a4 h4
  refine fr_pure (t := 8) (v := .int .i64 (10000 * (f : Int))) (w' := w) h4 rfl rfl rfl (fun K hK => ?_) ?_
  ·have k0 : a4.tmps.getD 7 undef = .int .i64 (f : Int) := h4.sl 7 _ rfl
   have hwr : IntKind.i64.wrap (10000 * (f : Int)) = 10000 * (f : Int) := wrap_small _ (by omega)
   go_simp
   exact hK
  clear h4; intro a5 hF5
  refine St.go hF5 ?_; clear hF5 a5
  refine sm trivial rfl rfl ?_
  intro a6 h6
  refine fr_pure (t := 10) (v := .int .i64 (100 * (b : Int))) (w' := w) h6 rfl rfl rfl (fun K hK => ?_) ?_
  ·have k0 : a6.tmps.getD 9 undef = .int .i64 (b : Int) := h6.sl 9 _ rfl
   have hwr : IntKind.i64.wrap (100 * (b : Int)) = 100 * (b : Int) := wrap_small _ (by omega)
   go_simp
   exact hK
  clear h6; intro a7 hF7
  refine fr_pure (t := 11) (v := .int .i64 ((10000 * (f : Int)) + (100 * (b : Int)))) (w' := w) hF7 rfl rfl rfl (fun K hK => ?_) ?_
  ·have k0 : a7.tmps.getD 8 undef = .int .i64 (10000 * (f : Int)) := hF7.sl 8 _ rfl
   have k1 : a7.tmps.getD 10 undef = .int .i64 (100 * (b : Int)) := hF7.sl 10 _ rfl
   have hwr : IntKind.i64.wrap ((10000 * (f : Int)) + (100 * (b : Int))) = (10000 * (f : Int)) + (100 * (b : Int)) := wrap_small _ (by omega)
   go_simp
   exact hK
  clear hF7; intro a8 hF8
  refine St.go hF8 ?_; clear hF8 a8
  refine sm trivial rfl rfl ?_
  intro a9 h9
  refine fr_pure (t := 13) (v := .int .i64 (((10000 * (f : Int)) + (100 * (b : Int))) + (i : Int))) (w' := w) h9 rfl rfl rfl (fun K hK => ?_) ?_
  ·have k0 : a9.tmps.getD 11 undef = .int .i64 ((10000 * (f : Int)) + (100 * (b : Int))) := h9.sl 11 _ rfl
   have k1 : a9.tmps.getD 12 undef = .int .i64 (i : Int) := h9.sl 12 _ rfl
   have hwr : IntKind.i64.wrap (((10000 * (f : Int)) + (100 * (b : Int))) + (i : Int)) = ((10000 * (f : Int)) + (100 * (b : Int))) + (i : Int) := wrap_small _ (by omega)
   go_simp
   exact hK
  clear h9; intro a10 hF10
  refine St.go hF10 ?_; clear hF10 a10
  refine sa trivial rfl rfl ?_
  refine St.nil fun a11 h11 => ?_
  refine hK3 _ _ ?_
  refine wp_ret ?_
  repeat (first | with_reducible refine of_then_ret ?_ | with_reducible refine of_block_ret ?_)
  have R : 10000 * (f : Int) + 100 * (b : Int) + (i : Int) = (((10000 * (f : Int)) + (100 * (b : Int))) + (i : Int)) := by omega
  exact ret_tmp (t := 6) h11 rfl rfl ⟨by rw [R], hW.bel⟩

def bareB (a b c k n : Int) (rl al : Nat) : Bool := a == 0 && b == 0 && c == 0 && k == 0 && n == 0 && (rl : Int) == 0 && (al : Int) == 0
def boundsC (funcs : Nat) (op k : Int) (rl al : Nat) : Int :=
  if op = 2 then rangeC k 1 9 else if op = 6 ∨ op = 7 then rangeC k 0 7 else if op = 5 then manyC al 8
  else if op = 14 then (if rangeC k 0 ((funcs : Int) - 1) = 0 then handedC rl 6 al else rangeC k 0 ((funcs : Int) - 1)) else 0

set_option maxHeartbeats 4000000 in
set_option maxRecDepth 100000 in
theorem isBare_any {xop xa xb xc xk xn : Int} {ra aa : Option Addr} {rl rc al ac : Nat} {w : World} :
    Rd Try.prog 58 #[.agg #[.int .i64 xop, .int .i64 xa, .int .i64 xb, .int .i64 xc, .int .i64 xk, .int .i64 xn, .slice ra rl rc, .slice aa al ac]] w (.bool (bareB xa xb xc xk xn rl al)) := by
  refine fr_enter (n := 38) Try.func58 rfl rfl rfl ?_
  intro a hF
  have hW := Wd.start w
  replace hF : Fr 38 a [(0, .agg #[.int .i64 xop, .int .i64 xa, .int .i64 xb, .int .i64 xc, .int .i64 xk, .int .i64 xn, .slice ra rl rc, .slice aa al ac])] := hF
  refine wp_seq_k ?_
  intro K1 hK1
  refine fr_region ?_
  intro ops hops
  clear hops
  refine St.go hF ?_; clear hF a
  refine sB hW trivial rfl rfl ?_
  clear hW; intro w2 B2 hW2 hN; clear hN
  refine sa trivial rfl rfl ?_
  refine St.nil fun a3 h3 => ?_
  refine hK1 _ _ ?_
  refine wp_seq_k ?_
  intro K4 hK4
  refine fr_region ?_
  intro ops hops
  have hg3 : (ops[3]?).bind (fun o : Oper => o.dst) = some 6 := hops 3
  have hg8 : (ops[8]?).bind (fun o : Oper => o.dst) = some 11 := hops 8
  have hg13 : (ops[13]?).bind (fun o : Oper => o.dst) = some 16 := hops 13
  have hg18 : (ops[18]?).bind (fun o : Oper => o.dst) = some 21 := hops 18
  have hg23 : (ops[23]?).bind (fun o : Oper => o.dst) = some 26 := hops 23
  have hg29 : (ops[29]?).bind (fun o : Oper => o.dst) = some 32 := hops 29
  clear hops
  refine St.go h3 ?_; clear h3 a3
  refine sfIns1 trivial rfl rfl ?_
  refine sbInt 0 hW2 trivial rfl rfl rfl rfl ?_
  refine seq trivial rfl rfl rfl ?_
  refine sm trivial rfl rfl ?_
  intro a5 h5
  rcases Bool.eq_false_or_eq_true (xa == 0) with hb | hb
  ·rw [hb] at h5
   have h9 : xa = 0 := eq_of_beq hb
   have hc6 : Hid (xa = 0) := h9
   clear h9
   clear hb
   refine St.go h5 ?_; clear h5 a5
   refine sfIns2 ⟨_, hg3, rfl, rfl⟩ rfl rfl ?_
   refine sbInt 0 hW2 ⟨_, hg3, rfl, rfl⟩ rfl rfl rfl rfl ?_
   refine seq ⟨_, hg3, rfl, rfl⟩ rfl rfl rfl ?_
   refine sp trivial rfl rfl rfl ?_
   refine sm trivial rfl rfl ?_
   intro a7 h7
   rcases Bool.eq_false_or_eq_true (xb == 0) with hb | hb
   ·rw [hb] at h7
    have h9 : xb = 0 := eq_of_beq hb
    have hc8 : Hid (xb = 0) := h9
    clear h9
    clear hb
    refine St.go h7 ?_; clear h7 a7
    refine sfIns3 ⟨_, hg8, rfl, rfl⟩ rfl rfl ?_
    refine sbInt 0 hW2 ⟨_, hg8, rfl, rfl⟩ rfl rfl rfl rfl ?_
    refine seq ⟨_, hg8, rfl, rfl⟩ rfl rfl rfl ?_
    refine sp trivial rfl rfl rfl ?_
    refine sm trivial rfl rfl ?_
    intro a9 h9
    rcases Bool.eq_false_or_eq_true (xc == 0) with hb | hb
    ·rw [hb] at h9
     have h9 : xc = 0 := eq_of_beq hb
     have hc10 : Hid (xc = 0) := h9
     clear h9
     clear hb
     refine St.go h9 ?_; clear h9 a9
     refine sfIns4 ⟨_, hg13, rfl, rfl⟩ rfl rfl ?_
     refine sbInt 0 hW2 ⟨_, hg13, rfl, rfl⟩ rfl rfl rfl rfl ?_
     refine seq ⟨_, hg13, rfl, rfl⟩ rfl rfl rfl ?_
     refine sp trivial rfl rfl rfl ?_
     refine sm trivial rfl rfl ?_
     intro a11 h11
     rcases Bool.eq_false_or_eq_true (xk == 0) with hb | hb
     ·rw [hb] at h11
      have h9 : xk = 0 := eq_of_beq hb
      have hc12 : Hid (xk = 0) := h9
      clear h9
      clear hb
      refine St.go h11 ?_; clear h11 a11
      refine sfIns5 ⟨_, hg18, rfl, rfl⟩ rfl rfl ?_
      refine sbInt6 0 hW2 ⟨_, hg18, rfl, rfl⟩ rfl rfl rfl rfl ?_
      refine seq6 ⟨_, hg18, rfl, rfl⟩ rfl rfl rfl ?_
      refine sp trivial rfl rfl rfl ?_
      refine sm trivial rfl rfl ?_
      intro a13 h13
      rcases Bool.eq_false_or_eq_true (xn == 0) with hb | hb
      ·rw [hb] at h13
       have h9 : xn = 0 := eq_of_beq hb
       have hc14 : Hid (xn = 0) := h9
       clear h9
       clear hb
       refine St.go h13 ?_; clear h13 a13
       refine sfIns6 ⟨_, hg23, rfl, rfl⟩ rfl rfl ?_
       refine sbInts 0 hW2 ⟨_, hg23, rfl, rfl⟩ rfl rfl rfl rfl ?_
       refine slInts ⟨_, hg23, rfl, rfl⟩ rfl rfl ?_
       refine seq ⟨_, hg23, rfl, rfl⟩ rfl rfl rfl ?_
       refine sp trivial rfl rfl rfl ?_
       refine sm trivial rfl rfl ?_
       intro a15 h15
       rcases Bool.eq_false_or_eq_true ((rl : Int) == 0) with hb | hb
       ·rw [hb] at h15
        have h9 : rl = 0 := by have h8 := eq_of_beq hb; omega
        have hc16 : Hid (rl = 0) := h9
        clear h9
        clear hb
        refine St.go h15 ?_; clear h15 a15
        refine sfIns7 ⟨_, hg29, rfl, rfl⟩ rfl rfl ?_
        refine sbInts 0 hW2 ⟨_, hg29, rfl, rfl⟩ rfl rfl rfl rfl ?_
        refine slInts ⟨_, hg29, rfl, rfl⟩ rfl rfl ?_
        refine seq ⟨_, hg29, rfl, rfl⟩ rfl rfl rfl ?_
        refine sp trivial rfl rfl rfl ?_
        refine sa trivial rfl rfl ?_
        refine St.nil fun a17 h17 => ?_
        refine hK4 _ _ ?_
        refine wp_ret ?_
        repeat (first | with_reducible refine of_then_ret ?_ | with_reducible refine of_block_ret ?_)
        have R : bareB xa xb xc xk xn rl al = ((al : Int) == 0) := by simp [bareB, hc6.out, hc8.out, hc10.out, hc12.out, hc14.out, hc16.out]
        exact ret_tmp (t := 2) h17 rfl rfl ⟨by rw [R], hW2.bel⟩
       ·rw [hb] at h15
        have h9 : ¬ rl = 0 := by have h8 := ne_of_beq_false hb; omega
        have hc18 : ¬ rl = 0 := h9
        clear h9
        clear hb
        refine St.go h15 ?_; clear h15 a15
        refine so hg29 rfl rfl rfl rfl ?_
        refine so hg29 rfl rfl rfl rfl ?_
        refine so hg29 rfl rfl rfl rfl ?_
        refine so hg29 rfl rfl rfl rfl ?_
        refine spf trivial rfl rfl rfl ?_
        refine sa trivial rfl rfl ?_
        refine St.nil fun a19 h19 => ?_
        refine hK4 _ _ ?_
        refine wp_ret ?_
        repeat (first | with_reducible refine of_then_ret ?_ | with_reducible refine of_block_ret ?_)
        have R : bareB xa xb xc xk xn rl al = false := by simp [bareB, hc6.out, hc8.out, hc10.out, hc12.out, hc14.out, hc18]
        exact ret_tmp (t := 2) h19 rfl rfl ⟨by rw [R], hW2.bel⟩
      ·rw [hb] at h13
       have h9 : ¬ xn = 0 := ne_of_beq_false hb
       have hc20 : ¬ xn = 0 := h9
       clear h9
       clear hb
       refine St.go h13 ?_; clear h13 a13
       refine so hg23 rfl rfl rfl rfl ?_
       refine so hg23 rfl rfl rfl rfl ?_
       refine so hg23 rfl rfl rfl rfl ?_
       refine so hg23 rfl rfl rfl rfl ?_
       refine spf trivial rfl rfl rfl ?_
       refine sm trivial rfl rfl ?_
       refine so hg29 rfl rfl rfl rfl ?_
       refine so hg29 rfl rfl rfl rfl ?_
       refine so hg29 rfl rfl rfl rfl ?_
       refine so hg29 rfl rfl rfl rfl ?_
       refine spf trivial rfl rfl rfl ?_
       refine sa trivial rfl rfl ?_
       refine St.nil fun a21 h21 => ?_
       refine hK4 _ _ ?_
       refine wp_ret ?_
       repeat (first | with_reducible refine of_then_ret ?_ | with_reducible refine of_block_ret ?_)
       have R : bareB xa xb xc xk xn rl al = false := by simp [bareB, hc6.out, hc8.out, hc10.out, hc12.out, hc20]
       exact ret_tmp (t := 2) h21 rfl rfl ⟨by rw [R], hW2.bel⟩
     ·rw [hb] at h11
      have h9 : ¬ xk = 0 := ne_of_beq_false hb
      have hc22 : ¬ xk = 0 := h9
      clear h9
      clear hb
      refine St.go h11 ?_; clear h11 a11
      refine so hg18 rfl rfl rfl rfl ?_
      refine so hg18 rfl rfl rfl rfl ?_
      refine so hg18 rfl rfl rfl rfl ?_
      refine spf trivial rfl rfl rfl ?_
      refine sm trivial rfl rfl ?_
      refine so hg23 rfl rfl rfl rfl ?_
      refine so hg23 rfl rfl rfl rfl ?_
      refine so hg23 rfl rfl rfl rfl ?_
      refine so hg23 rfl rfl rfl rfl ?_
      refine spf trivial rfl rfl rfl ?_
      refine sm trivial rfl rfl ?_
      refine so hg29 rfl rfl rfl rfl ?_
      refine so hg29 rfl rfl rfl rfl ?_
      refine so hg29 rfl rfl rfl rfl ?_
      refine so hg29 rfl rfl rfl rfl ?_
      refine spf trivial rfl rfl rfl ?_
      refine sa trivial rfl rfl ?_
      refine St.nil fun a23 h23 => ?_
      refine hK4 _ _ ?_
      refine wp_ret ?_
      repeat (first | with_reducible refine of_then_ret ?_ | with_reducible refine of_block_ret ?_)
      have R : bareB xa xb xc xk xn rl al = false := by simp [bareB, hc6.out, hc8.out, hc10.out, hc22]
      exact ret_tmp (t := 2) h23 rfl rfl ⟨by rw [R], hW2.bel⟩
    ·rw [hb] at h9
     have h9 : ¬ xc = 0 := ne_of_beq_false hb
     have hc24 : ¬ xc = 0 := h9
     clear h9
     clear hb
     refine St.go h9 ?_; clear h9 a9
     refine so hg13 rfl rfl rfl rfl ?_
     refine so hg13 rfl rfl rfl rfl ?_
     refine so hg13 rfl rfl rfl rfl ?_
     refine spf trivial rfl rfl rfl ?_
     refine sm trivial rfl rfl ?_
     refine so hg18 rfl rfl rfl rfl ?_
     refine so hg18 rfl rfl rfl rfl ?_
     refine so hg18 rfl rfl rfl rfl ?_
     refine spf trivial rfl rfl rfl ?_
     refine sm trivial rfl rfl ?_
     refine so hg23 rfl rfl rfl rfl ?_
     refine so hg23 rfl rfl rfl rfl ?_
     refine so hg23 rfl rfl rfl rfl ?_
     refine so hg23 rfl rfl rfl rfl ?_
     refine spf trivial rfl rfl rfl ?_
     refine sm trivial rfl rfl ?_
     refine so hg29 rfl rfl rfl rfl ?_
     refine so hg29 rfl rfl rfl rfl ?_
     refine so hg29 rfl rfl rfl rfl ?_
     refine so hg29 rfl rfl rfl rfl ?_
     refine spf trivial rfl rfl rfl ?_
     refine sa trivial rfl rfl ?_
     refine St.nil fun a25 h25 => ?_
     refine hK4 _ _ ?_
     refine wp_ret ?_
     repeat (first | with_reducible refine of_then_ret ?_ | with_reducible refine of_block_ret ?_)
     have R : bareB xa xb xc xk xn rl al = false := by simp [bareB, hc6.out, hc8.out, hc24]
     exact ret_tmp (t := 2) h25 rfl rfl ⟨by rw [R], hW2.bel⟩
   ·rw [hb] at h7
    have h9 : ¬ xb = 0 := ne_of_beq_false hb
    have hc26 : ¬ xb = 0 := h9
    clear h9
    clear hb
    refine St.go h7 ?_; clear h7 a7
    refine so hg8 rfl rfl rfl rfl ?_
    refine so hg8 rfl rfl rfl rfl ?_
    refine so hg8 rfl rfl rfl rfl ?_
    refine spf trivial rfl rfl rfl ?_
    refine sm trivial rfl rfl ?_
    refine so hg13 rfl rfl rfl rfl ?_
    refine so hg13 rfl rfl rfl rfl ?_
    refine so hg13 rfl rfl rfl rfl ?_
    refine spf trivial rfl rfl rfl ?_
    refine sm trivial rfl rfl ?_
    refine so hg18 rfl rfl rfl rfl ?_
    refine so hg18 rfl rfl rfl rfl ?_
    refine so hg18 rfl rfl rfl rfl ?_
    refine spf trivial rfl rfl rfl ?_
    refine sm trivial rfl rfl ?_
    refine so hg23 rfl rfl rfl rfl ?_
    refine so hg23 rfl rfl rfl rfl ?_
    refine so hg23 rfl rfl rfl rfl ?_
    refine so hg23 rfl rfl rfl rfl ?_
    refine spf trivial rfl rfl rfl ?_
    refine sm trivial rfl rfl ?_
    refine so hg29 rfl rfl rfl rfl ?_
    refine so hg29 rfl rfl rfl rfl ?_
    refine so hg29 rfl rfl rfl rfl ?_
    refine so hg29 rfl rfl rfl rfl ?_
    refine spf trivial rfl rfl rfl ?_
    refine sa trivial rfl rfl ?_
    refine St.nil fun a27 h27 => ?_
    refine hK4 _ _ ?_
    refine wp_ret ?_
    repeat (first | with_reducible refine of_then_ret ?_ | with_reducible refine of_block_ret ?_)
    have R : bareB xa xb xc xk xn rl al = false := by simp [bareB, hc6.out, hc26]
    exact ret_tmp (t := 2) h27 rfl rfl ⟨by rw [R], hW2.bel⟩
  ·rw [hb] at h5
   have h9 : ¬ xa = 0 := ne_of_beq_false hb
   have hc28 : ¬ xa = 0 := h9
   clear h9
   clear hb
   refine St.go h5 ?_; clear h5 a5
   refine so hg3 rfl rfl rfl rfl ?_
   refine so hg3 rfl rfl rfl rfl ?_
   refine so hg3 rfl rfl rfl rfl ?_
   refine spf trivial rfl rfl rfl ?_
   refine sm trivial rfl rfl ?_
   refine so hg8 rfl rfl rfl rfl ?_
   refine so hg8 rfl rfl rfl rfl ?_
   refine so hg8 rfl rfl rfl rfl ?_
   refine spf trivial rfl rfl rfl ?_
   refine sm trivial rfl rfl ?_
   refine so hg13 rfl rfl rfl rfl ?_
   refine so hg13 rfl rfl rfl rfl ?_
   refine so hg13 rfl rfl rfl rfl ?_
   refine spf trivial rfl rfl rfl ?_
   refine sm trivial rfl rfl ?_
   refine so hg18 rfl rfl rfl rfl ?_
   refine so hg18 rfl rfl rfl rfl ?_
   refine so hg18 rfl rfl rfl rfl ?_
   refine spf trivial rfl rfl rfl ?_
   refine sm trivial rfl rfl ?_
   refine so hg23 rfl rfl rfl rfl ?_
   refine so hg23 rfl rfl rfl rfl ?_
   refine so hg23 rfl rfl rfl rfl ?_
   refine so hg23 rfl rfl rfl rfl ?_
   refine spf trivial rfl rfl rfl ?_
   refine sm trivial rfl rfl ?_
   refine so hg29 rfl rfl rfl rfl ?_
   refine so hg29 rfl rfl rfl rfl ?_
   refine so hg29 rfl rfl rfl rfl ?_
   refine so hg29 rfl rfl rfl rfl ?_
   refine spf trivial rfl rfl rfl ?_
   refine sa trivial rfl rfl ?_
   refine St.nil fun a29 h29 => ?_
   refine hK4 _ _ ?_
   refine wp_ret ?_
   repeat (first | with_reducible refine of_then_ret ?_ | with_reducible refine of_block_ret ?_)
   have R : bareB xa xb xc xk xn rl al = false := by simp [bareB, hc28]
   exact ret_tmp (t := 2) h29 rfl rfl ⟨by rw [R], hW2.bel⟩

set_option maxHeartbeats 4000000 in
set_option maxRecDepth 100000 in
theorem bounds2 {xa xb xc xk xn : Int} {ra aa : Option Addr} {rl rc al ac : Nat} {am : Option Addr} {lm cm : Nat} {w : World} (hlm : lm < 2305843009213693952) :
    Rd Try.prog 59 #[.agg #[.slice am lm cm], .agg #[.int .i64 2, .int .i64 xa, .int .i64 xb, .int .i64 xc, .int .i64 xk, .int .i64 xn, .slice ra rl rc, .slice aa al ac]] w (.int .i64 (boundsC lm 2 xk rl al)) := by
  refine fr_enter (n := 41) Try.func59 rfl rfl rfl ?_
  intro a hF
  have hW := Wd.start w
  replace hF : Fr 41 a [(0, .agg #[.slice am lm cm]), (1, .agg #[.int .i64 2, .int .i64 xa, .int .i64 xb, .int .i64 xc, .int .i64 xk, .int .i64 xn, .slice ra rl rc, .slice aa al ac])] := hF
  refine wp_seq_k ?_
  intro K1 hK1
  refine fr_region ?_
  intro ops hops
  clear hops
  refine St.go hF ?_; clear hF a
  refine sB hW trivial rfl rfl ?_
  clear hW; intro w2 B2 hW2 hN; clear hN
  refine sB hW2 trivial rfl rfl ?_
  clear hW2; intro w3 B3 hW3 hN; clear hN
  refine sa trivial rfl rfl ?_
  refine St.nil fun a4 h4 => ?_
  refine hK1 _ _ ?_
  refine wp_seq_k ?_
  intro K5 hK5
  refine wp_seq_k ?_
  intro K6 hK6
  refine fr_region ?_
  intro ops hops
  clear hops
  refine St.go h4 ?_; clear h4 a4
  refine sfIns0 trivial rfl rfl ?_
  refine sbInt 0 hW3 trivial rfl rfl rfl rfl ?_
  refine St.nil fun a7 h7 => ?_
  refine hK6 _ _ ?_
  refine wp_block ?_
  refine wp_seq_k ?_
  intro K8 hK8
  refine fr_region ?_
  intro ops hops
  clear hops
  refine fr_pure (t := 9) (v := .bool true) (w' := w3) h7 rfl rfl rfl (fun K hK => ?_) ?_
  ·have k0 : a7.tmps.getD 7 undef = .int .i64 2 := h7.sl 7 _ rfl
   go_simp
   exact hK
  clear h7; intro a9 hF9
  refine St.go hF9 ?_; clear hF9 a9
  refine sa trivial rfl rfl ?_
  refine St.nil fun a10 h10 => ?_
  refine hK8 _ _ ?_
  refine fr_true (t := 8) h10 rfl ?_
  refine wp_seq_k ?_
  intro K11 hK11
  refine fr_region ?_
  intro ops hops
  clear hops
  refine St.go h10 ?_; clear h10 a10
  refine sfIns4 trivial rfl rfl ?_
  refine sbInt 0 hW3 trivial rfl rfl rfl rfl ?_
  refine sc_3 cf86 hW3 (rangeCode_any) trivial rfl rfl rfl rfl ?_
  clear hW3; intro w12 hW12
  refine sa trivial rfl rfl ?_
  refine St.nil fun a13 h13 => ?_
  refine hK11 _ _ ?_
  refine wp_ret ?_
  repeat (first | with_reducible refine of_then_ret ?_ | with_reducible refine of_block_ret ?_)
  have R : boundsC lm 2 xk rl al = rangeC xk 1 9 := by simp [boundsC]
  exact ret_tmp (t := 4) h13 rfl rfl ⟨by rw [R], hW12.bel⟩

set_option maxHeartbeats 4000000 in
set_option maxRecDepth 100000 in
theorem bounds5 {xa xb xc xk xn : Int} {ra aa : Option Addr} {rl rc al ac : Nat} {am : Option Addr} {lm cm : Nat} {w : World} (hlm : lm < 2305843009213693952) :
    Rd Try.prog 59 #[.agg #[.slice am lm cm], .agg #[.int .i64 5, .int .i64 xa, .int .i64 xb, .int .i64 xc, .int .i64 xk, .int .i64 xn, .slice ra rl rc, .slice aa al ac]] w (.int .i64 (boundsC lm 5 xk rl al)) := by
  refine fr_enter (n := 41) Try.func59 rfl rfl rfl ?_
  intro a hF
  have hW := Wd.start w
  replace hF : Fr 41 a [(0, .agg #[.slice am lm cm]), (1, .agg #[.int .i64 5, .int .i64 xa, .int .i64 xb, .int .i64 xc, .int .i64 xk, .int .i64 xn, .slice ra rl rc, .slice aa al ac])] := hF
  refine wp_seq_k ?_
  intro K1 hK1
  refine fr_region ?_
  intro ops hops
  clear hops
  refine St.go hF ?_; clear hF a
  refine sB hW trivial rfl rfl ?_
  clear hW; intro w2 B2 hW2 hN; clear hN
  refine sB hW2 trivial rfl rfl ?_
  clear hW2; intro w3 B3 hW3 hN; clear hN
  refine sa trivial rfl rfl ?_
  refine St.nil fun a4 h4 => ?_
  refine hK1 _ _ ?_
  refine wp_seq_k ?_
  intro K5 hK5
  refine wp_seq_k ?_
  intro K6 hK6
  refine fr_region ?_
  intro ops hops
  clear hops
  refine St.go h4 ?_; clear h4 a4
  refine sfIns0 trivial rfl rfl ?_
  refine sbInt 0 hW3 trivial rfl rfl rfl rfl ?_
  refine St.nil fun a7 h7 => ?_
  refine hK6 _ _ ?_
  refine wp_block ?_
  refine wp_seq_k ?_
  intro K8 hK8
  refine fr_region ?_
  intro ops hops
  clear hops
  refine St.go h7 ?_; clear h7 a7
  refine seq trivial rfl rfl rfl ?_
  refine sa trivial rfl rfl ?_
  refine St.nil fun a9 h9 => ?_
  refine hK8 _ _ ?_
  refine fr_false (t := 8) h9 rfl ?_
  refine wp_seq_k ?_
  intro K10 hK10
  refine wp_seq_k ?_
  intro K11 hK11
  refine fr_region ?_
  intro ops hops
  clear hops
  refine St.go h9 ?_; clear h9 a9
  refine seq trivial rfl rfl rfl ?_
  refine sa trivial rfl rfl ?_
  refine St.nil fun a12 h12 => ?_
  refine hK11 _ _ ?_
  refine fr_false (t := 13) h12 rfl ?_
  refine fr_region ?_
  intro ops hops
  clear hops
  refine St.go h12 ?_; clear h12 a12
  refine seq trivial rfl rfl rfl ?_
  refine sa trivial rfl rfl ?_
  refine St.nil fun a13 h13 => ?_
  refine hK10 _ _ ?_
  refine fr_false (t := 13) h13 rfl ?_
  refine wp_seq_k ?_
  intro K14 hK14
  refine fr_region ?_
  intro ops hops
  clear hops
  refine fr_pure (t := 20) (v := .bool true) (w' := w3) h13 rfl rfl rfl (fun K hK => ?_) ?_
  ·have k0 : a13.tmps.getD 7 undef = .int .i64 5 := h13.sl 7 _ rfl
   go_simp
   exact hK
  clear h13; intro a15 hF15
  refine St.go hF15 ?_; clear hF15 a15
  refine sa trivial rfl rfl ?_
  refine St.nil fun a16 h16 => ?_
  refine hK14 _ _ ?_
  refine fr_true (t := 19) h16 rfl ?_
  refine wp_seq_k ?_
  intro K17 hK17
  refine fr_region ?_
  intro ops hops
  clear hops
  refine St.go h16 ?_; clear h16 a16
  refine sfIns7 trivial rfl rfl ?_
  refine sbInts 0 hW3 trivial rfl rfl rfl rfl ?_
  refine sc_2 cf87 hW3 (manyCode_any) trivial rfl rfl rfl ?_
  clear hW3; intro w18 hW18
  refine sa trivial rfl rfl ?_
  refine St.nil fun a19 h19 => ?_
  refine hK17 _ _ ?_
  refine wp_ret ?_
  repeat (first | with_reducible refine of_then_ret ?_ | with_reducible refine of_block_ret ?_)
  have R : boundsC lm 5 xk rl al = manyC al 8 := by simp [boundsC]
  exact ret_tmp (t := 4) h19 rfl rfl ⟨by rw [R], hW18.bel⟩

set_option maxHeartbeats 4000000 in
set_option maxRecDepth 100000 in
theorem bounds6 {xa xb xc xk xn : Int} {ra aa : Option Addr} {rl rc al ac : Nat} {am : Option Addr} {lm cm : Nat} {w : World} (hlm : lm < 2305843009213693952) :
    Rd Try.prog 59 #[.agg #[.slice am lm cm], .agg #[.int .i64 6, .int .i64 xa, .int .i64 xb, .int .i64 xc, .int .i64 xk, .int .i64 xn, .slice ra rl rc, .slice aa al ac]] w (.int .i64 (boundsC lm 6 xk rl al)) := by
  refine fr_enter (n := 41) Try.func59 rfl rfl rfl ?_
  intro a hF
  have hW := Wd.start w
  replace hF : Fr 41 a [(0, .agg #[.slice am lm cm]), (1, .agg #[.int .i64 6, .int .i64 xa, .int .i64 xb, .int .i64 xc, .int .i64 xk, .int .i64 xn, .slice ra rl rc, .slice aa al ac])] := hF
  refine wp_seq_k ?_
  intro K1 hK1
  refine fr_region ?_
  intro ops hops
  clear hops
  refine St.go hF ?_; clear hF a
  refine sB hW trivial rfl rfl ?_
  clear hW; intro w2 B2 hW2 hN; clear hN
  refine sB hW2 trivial rfl rfl ?_
  clear hW2; intro w3 B3 hW3 hN; clear hN
  refine sa trivial rfl rfl ?_
  refine St.nil fun a4 h4 => ?_
  refine hK1 _ _ ?_
  refine wp_seq_k ?_
  intro K5 hK5
  refine wp_seq_k ?_
  intro K6 hK6
  refine fr_region ?_
  intro ops hops
  clear hops
  refine St.go h4 ?_; clear h4 a4
  refine sfIns0 trivial rfl rfl ?_
  refine sbInt 0 hW3 trivial rfl rfl rfl rfl ?_
  refine St.nil fun a7 h7 => ?_
  refine hK6 _ _ ?_
  refine wp_block ?_
  refine wp_seq_k ?_
  intro K8 hK8
  refine fr_region ?_
  intro ops hops
  clear hops
  refine St.go h7 ?_; clear h7 a7
  refine seq trivial rfl rfl rfl ?_
  refine sa trivial rfl rfl ?_
  refine St.nil fun a9 h9 => ?_
  refine hK8 _ _ ?_
  refine fr_false (t := 8) h9 rfl ?_
  refine wp_seq_k ?_
  intro K10 hK10
  refine wp_seq_k ?_
  intro K11 hK11
  refine fr_region ?_
  intro ops hops
  clear hops
  refine fr_pure (t := 14) (v := .bool true) (w' := w3) h9 rfl rfl rfl (fun K hK => ?_) ?_
  ·have k0 : a9.tmps.getD 7 undef = .int .i64 6 := h9.sl 7 _ rfl
   go_simp
   exact hK
  clear h9; intro a12 hF12
  refine St.go hF12 ?_; clear hF12 a12
  refine sa trivial rfl rfl ?_
  refine St.nil fun a13 h13 => ?_
  refine hK11 _ _ ?_
  refine fr_true (t := 13) h13 rfl ?_
  refine wp_skip ?_
  refine hK10 _ _ ?_
  refine fr_true (t := 13) h13 rfl ?_
  refine wp_seq_k ?_
  intro K14 hK14
  refine fr_region ?_
  intro ops hops
  clear hops
  refine St.go h13 ?_; clear h13 a13
  refine sfIns4 trivial rfl rfl ?_
  refine sbInt 0 hW3 trivial rfl rfl rfl rfl ?_
  refine sc_3 cf86 hW3 (rangeCode_any) trivial rfl rfl rfl rfl ?_
  clear hW3; intro w15 hW15
  refine sa trivial rfl rfl ?_
  refine St.nil fun a16 h16 => ?_
  refine hK14 _ _ ?_
  refine wp_ret ?_
  repeat (first | with_reducible refine of_then_ret ?_ | with_reducible refine of_block_ret ?_)
  have R : boundsC lm 6 xk rl al = rangeC xk 0 7 := by simp [boundsC]
  exact ret_tmp (t := 4) h16 rfl rfl ⟨by rw [R], hW15.bel⟩

set_option maxHeartbeats 4000000 in
set_option maxRecDepth 100000 in
theorem bounds7 {xa xb xc xk xn : Int} {ra aa : Option Addr} {rl rc al ac : Nat} {am : Option Addr} {lm cm : Nat} {w : World} (hlm : lm < 2305843009213693952) :
    Rd Try.prog 59 #[.agg #[.slice am lm cm], .agg #[.int .i64 7, .int .i64 xa, .int .i64 xb, .int .i64 xc, .int .i64 xk, .int .i64 xn, .slice ra rl rc, .slice aa al ac]] w (.int .i64 (boundsC lm 7 xk rl al)) := by
  refine fr_enter (n := 41) Try.func59 rfl rfl rfl ?_
  intro a hF
  have hW := Wd.start w
  replace hF : Fr 41 a [(0, .agg #[.slice am lm cm]), (1, .agg #[.int .i64 7, .int .i64 xa, .int .i64 xb, .int .i64 xc, .int .i64 xk, .int .i64 xn, .slice ra rl rc, .slice aa al ac])] := hF
  refine wp_seq_k ?_
  intro K1 hK1
  refine fr_region ?_
  intro ops hops
  clear hops
  refine St.go hF ?_; clear hF a
  refine sB hW trivial rfl rfl ?_
  clear hW; intro w2 B2 hW2 hN; clear hN
  refine sB hW2 trivial rfl rfl ?_
  clear hW2; intro w3 B3 hW3 hN; clear hN
  refine sa trivial rfl rfl ?_
  refine St.nil fun a4 h4 => ?_
  refine hK1 _ _ ?_
  refine wp_seq_k ?_
  intro K5 hK5
  refine wp_seq_k ?_
  intro K6 hK6
  refine fr_region ?_
  intro ops hops
  clear hops
  refine St.go h4 ?_; clear h4 a4
  refine sfIns0 trivial rfl rfl ?_
  refine sbInt 0 hW3 trivial rfl rfl rfl rfl ?_
  refine St.nil fun a7 h7 => ?_
  refine hK6 _ _ ?_
  refine wp_block ?_
  refine wp_seq_k ?_
  intro K8 hK8
  refine fr_region ?_
  intro ops hops
  clear hops
  refine St.go h7 ?_; clear h7 a7
  refine seq trivial rfl rfl rfl ?_
  refine sa trivial rfl rfl ?_
  refine St.nil fun a9 h9 => ?_
  refine hK8 _ _ ?_
  refine fr_false (t := 8) h9 rfl ?_
  refine wp_seq_k ?_
  intro K10 hK10
  refine wp_seq_k ?_
  intro K11 hK11
  refine fr_region ?_
  intro ops hops
  clear hops
  refine St.go h9 ?_; clear h9 a9
  refine seq trivial rfl rfl rfl ?_
  refine sa trivial rfl rfl ?_
  refine St.nil fun a12 h12 => ?_
  refine hK11 _ _ ?_
  refine fr_false (t := 13) h12 rfl ?_
  refine fr_region ?_
  intro ops hops
  clear hops
  refine fr_pure (t := 15) (v := .bool true) (w' := w3) h12 rfl rfl rfl (fun K hK => ?_) ?_
  ·have k0 : a12.tmps.getD 7 undef = .int .i64 7 := h12.sl 7 _ rfl
   go_simp
   exact hK
  clear h12; intro a13 hF13
  refine St.go hF13 ?_; clear hF13 a13
  refine sa trivial rfl rfl ?_
  refine St.nil fun a14 h14 => ?_
  refine hK10 _ _ ?_
  refine fr_true (t := 13) h14 rfl ?_
  refine wp_seq_k ?_
  intro K15 hK15
  refine fr_region ?_
  intro ops hops
  clear hops
  refine St.go h14 ?_; clear h14 a14
  refine sfIns4 trivial rfl rfl ?_
  refine sbInt 0 hW3 trivial rfl rfl rfl rfl ?_
  refine sc_3 cf86 hW3 (rangeCode_any) trivial rfl rfl rfl rfl ?_
  clear hW3; intro w16 hW16
  refine sa trivial rfl rfl ?_
  refine St.nil fun a17 h17 => ?_
  refine hK15 _ _ ?_
  refine wp_ret ?_
  repeat (first | with_reducible refine of_then_ret ?_ | with_reducible refine of_block_ret ?_)
  have R : boundsC lm 7 xk rl al = rangeC xk 0 7 := by simp [boundsC]
  exact ret_tmp (t := 4) h17 rfl rfl ⟨by rw [R], hW16.bel⟩

set_option maxHeartbeats 4000000 in
set_option maxRecDepth 100000 in
theorem bounds14 {xa xb xc xk xn : Int} {ra aa : Option Addr} {rl rc al ac : Nat} {am : Option Addr} {lm cm : Nat} {w : World} (hlm : lm < 2305843009213693952) :
    Rd Try.prog 59 #[.agg #[.slice am lm cm], .agg #[.int .i64 14, .int .i64 xa, .int .i64 xb, .int .i64 xc, .int .i64 xk, .int .i64 xn, .slice ra rl rc, .slice aa al ac]] w (.int .i64 (boundsC lm 14 xk rl al)) := by
  refine fr_enter (n := 41) Try.func59 rfl rfl rfl ?_
  intro a hF
  have hW := Wd.start w
  replace hF : Fr 41 a [(0, .agg #[.slice am lm cm]), (1, .agg #[.int .i64 14, .int .i64 xa, .int .i64 xb, .int .i64 xc, .int .i64 xk, .int .i64 xn, .slice ra rl rc, .slice aa al ac])] := hF
  refine wp_seq_k ?_
  intro K1 hK1
  refine fr_region ?_
  intro ops hops
  clear hops
  refine St.go hF ?_; clear hF a
  refine sB hW trivial rfl rfl ?_
  clear hW; intro w2 B2 hW2 hN; clear hN
  refine sB hW2 trivial rfl rfl ?_
  clear hW2; intro w3 B3 hW3 hN; clear hN
  refine sa trivial rfl rfl ?_
  refine St.nil fun a4 h4 => ?_
  refine hK1 _ _ ?_
  refine wp_seq_k ?_
  intro K5 hK5
  refine wp_seq_k ?_
  intro K6 hK6
  refine fr_region ?_
  intro ops hops
  clear hops
  refine St.go h4 ?_; clear h4 a4
  refine sfIns0 trivial rfl rfl ?_
  refine sbInt 0 hW3 trivial rfl rfl rfl rfl ?_
  refine St.nil fun a7 h7 => ?_
  refine hK6 _ _ ?_
  refine wp_block ?_
  refine wp_seq_k ?_
  intro K8 hK8
  refine fr_region ?_
  intro ops hops
  clear hops
  refine St.go h7 ?_; clear h7 a7
  refine seq trivial rfl rfl rfl ?_
  refine sa trivial rfl rfl ?_
  refine St.nil fun a9 h9 => ?_
  refine hK8 _ _ ?_
  refine fr_false (t := 8) h9 rfl ?_
  refine wp_seq_k ?_
  intro K10 hK10
  refine wp_seq_k ?_
  intro K11 hK11
  refine fr_region ?_
  intro ops hops
  clear hops
  refine St.go h9 ?_; clear h9 a9
  refine seq trivial rfl rfl rfl ?_
  refine sa trivial rfl rfl ?_
  refine St.nil fun a12 h12 => ?_
  refine hK11 _ _ ?_
  refine fr_false (t := 13) h12 rfl ?_
  refine fr_region ?_
  intro ops hops
  clear hops
  refine St.go h12 ?_; clear h12 a12
  refine seq trivial rfl rfl rfl ?_
  refine sa trivial rfl rfl ?_
  refine St.nil fun a13 h13 => ?_
  refine hK10 _ _ ?_
  refine fr_false (t := 13) h13 rfl ?_
  refine wp_seq_k ?_
  intro K14 hK14
  refine fr_region ?_
  intro ops hops
  clear hops
  refine St.go h13 ?_; clear h13 a13
  refine seq trivial rfl rfl rfl ?_
  refine sa trivial rfl rfl ?_
  refine St.nil fun a15 h15 => ?_
  refine hK14 _ _ ?_
  refine fr_false (t := 19) h15 rfl ?_
  refine wp_seq_k ?_
  intro K16 hK16
  refine fr_region ?_
  intro ops hops
  clear hops
  refine fr_pure (t := 25) (v := .bool true) (w' := w3) h15 rfl rfl rfl (fun K hK => ?_) ?_
  ·have k0 : a15.tmps.getD 7 undef = .int .i64 14 := h15.sl 7 _ rfl
   go_simp
   exact hK
  clear h15; intro a17 hF17
  refine St.go hF17 ?_; clear hF17 a17
  refine sa trivial rfl rfl ?_
  refine St.nil fun a18 h18 => ?_
  refine hK16 _ _ ?_
  refine fr_true (t := 24) h18 rfl ?_
  refine wp_seq_k ?_
  intro K19 hK19
  refine wp_seq_k ?_
  intro K20 hK20
  refine fr_region ?_
  intro ops hops
  clear hops
  refine St.go h18 ?_; clear h18 a18
  refine sfIns4 trivial rfl rfl ?_
  refine sbInt 0 hW3 trivial rfl rfl rfl rfl ?_
  refine sfModule0 trivial rfl rfl ?_
  refine sbFuncs 1 hW3 trivial rfl rfl rfl rfl ?_
  refine slFuncs trivial rfl rfl ?_
  intro a21 h21
  refine fr_pure (t := 31) (v := .int .i64 ((lm : Int) - 1)) (w' := w3) h21 rfl rfl rfl (fun K hK => ?_) ?_
  ·have k0 : a21.tmps.getD 30 undef = .int .i64 (lm : Int) := h21.sl 30 _ rfl
   have hwr : IntKind.i64.wrap ((lm : Int) - 1) = (lm : Int) - 1 := wrap_pred _ (by omega)
   go_simp
   exact hK
  clear h21; intro a22 hF22
  refine St.go hF22 ?_; clear hF22 a22
  refine sc_3 cf86 hW3 (rangeCode_any) trivial rfl rfl rfl rfl ?_
  clear hW3; intro w23 hW23
  refine sa trivial rfl rfl ?_
  refine St.nil fun a24 h24 => ?_
  refine hK20 _ _ ?_
  refine wp_seq_k ?_
  intro K25 hK25
  refine fr_region ?_
  intro ops hops
  clear hops
  refine St.go h24 ?_; clear h24 a24
  refine sm trivial rfl rfl ?_
  refine sne trivial rfl rfl rfl ?_
  refine St.nil fun a26 h26 => ?_
  refine hK25 _ _ ?_
  refine fr_cond (t := 34) h26 rfl (fun hb => ?_) (fun hb => ?_)
  ·have h9 : ¬ (rangeC xk 0 ((lm : Int) - 1)) = 0 := bne_iff_ne.1 hb
   have hc27 : ¬ (rangeC xk 0 ((lm : Int) - 1)) = 0 := h9
   clear h9
   clear hb
   refine wp_seq_k ?_
   intro K28 hK28
   refine fr_region ?_
   intro ops hops
   clear hops
   refine St.go h26 ?_; clear h26 a26
   refine sm trivial rfl rfl ?_
   refine sa trivial rfl rfl ?_
   refine St.nil fun a29 h29 => ?_
   refine hK28 _ _ ?_
   refine wp_ret ?_
   repeat (first | with_reducible refine of_then_ret ?_ | with_reducible refine of_block_ret ?_)
   have R : boundsC lm 14 xk rl al = rangeC xk 0 ((lm : Int) - 1) := by simp [boundsC, hc27]
   exact ret_tmp (t := 4) h29 rfl rfl ⟨by rw [R], hW23.bel⟩
  ·have h9 : (rangeC xk 0 ((lm : Int) - 1)) = 0 := bne_eq_false_iff_eq.1 hb
   have hc30 : Hid ((rangeC xk 0 ((lm : Int) - 1)) = 0) := h9
   clear h9
   clear hb
   refine wp_skip ?_
   refine hK19 _ _ ?_
   refine wp_seq_k ?_
   intro K31 hK31
   refine fr_region ?_
   intro ops hops
   clear hops
   refine St.go h26 ?_; clear h26 a26
   refine sfIns6 trivial rfl rfl ?_
   refine sbInts 0 hW23 trivial rfl rfl rfl rfl ?_
   refine sfIns7 trivial rfl rfl ?_
   refine sbInts 0 hW23 trivial rfl rfl rfl rfl ?_
   refine sc_3 cf88 hW23 (handedCode_any) trivial rfl rfl rfl rfl ?_
   clear hW23; intro w32 hW32
   refine sa trivial rfl rfl ?_
   refine St.nil fun a33 h33 => ?_
   refine hK31 _ _ ?_
   refine wp_ret ?_
   repeat (first | with_reducible refine of_then_ret ?_ | with_reducible refine of_block_ret ?_)
   have R : boundsC lm 14 xk rl al = handedC rl 6 al := by simp [boundsC, hc30.out]
   exact ret_tmp (t := 4) h33 rfl rfl ⟨by rw [R], hW32.bel⟩

set_option maxHeartbeats 4000000 in
set_option maxRecDepth 100000 in
theorem boundsNo {xop xa xb xc xk xn : Int} {ra aa : Option Addr} {rl rc al ac : Nat} {am : Option Addr} {lm cm : Nat} {w : World} (hlm : lm < 2305843009213693952) (h : xop ≠ 2 ∧ xop ≠ 6 ∧ xop ≠ 7 ∧ xop ≠ 5 ∧ xop ≠ 14) :
    Rd Try.prog 59 #[.agg #[.slice am lm cm], .agg #[.int .i64 xop, .int .i64 xa, .int .i64 xb, .int .i64 xc, .int .i64 xk, .int .i64 xn, .slice ra rl rc, .slice aa al ac]] w (.int .i64 (boundsC lm xop xk rl al)) := by
  refine fr_enter (n := 41) Try.func59 rfl rfl rfl ?_
  intro a hF
  have hW := Wd.start w
  replace hF : Fr 41 a [(0, .agg #[.slice am lm cm]), (1, .agg #[.int .i64 xop, .int .i64 xa, .int .i64 xb, .int .i64 xc, .int .i64 xk, .int .i64 xn, .slice ra rl rc, .slice aa al ac])] := hF
  refine wp_seq_k ?_
  intro K1 hK1
  refine fr_region ?_
  intro ops hops
  clear hops
  refine St.go hF ?_; clear hF a
  refine sB hW trivial rfl rfl ?_
  clear hW; intro w2 B2 hW2 hN; clear hN
  refine sB hW2 trivial rfl rfl ?_
  clear hW2; intro w3 B3 hW3 hN; clear hN
  refine sa trivial rfl rfl ?_
  refine St.nil fun a4 h4 => ?_
  refine hK1 _ _ ?_
  refine wp_seq_k ?_
  intro K5 hK5
  refine wp_seq_k ?_
  intro K6 hK6
  refine fr_region ?_
  intro ops hops
  clear hops
  refine St.go h4 ?_; clear h4 a4
  refine sfIns0 trivial rfl rfl ?_
  refine sbInt 0 hW3 trivial rfl rfl rfl rfl ?_
  refine St.nil fun a7 h7 => ?_
  refine hK6 _ _ ?_
  refine wp_block ?_
  refine wp_seq_k ?_
  intro K8 hK8
  refine fr_region ?_
  intro ops hops
  clear hops
  refine St.go h7 ?_; clear h7 a7
  refine seq trivial rfl rfl rfl ?_
  refine sa trivial rfl rfl ?_
  refine St.nil fun a9 h9 => ?_
  refine hK8 _ _ ?_
  refine fr_cond (t := 8) h9 rfl (fun hb => ?_) (fun hb => ?_)
  ·exact absurd (by simpa using hb) h.1
  ·clear hb
   refine wp_seq_k ?_
   intro K10 hK10
   refine wp_seq_k ?_
   intro K11 hK11
   refine fr_region ?_
   intro ops hops
   clear hops
   refine St.go h9 ?_; clear h9 a9
   refine seq trivial rfl rfl rfl ?_
   refine sa trivial rfl rfl ?_
   refine St.nil fun a12 h12 => ?_
   refine hK11 _ _ ?_
   refine fr_cond (t := 13) h12 rfl (fun hb => ?_) (fun hb => ?_)
   ·rw [hb] at h12
    exact absurd (by simpa using hb) h.2.1
   ·rw [hb] at h12
    clear hb
    refine fr_region ?_
    intro ops hops
    clear hops
    refine St.go h12 ?_; clear h12 a12
    refine seq trivial rfl rfl rfl ?_
    refine sa trivial rfl rfl ?_
    refine St.nil fun a13 h13 => ?_
    refine hK10 _ _ ?_
    refine fr_cond (t := 13) h13 rfl (fun hb => ?_) (fun hb => ?_)
    ·rw [hb] at h13
     exact absurd (by simpa using hb) h.2.2.1
    ·rw [hb] at h13
     clear hb
     refine wp_seq_k ?_
     intro K14 hK14
     refine fr_region ?_
     intro ops hops
     clear hops
     refine St.go h13 ?_; clear h13 a13
     refine seq trivial rfl rfl rfl ?_
     refine sa trivial rfl rfl ?_
     refine St.nil fun a15 h15 => ?_
     refine hK14 _ _ ?_
     refine fr_cond (t := 19) h15 rfl (fun hb => ?_) (fun hb => ?_)
     ·exact absurd (by simpa using hb) h.2.2.2.1
     ·clear hb
      refine wp_seq_k ?_
      intro K16 hK16
      refine fr_region ?_
      intro ops hops
      clear hops
      refine St.go h15 ?_; clear h15 a15
      refine seq trivial rfl rfl rfl ?_
      refine sa trivial rfl rfl ?_
      refine St.nil fun a17 h17 => ?_
      refine hK16 _ _ ?_
      refine fr_cond (t := 24) h17 rfl (fun hb => ?_) (fun hb => ?_)
      ·exact absurd (by simpa using hb) h.2.2.2.2
      ·clear hb
       refine wp_skip ?_
       refine hK5 _ _ ?_
       refine wp_seq_k ?_
       intro K18 hK18
       refine fr_region ?_
       intro ops hops
       clear hops
       refine St.go h17 ?_; clear h17 a17
       refine sa trivial rfl rfl ?_
       refine St.nil fun a19 h19 => ?_
       refine hK18 _ _ ?_
       refine wp_ret ?_
       repeat (first | with_reducible refine of_then_ret ?_ | with_reducible refine of_block_ret ?_)
       have R : boundsC lm xop xk rl al = 0 := by simp [boundsC, h.1, h.2.1, h.2.2.1, h.2.2.2.1, h.2.2.2.2]
       exact ret_tmp (t := 4) h19 rfl rfl ⟨by rw [R], hW3.bel⟩
end Go.Proofs.Ytmnmnokkojcodab
