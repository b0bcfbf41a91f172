/-
  The codes of a type: ownCode, firstCode, typeFault, Check, TypeFault.
-/
import Derived.Test.YtmnmnokkojcodabTypRead
namespace Go.Proofs.Ytmnmnokkojcodab
open Go.ChangeShapes Go.WideShapes Go.ChangeAt Go.RowKit
set_option linter.unusedVariables false

set_option maxHeartbeats 4000000 in
set_option maxRecDepth 100000 in
theorem ownCode_any (k r : Int) (a : Option Addr) (len c : Nat) (regs : Int) (w : World) :
    Calls Try.prog 118 #[.agg #[.int .i64 k, .int .i64 r, .slice a len c], .int .i64 regs] w fun e w' => e = .returned (.int .i64 (ownC k r len regs)) ∧ Below w.heap.size w w' := by
  rcases (show k < 1 ∨ (¬ k < 1 ∧ 4 < k) ∨ k = 1 ∨ k = 2 ∨ k = 4 ∨ k = 3 by omega) with h1 | ⟨h1, h2⟩ | rfl | rfl | rfl | rfl
  · rw [show ownC _ _ len regs = 3 by unfold ownC; repeat' split; all_goals omega]
    go_enter Try.func118, Try.ntmps118
    go_wp2_with fail
    go_ret
    exact ⟨rfl, (Below.refl _ w).alloc (Nat.le_refl _) _⟩
  · rw [show ownC _ _ len regs = 3 by unfold ownC; repeat' split; all_goals omega]
    go_enter Try.func118, Try.ntmps118
    go_wp2_with fail
    go_ret
    exact ⟨rfl, (Below.refl _ w).alloc (Nat.le_refl _) _⟩
  · rcases (show r ≠ 0 ∨ (r = 0 ∧ 0 < len) ∨ (r = 0 ∧ len = 0) by omega) with h1 | ⟨rfl, h1⟩ | ⟨rfl, h1⟩
    · have g1 : (r != 0) = true := by simpa using h1
      rw [show ownC _ _ len regs = 4 by unfold ownC; repeat' split; all_goals omega]
      go_enter Try.func118, Try.ntmps118
      go_wp2_with fail
      go_ret
      exact ⟨rfl, (Below.refl _ w).alloc (Nat.le_refl _) _⟩
    · have g1 : (0 : Int) < (len : Int) := by omega
      rw [show ownC _ _ len regs = 4 by unfold ownC; repeat' split; all_goals omega]
      go_enter Try.func118, Try.ntmps118
      go_wp2_with fail
      go_ret
      exact ⟨rfl, (Below.refl _ w).alloc (Nat.le_refl _) _⟩
    · have g1 : ¬ (0 : Int) < (len : Int) := by omega
      have g2 : ¬ (8 : Int) < (len : Int) := by omega
      rw [show ownC _ _ len regs = 0 by unfold ownC; repeat' split; all_goals omega]
      go_enter Try.func118, Try.ntmps118
      go_wp2_with fail
      go_ret
      exact ⟨rfl, (Below.refl _ w).alloc (Nat.le_refl _) _⟩
  · rcases (show 0 < len ∨ (len = 0 ∧ r < 0) ∨ (len = 0 ∧ 0 ≤ r ∧ regs ≤ r) ∨ (len = 0 ∧ 0 ≤ r ∧ r < regs) by omega) with h1 | ⟨h1, h2⟩ | ⟨h1, h2, h3⟩ | ⟨h1, h2, h3⟩
    · have g1 : (0 : Int) < (len : Int) := by omega
      rw [show ownC _ _ len regs = 4 by unfold ownC; repeat' split; all_goals omega]
      go_enter Try.func118, Try.ntmps118
      go_wp2_with fail
      go_ret
      exact ⟨rfl, (Below.refl _ w).alloc (Nat.le_refl _) _⟩
    · have g1 : ¬ (0 : Int) < (len : Int) := by omega
      have g2 : ¬ (8 : Int) < (len : Int) := by omega
      rw [show ownC _ _ len regs = 1 by unfold ownC; repeat' split; all_goals omega]
      go_enter Try.func118, Try.ntmps118
      go_wp2_with fail
      go_ret
      exact ⟨rfl, (Below.refl _ w).alloc (Nat.le_refl _) _⟩
    · have g1 : ¬ (0 : Int) < (len : Int) := by omega
      have g2 : ¬ (8 : Int) < (len : Int) := by omega
      rw [show ownC _ _ len regs = 1 by unfold ownC; repeat' split; all_goals omega]
      go_enter Try.func118, Try.ntmps118
      go_wp2_with fail
      go_ret
      exact ⟨rfl, (Below.refl _ w).alloc (Nat.le_refl _) _⟩
    · have g1 : ¬ (0 : Int) < (len : Int) := by omega
      have g2 : ¬ (8 : Int) < (len : Int) := by omega
      rw [show ownC _ _ len regs = 0 by unfold ownC; repeat' split; all_goals omega]
      go_enter Try.func118, Try.ntmps118
      go_wp2_with fail
      go_ret
      exact ⟨rfl, (Below.refl _ w).alloc (Nat.le_refl _) _⟩
  · rcases (show 0 < len ∨ (len = 0 ∧ r < 0) ∨ (len = 0 ∧ 0 ≤ r ∧ regs ≤ r) ∨ (len = 0 ∧ 0 ≤ r ∧ r < regs) by omega) with h1 | ⟨h1, h2⟩ | ⟨h1, h2, h3⟩ | ⟨h1, h2, h3⟩
    · have g1 : (0 : Int) < (len : Int) := by omega
      rw [show ownC _ _ len regs = 4 by unfold ownC; repeat' split; all_goals omega]
      go_enter Try.func118, Try.ntmps118
      go_wp2_with fail
      go_ret
      exact ⟨rfl, (Below.refl _ w).alloc (Nat.le_refl _) _⟩
    · have g1 : ¬ (0 : Int) < (len : Int) := by omega
      have g2 : ¬ (8 : Int) < (len : Int) := by omega
      rw [show ownC _ _ len regs = 1 by unfold ownC; repeat' split; all_goals omega]
      go_enter Try.func118, Try.ntmps118
      go_wp2_with fail
      go_ret
      exact ⟨rfl, (Below.refl _ w).alloc (Nat.le_refl _) _⟩
    · have g1 : ¬ (0 : Int) < (len : Int) := by omega
      have g2 : ¬ (8 : Int) < (len : Int) := by omega
      rw [show ownC _ _ len regs = 1 by unfold ownC; repeat' split; all_goals omega]
      go_enter Try.func118, Try.ntmps118
      go_wp2_with fail
      go_ret
      exact ⟨rfl, (Below.refl _ w).alloc (Nat.le_refl _) _⟩
    · have g1 : ¬ (0 : Int) < (len : Int) := by omega
      have g2 : ¬ (8 : Int) < (len : Int) := by omega
      rw [show ownC _ _ len regs = 0 by unfold ownC; repeat' split; all_goals omega]
      go_enter Try.func118, Try.ntmps118
      go_wp2_with fail
      go_ret
      exact ⟨rfl, (Below.refl _ w).alloc (Nat.le_refl _) _⟩
  · rcases (show 8 < len ∨ (len ≤ 8 ∧ r < 0) ∨ (len ≤ 8 ∧ 0 ≤ r ∧ regs ≤ r) ∨ (len ≤ 8 ∧ 0 ≤ r ∧ r < regs) by omega) with h1 | ⟨h1, h2⟩ | ⟨h1, h2, h3⟩ | ⟨h1, h2, h3⟩
    · have g1 : (8 : Int) < (len : Int) := by omega
      rw [show ownC _ _ len regs = 2 by unfold ownC; repeat' split; all_goals omega]
      go_enter Try.func118, Try.ntmps118
      go_wp2_with fail
      go_ret
      exact ⟨rfl, (Below.refl _ w).alloc (Nat.le_refl _) _⟩
    · have g1 : ¬ (8 : Int) < (len : Int) := by omega
      rw [show ownC _ _ len regs = 1 by unfold ownC; repeat' split; all_goals omega]
      go_enter Try.func118, Try.ntmps118
      go_wp2_with fail
      go_ret
      exact ⟨rfl, (Below.refl _ w).alloc (Nat.le_refl _) _⟩
    · have g1 : ¬ (8 : Int) < (len : Int) := by omega
      rw [show ownC _ _ len regs = 1 by unfold ownC; repeat' split; all_goals omega]
      go_enter Try.func118, Try.ntmps118
      go_wp2_with fail
      go_ret
      exact ⟨rfl, (Below.refl _ w).alloc (Nat.le_refl _) _⟩
    · have g1 : ¬ (8 : Int) < (len : Int) := by omega
      rw [show ownC _ _ len regs = 0 by unfold ownC; repeat' split; all_goals omega]
      go_enter Try.func118, Try.ntmps118
      go_wp2_with fail
      go_ret
      exact ⟨rfl, (Below.refl _ w).alloc (Nat.le_refl _) _⟩
end Go.Proofs.Ytmnmnokkojcodab
