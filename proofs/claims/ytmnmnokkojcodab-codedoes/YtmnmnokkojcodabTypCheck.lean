/-
  Check: the code of a type.
-/
import Derived.Test.YtmnmnokkojcodabTypCheckR
import Derived.Test.YtmnmnokkojcodabTypFault
import Derived.Test.YtmnmnokkojcodabTypDeep
namespace Go.Proofs.Ytmnmnokkojcodab
open Go.ChangeShapes Go.WideShapes Go.ChangeAt Go.RowKit
set_option linter.unusedVariables false

set_option maxHeartbeats 4000000 in
set_option maxRecDepth 100000 in
theorem check_any : CheckAt 107 := by
  intro n t a c regs w ht hc
  have C1 : Hid (∀ wx, Below w.heap.size w wx → Calls Try.prog 115 #[Tv t a c, .int .i64 4] wx fun e w' => e = .returned (.bool (decide (4 < t.height))) ∧ Below wx.heap.size wx w') :=
    fun wx hb => deeper_any n t a c wx 4 (ht.below hb) hc (by omega)
  have C2 : Hid (∀ wx, Below w.heap.size w wx → Calls Try.prog 116 #[Tv t a c, .int .i64 regs] wx fun e w' => e = .returned (.int .i64 (t.fault regs)) ∧ Below wx.heap.size wx w') :=
    fun wx hb => firstCode_any n t a c regs wx (ht.below hb) hc
  have E : Hid (t.check regs = if 4 < t.height then 19 else t.fault regs) := rfl
  generalize t.check regs = res at E ⊢
  clear ht hc
  simp only [Tv] at C1 C2 ⊢
  generalize t.kind = k at C1 C2 ⊢
  generalize t.r = r at C1 C2 ⊢
  generalize t.len = len at C1 C2 ⊢
  generalize t.fault regs = v at C2 E
  go_enter Try.func107, Try.ntmps107
  go_wp2_with fail
  have X0 := Bx.start w k r a len c
  generalize w.alloc (.cells #[.int .i64 k, .int .i64 r, .slice a len c] 90) = w1 at X0 ⊢
  refine (C1.out _ X0.bel).mono ?_
  rintro e w2 ⟨rfl, b2⟩
  have X2 : Hid (Bx w w2 k r a len c) := X0.below b2
  have e0 := cellOf X2.out.box 0 _ rfl
  have e1 := cellOf X2.out.box 1 _ rfl
  have e2 := cellOf X2.out.box 2 _ rfl
  clear X0 b2 C1
  by_cases hd : 4 < t.height
  · rw [decide_eq_true hd]
    have R : Hid (res = 19) := by have := E.out; rwa [if_pos hd] at this
    clear hd
    go_wp2_with fail
    go_ret
    exact ⟨by rw [R.out]; rfl, X2.out.bel⟩
  · rw [decide_eq_false hd]
    have R : Hid (res = v) := by have := E.out; rwa [if_neg hd] at this
    clear hd
    go_wp2_with fail
    refine (C2.out _ X2.out.bel).mono ?_
    rintro e w3 ⟨rfl, b3⟩
    have X3 : Hid (Bx w w3 k r a len c) := X2.out.below b3
    clear X2 b3 C2 e0 e1 e2
    go_wp2_with fail
    go_ret
    exact ⟨by rw [R.out]; rfl, X3.out.bel⟩
end Go.Proofs.Ytmnmnokkojcodab
