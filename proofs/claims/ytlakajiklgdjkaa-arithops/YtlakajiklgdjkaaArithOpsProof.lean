/-
  Proved: called with any int k and any int64 a and b, ArithOps returns true: arith.Op answers the same number and the same truth as the document's own OpOf, at every k (those that are no K among them).
  Conditions: none beyond the form's own.
-/
import Derived.Test.YtlakajiklgdjkaaOps
import Derived.WalkKit
import Derived.ProofKit
import Derived.OpenShut
namespace Go.Proofs.Ytlakajiklgdjkaa.arithOps
open Go.ChangeShapes Go.WideShapes Go.ChangeAt Go.RowKit
set_option linter.unusedVariables false      -- a walk need not use every 'w<i>' (that an integer argument fits its kind)

theorem own : ownKnob Try.prog.godebug = none := by kernel_rfl

theorem IntKind_bounds {a : Int} (h : (Lit.int .i64 a).wf = true) : -9223372036854775808 ≤ a ∧ a ≤ 9223372036854775807 := by
  have := bounds_i64 h
  exact ⟨by omega, by omega⟩

/-- Where both functions answer one pair, the law answers true. -/
theorem both (k a b : Int) (w : World) (x : Int) (p : Bool)
    (h1 : ∀ w, Calls Try.prog 6 #[.int .i64 k, .int .i64 a, .int .i64 b] w fun e w' => e = .returned (.tuple #[.int .i64 x, .bool p]) ∧ w' = w)
    (h2 : ∀ w, Calls Try.prog 7 #[.int .i64 k, .int .i64 a, .int .i64 b] w fun e w' => e = .returned (.tuple #[.int .i64 x, .bool p]) ∧ w' = w) :
    Calls Try.prog 3 #[.int .i64 k, .int .i64 a, .int .i64 b] w fun e w' => e = .returned (.bool true) ∧ Grown w w' := by
  have H1 : Hid (∀ w, Calls Try.prog 6 #[.int .i64 k, .int .i64 a, .int .i64 b] w fun e w' => e = .returned (.tuple #[.int .i64 x, .bool p]) ∧ w' = w) := h1
  have H2 : Hid (∀ w, Calls Try.prog 7 #[.int .i64 k, .int .i64 a, .int .i64 b] w fun e w' => e = .returned (.tuple #[.int .i64 x, .bool p]) ∧ w' = w) := h2
  clear h1 h2
  go_enter Try.func3, Try.ntmps3
  go_wp2_with (first | (go_at_call 5; refine (ops.begun _).mono ?_; rintro e w' ⟨rfl, rfl⟩) | (go_at_call 6; refine (H1.out _).mono ?_; rintro e w' ⟨rfl, rfl⟩) | (go_at_call 7; refine (H2.out _).mono ?_; rintro e w' ⟨rfl, rfl⟩))
  go_ret
  exact ⟨rfl, Grown.refl _⟩

/-! ### STEP 1: THE WALK: the Go text returns true. 'Grown w w'': the world has at most new blocks (Derived/RowKit3.lean). Part the cases AHEAD of 'go_enter' where a test parts the walk; take each callee by a contract of your own. -/
theorem walk (a0 : Int) (a1 : Int) (a2 : Int) (w0 : (Lit.int .i64 a0).wf = true) (w1 : (Lit.int .i64 a1).wf = true) (w2 : (Lit.int .i64 a2).wf = true) (w : World) :
    Calls Try.prog 3 #[.int .i64 a0, .int .i64 a1, .int .i64 a2] w fun e w' => e = .returned (.bool true) ∧ Grown w w' := by
  have hB := IntKind_bounds w1
  have hl : -9223372036854775808 ≤ a1 := hB.1
  by_cases h : a0 < 1 ∨ 9 < a0
  · exact both a0 a1 a2 w _ _ (fun w => ops.opN a0 a1 a2 w h) (fun w => ops.refN a0 a1 a2 w h)
  · obtain rfl | rfl | rfl | rfl | rfl | rfl | rfl | rfl | rfl : a0 = 1 ∨ a0 = 2 ∨ a0 = 3 ∨ a0 = 4 ∨ a0 = 5 ∨ a0 = 6 ∨ a0 = 7 ∨ a0 = 8 ∨ a0 = 9 := by omega
    · exact both 1 a1 a2 w _ _ (ops.op1 a1 a2) (ops.ref1 a1 a2)
    · exact both 2 a1 a2 w _ _ (ops.op2 a1 a2) (ops.ref2 a1 a2)
    · exact both 3 a1 a2 w _ _ (ops.op3 a1 a2) (ops.ref3 a1 a2)
    · by_cases hz : a2 = 0
      · subst hz; exact both 4 a1 0 w _ _ (ops.op4z a1) (ops.ref4z a1)
      · exact both 4 a1 a2 w _ _ (fun w => ops.op4 a1 a2 w (by simp [hz]) hz) (fun w => ops.ref4 a1 a2 w (by simp [hz]) hz hl)
    · by_cases hz : a2 = 0
      · subst hz; exact both 5 a1 0 w _ _ (ops.op5z a1) (ops.ref5z a1)
      · exact both 5 a1 a2 w _ _ (fun w => ops.op5 a1 a2 w (by simp [hz]) hz) (fun w => ops.ref5 a1 a2 w (by simp [hz]) hz hl)
    · exact both 6 a1 a2 w _ _ (ops.op6 a1 a2) (ops.ref6 a1 a2)
    · exact both 7 a1 a2 w _ _ (ops.op7 a1 a2) (ops.ref7 a1 a2)
    · exact both 8 a1 a2 w _ _ (ops.op8 a1 a2) (ops.ref8 a1 a2)
    · exact both 9 a1 a2 w _ _ (ops.op9 a1 a2) (ops.ref9 a1 a2)

/-! ### THE ROW's STEP: WRITTEN OUT: LEAVE IT -/
set_option maxRecDepth 100000 in
theorem lifted (os : Os) (started : os.Started) (H : Type) (enc : TypeId × Value → H) :
    ReturnsInHanded {} Try.checked os 3 .any (Rows.arithOpsSpec.pre6 enc Try.prog Try.f3 Rows.arithOpsRow.domain false) (Rows.arithOpsSpec.post enc Try.prog Try.f3 false true false false) := by
  refine returnsInHanded_of_change (C := Try.checked) own started (by kernel_rfl) Try.func3
    (ChangeSpec.witness6 (enc := enc) (C := Try.checked) false ⟨#[], #[.int .i64 0, .int .i64 0, .int .i64 0], []⟩ 8 (by kernel_rfl) (by kernel_rfl) (by kernel_rfl) (by kernel_rfl)) ?_
  intro W base args ds gs before hval0 hW hcnd _
  have hval : ∀ (j : Nat) t v, Try.f3.params[j]? = some t → args[j]? = some v → Value.okWide Try.prog W .any base t v := hval0
  have hW' := hW
  obtain ⟨p, q, hA0, hV, rfl, hfz, hnd⟩ := hW
  have hA : DataW.TrodAll enc Try.prog W 0 (fun _ => true) true Try.f3.params.toList args.toList ds p := hA0
  rw [Try.params3] at hA hval
  obtain ⟨v0, vs0, d0, ds0, p0, q0, hargs, rfl, rfl, h0, r0⟩ := trodAll_cons hA
  obtain ⟨v1, vs1, d1, ds1, p1, q1, rfl, rfl, rfl, h1, r1⟩ := trodAll_cons r0
  obtain ⟨v2, vs2, d2, ds2, p2, q2, rfl, rfl, rfl, h2, r2⟩ := trodAll_cons r1
  obtain ⟨rfl, rfl, rfl⟩ := trodAll_nil r2
  obtain rfl : args = #[v0, v1, v2] := by cases args; simp_all
  obtain ⟨rfl, rfl⟩ := trodVars_none hV
  obtain ⟨a0, rfl, rfl, rfl, w0⟩ := open_int Try.underlying3 (hval 0 3 v0 rfl rfl) h0
  obtain ⟨a1, rfl, rfl, rfl, w1⟩ := open_int Try.underlying2 (hval 1 2 v1 rfl rfl) h1
  obtain ⟨a2, rfl, rfl, rfl, w2⟩ := open_int Try.underlying2 (hval 2 2 v2 rfl rfl) h2
  clear hA0 hval0
  simp only [List.append_nil] at hW'
  refine (walk a0 a1 a2 w0 w1 w2 W).mono fun e W' ⟨he, hg⟩ => ?_
  subst he
  exact ⟨_, rfl, post_of_same (pa := []) (pv := []) hW' (fun _ _ _ => (trodAll_cons_mk (shut_bool Try.underlying4 _) trodAll_mk0)) (fun sp _ => (trodAll_cons_mk (shut_int Try.underlying3 w0) (trodAll_cons_mk (shut_int Try.underlying2 w1) (trodAll_cons_mk (shut_int Try.underlying2 w2) trodAll_mk0)))) (fun _ _ => rfl) rfl
    (hg.frame _) hg.2.1 (ok_one (by kernel_rfl) rfl (okWide_bool_mk Try.underlying4 _))⟩

theorem over : Rows.arithOpsRow.holds Try.pinned (OpenSpec.ofChange Rows.arithOpsSpec) :=
  OpenClaim.holds_of_wide 3 Try.f3 rfl rfl rfl rfl rfl rfl rfl ⟨rfl, rfl, rfl, rfl, rfl⟩ rfl rfl rfl rfl rfl (by kernel_rfl) Try.func3 (by kernel_rfl)
    (of_decide_eq_true (by kernel_rfl)) (by unfold Func.isWrapper; first | (rw [if_pos (by decide +kernel)]; kernel_rfl) | (rw [if_neg (by decide +kernel)]; exact ⟨rfl, rfl⟩))
    (fun os started H enc _ => lifted os started H enc)

end Go.Proofs.Ytlakajiklgdjkaa.arithOps
namespace Go.Proofs.Ytlakajiklgdjkaa
/-- THE STATEMENT. -/
theorem arithOps_holds : Rows.ArithOpsSaid :=
  arithOps.over
#print axioms arithOps_holds
end Go.Proofs.Ytlakajiklgdjkaa
