/-
  Proved: called with any two modules, CodeDoes returns true, and both read behind the call as they read before: every Check, Own and Same of package code is as the document says, and what is handed in stays.
  Conditions: none beyond the form's own (the data are finite).
-/
import Derived.Test.YtmnmnokkojcodabP6
namespace Go.Proofs.Ytmnmnokkojcodab.codeDoes
open Go.ChangeShapes Go.WideShapes Go.ChangeAt Go.RowKit
set_option linter.unusedVariables false

theorem agg_of {v : Value} {l : List Value} (hv : ∃ cs : Array Value, v = .agg cs ∧ True) (h : v.cells.toList = l) : v = .agg l.toArray := by
  obtain ⟨⟨cs⟩, rfl, _⟩ := hv
  simp only [Value.cells] at h
  rw [← h]

set_option maxRecDepth 100000 in
theorem lifted (os : Os) (started : os.Started) (H : Type) (enc : TypeId × Value → H) :
    ReturnsInHanded {} Try.checked os 4 .any (Rows.codeDoesSpec.pre6 enc Try.prog Try.f4 Rows.codeDoesRow.domain false) (Rows.codeDoesSpec.post enc Try.prog Try.f4 false true false false) := by
  refine returnsInHanded_of_change_sized (C := Try.checked) own started (by kernel_rfl) Try.func4
    (ChangeSpec.witness6 (enc := enc) (C := Try.checked) false ⟨#[], #[.agg #[.slice none 0 0], .agg #[.slice none 0 0]], []⟩ 8 (by kernel_rfl) (by kernel_rfl) (by kernel_rfl) (by kernel_rfl)) ?_
  intro W base args ds gs before hval0 hW hcnd hsz0 _
  have hval : ∀ (j : Nat) t v, Try.f4.params[j]? = some t → args[j]? = some v → Value.okWide Try.prog W .any base t v := hval0
  have hW' := hW
  obtain ⟨p, q, hA0, hV, rfl, hfz, hnd⟩ := hW
  have hA : DataW.TrodAll enc Try.prog W 0 (fun _ => true) true Try.f4.params.toList args.toList ds p := hA0
  have hsz : (DataW.weightsEach Try.prog (Try.f4.params.toList ++ Rows.codeDoesSpec.plain.varTypes Try.prog) (ds ++ gs)).all (· ≤ reachBytes) = true := hsz0
  rw [Try.params4] at hA hval hsz
  obtain ⟨v0, vs0, d0, ds0, p0, q0, hargs, rfl, rfl, h0, r0⟩ := trodAll_cons hA
  obtain ⟨v1, vs1, d1, ds1, p1, q1, rfl, rfl, rfl, h1, r1⟩ := trodAll_cons r0
  obtain ⟨rfl, rfl, rfl⟩ := trodAll_nil r1
  obtain rfl : args = #[v0, v1] := by cases args; simp_all
  obtain ⟨rfl, rfl⟩ := trodVars_none hV
  obtain ⟨c0, e0, _⟩ := okWide_struct Try.underlying39 (hval 0 39 v0 rfl rfl)
  obtain ⟨c1, e1, _⟩ := okWide_struct Try.underlying39 (hval 1 39 v1 rfl rfl)
  have wt : ∀ (j : Nat) t (d : DataW H), ([39, 39] ++ Rows.codeDoesSpec.plain.varTypes Try.prog)[j]? = some t → ([d0, d1] ++ [])[j]? = some d → Wt Try.prog t d := fun j t d ht hd k hk => by
    have := List.all_eq_true.1 hsz k (DataW.weights_mem_each ht hd k hk)
    simpa using this
  have k0 := h0
  have k1 := h1
  have lt0 : ∀ x ∈ p0, x.block < W.heap.size := by obtain ⟨m, hm⟩ := k0; exact DataW.trod_lt m _ _ _ hm
  have lt1 : ∀ x ∈ p1, x.block < W.heap.size := by obtain ⟨m, hm⟩ := k1; exact DataW.trod_lt m _ _ _ hm
  obtain ⟨f0, hf0⟩ := h0
  obtain ⟨f1, hf1⟩ := h1
  obtain ⟨m, hm, _⟩ := (readsMod (f0 + f1)).2 (by omega) hf0 (wt 0 _ _ rfl rfl)
  obtain ⟨k, hk, _⟩ := (readsMod (f0 + f1)).2 (by omega) hf1 (wt 1 _ _ rfl rfl)
  obtain ⟨pm, cm, em, gm⟩ := list_form hm
  obtain ⟨pk, ck, ek, gk⟩ := list_form hk
  obtain rfl := agg_of ⟨c0, e0, trivial⟩ em
  obtain rfl := agg_of ⟨c1, e1, trivial⟩ ek
  clear hA0 hval0 e0 e1
  refine (does_any gm gk).mono fun e W' ⟨he, bel⟩ => ?_
  subst he
  exact ⟨_, rfl, _, _, _, [], _, [], hW', trodAll_mk1 (shut_bool Try.underlying4 _), (trodAll_cons_mk (Below.trod laidOut (by kernel_rfl) (of_decide_eq_true (by kernel_rfl)) k0 bel lt0) (trodAll_cons_mk (Below.trod laidOut (by kernel_rfl) (of_decide_eq_true (by kernel_rfl)) k1 bel lt1) trodAll_mk0)), rfl, bel.frame _, fun h => by cases h⟩

theorem over : Rows.codeDoesRow.holds Try.pinned (OpenSpec.ofChange Rows.codeDoesSpec) :=
  OpenClaim.holds_of_wide 4 Try.f4 rfl rfl rfl rfl rfl rfl rfl ⟨rfl, rfl, rfl, rfl, rfl⟩ rfl rfl rfl rfl rfl (by kernel_rfl) Try.func4 (by kernel_rfl)
    (of_decide_eq_true (by kernel_rfl)) (by unfold Func.isWrapper; first | (rw [if_pos (by decide +kernel)]; kernel_rfl) | (rw [if_neg (by decide +kernel)]; exact ⟨rfl, rfl⟩))
    (fun os started H enc _ => lifted os started H enc)

end Go.Proofs.Ytmnmnokkojcodab.codeDoes
namespace Go.Proofs.Ytmnmnokkojcodab
/-- THE STATEMENT. -/
theorem codeDoes_holds : Rows.CodeDoesSaid :=
  codeDoes.over
#print axioms codeDoes_holds
end Go.Proofs.Ytmnmnokkojcodab
