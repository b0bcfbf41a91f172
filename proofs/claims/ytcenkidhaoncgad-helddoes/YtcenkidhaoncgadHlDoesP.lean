/-
  Proved: called with any number and any list of steps, HeldDoes returns true, and the steps read behind the call as they read before: every New, Has, Open, Shut, Len, List and Pass of package held answers as the document says.
  Conditions: none beyond the form's own.
-/
import Derived.Test.YtcenkidhaoncgadHlDoesW
namespace Go.Proofs.Ytcenkidhaoncgad.heldDoes
open Go.ChangeShapes Go.WideShapes Go.ChangeAt Go.RowKit
set_option linter.unusedVariables false

theorem own : ownKnob Try.prog.godebug = none := by kernel_rfl
theorem laidOut : laidOutB Try.prog = true := by kernel_rfl
theorem reads_int (n : Nat) : Reads Try.prog 3 Lay.int n := Reads.int n Try.underlying3 (by kernel_rfl)
theorem reads_ints (n : Nat) : Reads Try.prog 28 Lay.int.listC (n + 1) := Reads.listC Try.underlying28 (by kernel_rfl) (reads_int n) (by decide)
theorem reads_step (n : Nat) : Reads Try.prog 30 hstepL (n + 2) := by
  refine Reads.struct Try.underlying30 (by kernel_rfl) ?_
  refine @FieldsFrom.cons _ _ 0 0 _ _ _ _ Lay.int (Lay.int.pair Lay.int.listC) rfl rfl (reads_int (n + 1)) ?_
  refine @FieldsFrom.cons _ _ 1 1 _ _ _ _ Lay.int Lay.int.listC rfl rfl (reads_int (n + 1)) ?_
  exact @FieldsFrom.last _ _ 2 2 _ _ _ Lay.int.listC rfl rfl (reads_ints n)
theorem reads_steps (n : Nat) : Reads Try.prog 22 hstepL.list (n + 3) := Reads.list Try.underlying22 (by kernel_rfl) (reads_step n) (by decide)

set_option maxRecDepth 100000 in
theorem lifted (os : Os) (started : os.Started) (H : Type) (enc : TypeId × Value → H) :
    ReturnsInHanded {} Try.checked os 3 .any (Rows.heldDoesSpec.pre6 enc Try.prog Try.f3 Rows.heldDoesRow.domain false) (Rows.heldDoesSpec.post enc Try.prog Try.f3 false true false false) := by
  refine returnsInHanded_of_change (C := Try.checked) own started (by kernel_rfl) Try.func3
    (ChangeSpec.witness6 (enc := enc) (C := Try.checked) false ⟨#[], #[.int .i64 0, .slice none 0 0], []⟩ 8 (by kernel_rfl) (by kernel_rfl) (by kernel_rfl) (by kernel_rfl)) ?_
  intro W base args ds gs before hval0 hW hcnd _
  have hval : ∀ (j : Nat) t v, Try.f3.params[j]? = some t → args[j]? = some v → Value.okWide Try.prog W .any base t v := hval0
  have hW' := hW
  obtain ⟨p, q, hA0, hV, rfl, hfz, hnd⟩ := hW
  have hA : DataW.TrodAll enc Try.prog W 0 (fun _ => true) true Try.f3.params.toList args.toList ds p := hA0
  rw [Try.params3] at hA hval
  obtain ⟨v0, vs0, d0, ds0, p0, q0, hargs, rfl, rfl, h0, r0⟩ := trodAll_cons hA
  obtain ⟨v1, vs1, d1, ds1, p1, q1, rfl, rfl, rfl, h1, r1⟩ := trodAll_cons r0
  obtain ⟨rfl, rfl, rfl⟩ := trodAll_nil r1
  obtain rfl : args = #[v0, v1] := by cases args; simp_all
  obtain ⟨rfl, rfl⟩ := trodVars_none hV
  obtain ⟨a0, rfl, rfl, rfl, w0⟩ := open_int Try.underlying3 (hval 0 3 v0 rfl rfl) h0
  obtain ⟨a1, len1, cap1, rfl⟩ := okWide_slice Try.underlying22 (hval 1 22 v1 rfl rfl)
  have k1 := h1
  have lt1 : ∀ x ∈ p1, x.block < W.heap.size := by obtain ⟨m, hm⟩ := k1; exact DataW.trod_lt m _ _ _ hm
  obtain ⟨f1, hf1⟩ := h1
  obtain ⟨l, hl⟩ := (reads_steps f1).2 (by omega) hf1
  have hl' : hstepL.list.In W (fun _ => True) l [.slice a1 len1 cap1] := by simpa [Value.cells] using hl
  have hll := (Lay.list_len hl').symm
  clear hA0 hval0
  have key : Calls Try.prog 3 #[.int .i64 a0, .slice a1 len1 cap1] W fun e w' => e = .returned (.bool true) ∧ Below W.heap.size W w' := by
    by_cases hg : 300 < (len1 : Int)
    · exact hdoes_great W a0 a1 len1 cap1 hg
    · exact hdoes_any W a0 (Go.bounds_i64 w0) l a1 len1 cap1 hg hll hl'
  refine key.mono fun e W' ⟨he, bel⟩ => ?_
  subst he
  exact ⟨_, rfl, _, _, _, [], _, [], hW', trodAll_mk1 (shut_bool Try.underlying4 _), (trodAll_cons_mk (shut_int Try.underlying3 w0) (trodAll_cons_mk (Below.trod laidOut (by kernel_rfl) (of_decide_eq_true (by kernel_rfl)) k1 bel lt1) trodAll_mk0)), rfl, bel.frame _, fun h => by cases h⟩

theorem over : Rows.heldDoesRow.holds Try.pinned (OpenSpec.ofChange Rows.heldDoesSpec) :=
  OpenClaim.holds_of_wide 3 Try.f3 rfl rfl rfl rfl rfl rfl rfl ⟨rfl, rfl, rfl, rfl, rfl⟩ rfl rfl rfl rfl rfl (by kernel_rfl) Try.func3 (by kernel_rfl)
    (of_decide_eq_true (by kernel_rfl)) (by unfold Func.isWrapper; first | (rw [if_pos (by decide +kernel)]; kernel_rfl) | (rw [if_neg (by decide +kernel)]; exact ⟨rfl, rfl⟩))
    (fun os started H enc _ => lifted os started H enc)

end Go.Proofs.Ytcenkidhaoncgad.heldDoes
namespace Go.Proofs.Ytcenkidhaoncgad
/-- THE STATEMENT. -/
theorem heldDoes_holds : Rows.HeldDoesSaid :=
  heldDoes.over
#print axioms heldDoes_holds
end Go.Proofs.Ytcenkidhaoncgad
