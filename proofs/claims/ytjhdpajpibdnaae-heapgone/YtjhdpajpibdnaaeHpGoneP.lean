/-
  Proved: called with any number and any two lists of numbers, HeapGone returns true, and the lists read behind the call as they read before: once a region of package heap goes, nothing of it is got, set, counted or made, and it does not go again; what lies in another one stays as it was; its pages are left again.
  Conditions: none beyond the form's own.
-/
import Derived.Test.YtjhdpajpibdnaaeHpGone
namespace Go.Proofs.Ytjhdpajpibdnaae.heapGone
open Go.ChangeShapes Go.WideShapes Go.ChangeAt Go.RowKit
set_option linter.unusedVariables false

theorem own : ownKnob Try.prog.godebug = none := by kernel_rfl
theorem laidOut : laidOutB Try.prog = true := by kernel_rfl
theorem reads_int (n : Nat) : Reads Try.prog 2 Lay.int n := Reads.int n Try.underlying2 (by kernel_rfl)
theorem reads_ints (n : Nat) : Reads Try.prog 62 Lay.int.list (n + 1) := Reads.list Try.underlying62 (by kernel_rfl) (reads_int n) (by decide)

set_option maxRecDepth 100000 in
theorem lifted (os : Os) (started : os.Started) (H : Type) (enc : TypeId × Value → H) :
    ReturnsInHanded {} Try.checked os 5 .any (Rows.heapGoneSpec.pre6 enc Try.prog Try.f5 Rows.heapGoneRow.domain false) (Rows.heapGoneSpec.post enc Try.prog Try.f5 false true false false) := by
  refine returnsInHanded_of_change (C := Try.checked) own started (by kernel_rfl) Try.func5
    (ChangeSpec.witness6 (enc := enc) (C := Try.checked) false ⟨#[], #[.int .i64 0, .slice none 0 0, .slice none 0 0], []⟩ 8 (by kernel_rfl) (by kernel_rfl) (by kernel_rfl) (by kernel_rfl)) ?_
  intro W base args ds gs before hval0 hW hcnd _
  have hval : ∀ (j : Nat) t v, Try.f5.params[j]? = some t → args[j]? = some v → Value.okWide Try.prog W .any base t v := hval0
  have hW' := hW
  obtain ⟨p, q, hA0, hV, rfl, hfz, hnd⟩ := hW
  have hA : DataW.TrodAll enc Try.prog W 0 (fun _ => true) true Try.f5.params.toList args.toList ds p := hA0
  rw [Try.params5] at hA hval
  obtain ⟨v0, vs0, d0, ds0, p0, q0, hargs, rfl, rfl, h0, r0⟩ := trodAll_cons hA
  obtain ⟨v1, vs1, d1, ds1, p1, q1, rfl, rfl, rfl, h1, r1⟩ := trodAll_cons r0
  obtain ⟨v2, vs2, d2, ds2, p2, q2, rfl, rfl, rfl, h2, r2⟩ := trodAll_cons r1
  obtain ⟨rfl, rfl, rfl⟩ := trodAll_nil r2
  obtain rfl : args = #[v0, v1, v2] := by cases args; simp_all
  obtain ⟨rfl, rfl⟩ := trodVars_none hV
  obtain ⟨a0, rfl, rfl, rfl, w0⟩ := open_int Try.underlying3 (hval 0 3 v0 rfl rfl) h0
  obtain ⟨a1, len1, cap1, rfl⟩ := okWide_slice Try.underlying62 (hval 1 62 v1 rfl rfl)
  obtain ⟨a2, len2, cap2, rfl⟩ := okWide_slice Try.underlying62 (hval 2 62 v2 rfl rfl)
  have k1 := h1
  have k2 := h2
  have lt1 : ∀ x ∈ p1, x.block < W.heap.size := by obtain ⟨m, hm⟩ := k1; exact DataW.trod_lt m _ _ _ hm
  have lt2 : ∀ x ∈ p2, x.block < W.heap.size := by obtain ⟨m, hm⟩ := k2; exact DataW.trod_lt m _ _ _ hm
  obtain ⟨f1, hf1⟩ := h1
  obtain ⟨f2, hf2⟩ := h2
  obtain ⟨l1, hl1⟩ := (reads_ints f1).2 (by omega) hf1
  obtain ⟨l2, hl2⟩ := (reads_ints f2).2 (by omega) hf2
  have hl1' : Lay.int.list.In W (fun _ => True) l1 [.slice a1 len1 cap1] := by simpa [Value.cells] using hl1
  have hl2' : Lay.int.list.In W (fun _ => True) l2 [.slice a2 len2 cap2] := by simpa [Value.cells] using hl2
  have hll1 := (Lay.list_len hl1').symm
  have hll2 := (Lay.list_len hl2').symm
  clear hA0 hval0
  have key : Calls Try.prog 5 #[.int .i64 a0, .slice a1 len1 cap1, .slice a2 len2 cap2] W fun e w' => e = .returned (.bool true) ∧ Below W.heap.size W w' := by
    by_cases hg : 100 < len1 ∨ 100 < len2 ∨ a0 < 0 ∨ 1000 < a0
    · exact hgone_great W a0 a1 len1 cap1 a2 len2 cap2 hg
    · obtain ⟨n, rfl⟩ := Int.eq_ofNat_of_zero_le (show 0 ≤ a0 by omega)
      exact hgone_any W n (by omega) l1 l2 a1 len1 cap1 a2 len2 cap2 (by omega) (by omega) hll1 hll2 hl1' hl2'
  refine key.mono fun e W' ⟨he, bel⟩ => ?_
  subst he
  exact ⟨_, rfl, _, _, _, [], _, [], hW', trodAll_mk1 (shut_bool Try.underlying4 _), (trodAll_cons_mk (shut_int Try.underlying3 w0) (trodAll_cons_mk (Below.trod laidOut (by kernel_rfl) (of_decide_eq_true (by kernel_rfl)) k1 bel lt1) (trodAll_cons_mk (Below.trod laidOut (by kernel_rfl) (of_decide_eq_true (by kernel_rfl)) k2 bel lt2) trodAll_mk0))), rfl, bel.frame _, fun h => by cases h⟩

theorem over : Rows.heapGoneRow.holds Try.pinned (OpenSpec.ofChange Rows.heapGoneSpec) :=
  OpenClaim.holds_of_wide 5 Try.f5 rfl rfl rfl rfl rfl rfl rfl ⟨rfl, rfl, rfl, rfl, rfl⟩ rfl rfl rfl rfl rfl (by kernel_rfl) Try.func5 (by kernel_rfl)
    (of_decide_eq_true (by kernel_rfl)) (by unfold Func.isWrapper; first | (rw [if_pos (by decide +kernel)]; kernel_rfl) | (rw [if_neg (by decide +kernel)]; exact ⟨rfl, rfl⟩))
    (fun os started H enc _ => lifted os started H enc)

end Go.Proofs.Ytjhdpajpibdnaae.heapGone
namespace Go.Proofs.Ytjhdpajpibdnaae
/-- THE STATEMENT. -/
theorem heapGone_holds : Rows.HeapGoneSaid :=
  heapGone.over
#print axioms heapGone_holds
end Go.Proofs.Ytjhdpajpibdnaae
