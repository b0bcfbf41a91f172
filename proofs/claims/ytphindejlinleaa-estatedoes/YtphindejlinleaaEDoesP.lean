/-
  Proved: called with any number of pages and any list of steps, EstateDoes returns true, and the steps read behind the call as they read before: every New, Open, Shut, Has, Get, Pages, Count, Free, and all words, are as the document says.
  Conditions: none beyond the form's own.
-/
import Derived.Test.YtphindejlinleaaEDoesW
namespace Go.Proofs.Ytphindejlinleaa.estateDoes
open Go.ChangeShapes Go.WideShapes Go.ChangeAt Go.RowKit
set_option linter.unusedVariables false

theorem own : ownKnob Try.prog.godebug = none := by kernel_rfl
theorem laidOut : laidOutB Try.prog = true := by kernel_rfl
theorem under_steps : Try.prog.underlying 50 = some (.slice 57) := by kernel_rfl
theorem fieldsOf : ∃ fs, Try.prog.underlying 57 = some (.struct fs) ∧ Try.prog.cellsOf 57 = fs.size ∧ fs.size = 3 ∧ ∀ (j : Nat) (f : Field), fs[j]? = some f → f.offset = j ∧ Try.prog.cellsOf f.type = 1 ∧ Try.prog.underlying f.type = some (.int .i64) := by
  refine ⟨_, Try.underlying57, by kernel_rfl, rfl, fun j f h => ?_⟩
  match j, h with
  | 0, h => simp at h; subst h; exact ⟨rfl, by kernel_rfl, by kernel_rfl⟩
  | 1, h => simp at h; subst h; exact ⟨rfl, by kernel_rfl, by kernel_rfl⟩
  | 2, h => simp at h; subst h; exact ⟨rfl, by kernel_rfl, by kernel_rfl⟩
  | j + 3, h => simp at h

theorem walk (pages : Int) (a : Option Addr) (len cap : Nat) (F : Nat → Nat → Int) (w : World) (h : Lies w a len 3 F) :
    Calls Try.prog 7 #[.int .i64 pages, .slice a len cap] w fun e w' => e = .returned (.bool true) ∧ Below w.heap.size w w' := by
  by_cases hg : 300 < (len : Int)
  · exact edoes_great w pages a len cap hg
  · by_cases hp : pages < 0 ∨ 64 < pages
    · exact edoes_no w pages a len cap hg hp
    · obtain ⟨n, rfl⟩ := Int.eq_ofNat_of_zero_le (show 0 ≤ pages by omega)
      exact edoes_yes w n (by omega) a len cap hg F h

set_option maxRecDepth 100000 in
theorem lifted (os : Os) (started : os.Started) (H : Type) (enc : TypeId × Value → H) :
    ReturnsInHanded {} Try.checked os 7 .any (Rows.estateDoesSpec.pre6 enc Try.prog Try.f7 Rows.estateDoesRow.domain false) (Rows.estateDoesSpec.post enc Try.prog Try.f7 false true false false) := by
  refine returnsInHanded_of_change (C := Try.checked) own started (by kernel_rfl) Try.func7
    (ChangeSpec.witness6 (enc := enc) (C := Try.checked) false ⟨#[], #[.int .i64 0, .slice none 0 0], []⟩ 8 (by kernel_rfl) (by kernel_rfl) (by kernel_rfl) (by kernel_rfl)) ?_
  intro W base args ds gs before hval0 hW hcnd _
  have hval : ∀ (j : Nat) t v, Try.f7.params[j]? = some t → args[j]? = some v → Value.okWide Try.prog W .any base t v := hval0
  have hW' := hW
  obtain ⟨p, q, hA0, hV, rfl, hfz, hnd⟩ := hW
  have hA : DataW.TrodAll enc Try.prog W 0 (fun _ => true) true Try.f7.params.toList args.toList ds p := hA0
  rw [Try.params7] at hA hval
  obtain ⟨v0, vs0, d0, ds0, p0, q0, hargs, rfl, rfl, h0, r0⟩ := trodAll_cons hA
  obtain ⟨v1, vs1, d1, ds1, p1, q1, rfl, rfl, rfl, h1, r1⟩ := trodAll_cons r0
  obtain ⟨rfl, rfl, rfl⟩ := trodAll_nil r1
  obtain rfl : args = #[v0, v1] := by cases args; simp_all
  obtain ⟨rfl, rfl⟩ := trodVars_none hV
  obtain ⟨a0, rfl, rfl, rfl, w0⟩ := open_int Try.underlying3 (hval 0 3 v0 rfl rfl) h0
  obtain ⟨a1, len1, cap1, rfl⟩ := okWide_slice under_steps (hval 1 50 v1 rfl rfl)
  have k1 := h1
  have lt1 : ∀ x ∈ p1, x.block < W.heap.size := by obtain ⟨m, hm⟩ := k1; exact DataW.trod_lt m _ _ _ hm
  obtain ⟨F, hF⟩ : ∃ F, Lies W a1 len1 3 F := by
    obtain ⟨fuel, hf⟩ := h1
    obtain ⟨fs, e1, e2, e3, e4⟩ := fieldsOf
    have := lies_of under_steps e1 e2 (by omega) e4 (by simpa [Value.cells] using hf)
    rw [e3] at this
    exact this
  clear hA0 hval0
  refine (walk a0 a1 len1 cap1 F W hF).mono fun e W' ⟨he, bel⟩ => ?_
  subst he
  exact ⟨_, rfl, _, _, _, [], _, [], hW', trodAll_mk1 (shut_bool Try.underlying4 _), (trodAll_cons_mk (shut_int Try.underlying3 w0) (trodAll_cons_mk (Below.trod laidOut (by kernel_rfl) (of_decide_eq_true (by kernel_rfl)) k1 bel lt1) trodAll_mk0)), rfl, bel.frame _, fun h => by cases h⟩

theorem over : Rows.estateDoesRow.holds Try.pinned (OpenSpec.ofChange Rows.estateDoesSpec) :=
  OpenClaim.holds_of_wide 7 Try.f7 rfl rfl rfl rfl rfl rfl rfl ⟨rfl, rfl, rfl, rfl, rfl⟩ rfl rfl rfl rfl rfl (by kernel_rfl) Try.func7 (by kernel_rfl)
    (of_decide_eq_true (by kernel_rfl)) (by unfold Func.isWrapper; first | (rw [if_pos (by decide +kernel)]; kernel_rfl) | (rw [if_neg (by decide +kernel)]; exact ⟨rfl, rfl⟩))
    (fun os started H enc _ => lifted os started H enc)

end Go.Proofs.Ytphindejlinleaa.estateDoes
namespace Go.Proofs.Ytphindejlinleaa
/-- THE STATEMENT. -/
theorem estateDoes_holds : Rows.EstateDoesSaid :=
  estateDoes.over
#print axioms estateDoes_holds
end Go.Proofs.Ytphindejlinleaa
