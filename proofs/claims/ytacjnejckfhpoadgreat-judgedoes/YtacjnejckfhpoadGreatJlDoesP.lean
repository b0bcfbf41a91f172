/-
  Proved: called with any module, any two numbers, any instructions and any end, JudgeDoes returns true, and all of them read behind the call as they read before: every New, Ins, End, Types, List, Len and Has of package judge is as the document says.
  Conditions: none beyond the form's own (the data are finite).
-/
import Derived.Test.YtacjnejckfhpoadGreatP6
namespace Go.Proofs.YtacjnejckfhpoadGreat.judgeDoes
open Go.ChangeShapes Go.WideShapes Go.ChangeAt Go.RowKit
set_option linter.unusedVariables false

theorem agg_of {v : Value} {l : List Value} (hv : ∃ cs : Array Value, v = .agg cs ∧ True) (h : v.cells.toList = l) : v = .agg l.toArray := by
  obtain ⟨⟨cs⟩, rfl, _⟩ := hv
  simp only [Value.cells] at h
  rw [← h]
set_option maxRecDepth 100000 in
theorem lifted (os : Os) (started : os.Started) (H : Type) (enc : TypeId × Value → H) :
    ReturnsInHanded {} Tryz.checked os 6 .any (Rows.judgeDoesSpec.pre6 enc Tryz.prog Tryz.f6 Rows.judgeDoesRow.domain false) (Rows.judgeDoesSpec.post enc Tryz.prog Tryz.f6 false true false false) := by
  refine returnsInHanded_of_change_sized (C := Tryz.checked) own started (by kernel_rfl) Tryz.func6
    (ChangeSpec.witness6 (enc := enc) (C := Tryz.checked) false ⟨#[], #[.agg #[.slice none 0 0], .int .i64 0, .int .i64 0, .slice none 0 0, .agg #[.int .i64 0, .int .i64 0, .int .i64 0, .slice none 0 0, .slice none 0 0, .int .i64 0, .slice none 0 0, .slice none 0 0, .slice none 0 0]], []⟩ 8 (by kernel_rfl) (by kernel_rfl) (by kernel_rfl) (by kernel_rfl)) ?_
  intro W base args ds gs before hval0 hW hcnd hsz0 _
  have hval : ∀ (j : Nat) t v, Tryz.f6.params[j]? = some t → args[j]? = some v → Value.okWide Tryz.prog W .any base t v := hval0
  have hW' := hW
  obtain ⟨p, q, hA0, hV, rfl, hfz, hnd⟩ := hW
  have hA : DataW.TrodAll enc Tryz.prog W 0 (fun _ => true) true Tryz.f6.params.toList args.toList ds p := hA0
  have hsz : (DataW.weightsEach Tryz.prog (Tryz.f6.params.toList ++ Rows.judgeDoesSpec.plain.varTypes Tryz.prog) (ds ++ gs)).all (· ≤ reachBytes) = true := hsz0
  rw [Tryz.params6] at hA hval hsz
  obtain ⟨v0, vs0, d0, ds0, p0, q0, hargs, rfl, rfl, h0, r0⟩ := trodAll_cons hA
  obtain ⟨v1, vs1, d1, ds1, p1, q1, rfl, rfl, rfl, h1, r1⟩ := trodAll_cons r0
  obtain ⟨v2, vs2, d2, ds2, p2, q2, rfl, rfl, rfl, h2, r2⟩ := trodAll_cons r1
  obtain ⟨v3, vs3, d3, ds3, p3, q3, rfl, rfl, rfl, h3, r3⟩ := trodAll_cons r2
  obtain ⟨v4, vs4, d4, ds4, p4, q4, rfl, rfl, rfl, h4, r4⟩ := trodAll_cons r3
  obtain ⟨rfl, rfl, rfl⟩ := trodAll_nil r4
  obtain rfl : args = #[v0, v1, v2, v3, v4] := by cases args; simp_all
  obtain ⟨rfl, rfl⟩ := trodVars_none hV
  obtain ⟨c0, e0, _⟩ := okWide_struct Tryz.underlying24 (hval 0 24 v0 rfl rfl)
  obtain ⟨a1, rfl, rfl, rfl, w1⟩ := open_int Tryz.underlying3 (hval 1 3 v1 rfl rfl) h1
  obtain ⟨a2, rfl, rfl, rfl, w2⟩ := open_int Tryz.underlying3 (hval 2 3 v2 rfl rfl) h2
  obtain ⟨a3, len3, cap3, rfl⟩ := okWide_slice Tryz.underlying42 (hval 3 42 v3 rfl rfl)
  obtain ⟨c4, e4, _⟩ := okWide_struct Tryz.underlying47 (hval 4 47 v4 rfl rfl)
  have wt : ∀ (j : Nat) t (d : DataW H), ([24, 3, 3, 42, 47] ++ Rows.judgeDoesSpec.plain.varTypes Tryz.prog)[j]? = some t → ((_ : List (DataW H)) ++ [])[j]? = some d → Wt Tryz.prog t d := fun j t d ht hd k hk => by
    have := List.all_eq_true.1 hsz k (DataW.weights_mem_each ht hd k hk)
    simpa using this
  have k0 := h0
  have k3 := h3
  have lt0 : ∀ x ∈ p0, x.block < W.heap.size := by obtain ⟨m, hm⟩ := k0; exact DataW.trod_lt m _ _ _ hm
  have lt3 : ∀ x ∈ p3, x.block < W.heap.size := by obtain ⟨m, hm⟩ := k3; exact DataW.trod_lt m _ _ _ hm
  have k4 := h4
  have lt4 : ∀ x ∈ p4, x.block < W.heap.size := by obtain ⟨m, hm⟩ := k4; exact DataW.trod_lt m _ _ _ hm
  obtain ⟨f0, hf0⟩ := h0
  obtain ⟨f3, hf3⟩ := h3
  obtain ⟨f4, hf4⟩ := h4
  obtain ⟨m, hm, _⟩ := (Qip (f0 + f3 + f4)).2 (by omega) hf0 (wt 0 _ _ rfl rfl)
  obtain ⟨l, hl, hll⟩ := (Qg3 (f0 + f3 + f4)).2 (by omega) hf3 (wt 3 _ _ rfl rfl)
  obtain ⟨x, hx, hxs⟩ := (QeO (f0 + f3 + f4)).2 (by omega) hf4 (wt 4 _ _ rfl rfl)
  have hm := (QjW _).2 hm
  obtain ⟨pm, cm, em, gm⟩ := Zs hm
  obtain ⟨pl, cl, el, gl⟩ := Zs hl
  obtain rfl := agg_of ⟨c0, e0, trivial⟩ em
  have el' : a3 = pl ∧ len3 = l.length ∧ cap3 = cl := by simpa [Value.cells] using el
  obtain ⟨rfl, rfl, rfl⟩ := el'
  obtain ⟨ee, ex, hxi, hra, hcp⟩ := Qkh hx
  obtain rfl := agg_of ⟨c4, e4, trivial⟩ ex
  clear hA0 hval0 e0
  have key : Calls Tryz.prog 6 #[.agg #[.slice pm m.length cm], .int .i64 a1, .int .i64 a2, .slice a3 l.length cap3, .agg (ZT x ee)] W fun e w' => e = .returned (.bool true) ∧ Below W.heap.size W w' := by
    have hsz9 : x.many < 9223372036854775807 := by obtain ⟨⟨q1, q2⟩, ⟨q3, q4⟩, q5⟩ := hxs; unfold MEnd.many; omega
    by_cases hno : QW m ∨ 150 < (l.length : Int) ∨ 1000 < (x.many : Int) ∨ (modFault m).1 ≠ 0
    · exact Qf1 a1 a2 gm hsz9 hno
    · have fm : (modFault m).1 = 0 := Classical.byContradiction fun h => hno (.inr (.inr (.inr h)))
      have gm6 : (Qaq 6).In W All (m.map (Qg.at 5)) [.slice pm (m.map (Qg.at 5)).length cm] := by rw [List.length_map]; exact Qkt (Qkj fm) gm
      have hng6 : ¬ QW (m.map (Qg.at 5)) := Qjj (fun h => hno (.inl h))
      have e6 : m.length = (m.map (Qg.at 5)).length := (List.length_map _).symm
      rw [e6]
      by_cases fm6 : (modFault (m.map (Qg.at 5))).1 = 0
      · cases hhb : QeM (m.map (Qg.at 5)) a1 a2 with
        | true => exact QhS a1 a2 rfl (fun h => hno (.inr (.inl h))) (fun h => hno (.inr (.inr (.inl h)))) hng6 fm6 hhb gm6 gl hxi hra hcp hll.2
        | false => exact Qis a1 a2 rfl (fun h => hno (.inr (.inl h))) (fun h => hno (.inr (.inr (.inl h)))) hng6 fm6 hhb gm6 gl hxi hra hcp hll.2
      · exact Qf1 a1 a2 gm6 hsz9 (.inr (.inr (.inr fm6)))
  refine key.mono fun e W' ⟨he, bel⟩ => ?_
  subst he
  exact ⟨_, rfl, _, _, _, [], _, [], hW', trodAll_mk1 (shut_bool Tryz.underlying4 _), (trodAll_cons_mk (Below.trod laidOut (by kernel_rfl) (of_decide_eq_true (by kernel_rfl)) k0 bel lt0) (trodAll_cons_mk (shut_int Tryz.underlying3 w1) (trodAll_cons_mk (shut_int Tryz.underlying3 w2) (trodAll_cons_mk (Below.trod laidOut (by kernel_rfl) (of_decide_eq_true (by kernel_rfl)) k3 bel lt3) (trodAll_cons_mk (Below.trod laidOut (by kernel_rfl) (of_decide_eq_true (by kernel_rfl)) k4 bel lt4) trodAll_mk0))))), rfl, bel.frame _, fun h => by cases h⟩

theorem over : Rows.judgeDoesRow.holds Tryz.pinned (OpenSpec.ofChange Rows.judgeDoesSpec) :=
  OpenClaim.holds_of_wide 6 Tryz.f6 rfl rfl rfl rfl rfl rfl rfl ⟨rfl, rfl, rfl, rfl, rfl⟩ rfl rfl rfl rfl rfl (by kernel_rfl) Tryz.func6 (by kernel_rfl)
    (of_decide_eq_true (by kernel_rfl)) (by unfold Func.isWrapper; first | (rw [if_pos (by decide +kernel)]; kernel_rfl) | (rw [if_neg (by decide +kernel)]; exact ⟨rfl, rfl⟩))
    (fun os started H enc _ => lifted os started H enc)

end Go.Proofs.YtacjnejckfhpoadGreat.judgeDoes
namespace Go.Proofs.YtacjnejckfhpoadGreat
/-- THE STATEMENT. -/
theorem judgeDoes_holds : Rows.JudgeDoesSaid :=
  judgeDoes.over
#print axioms judgeDoes_holds
end Go.Proofs.YtacjnejckfhpoadGreat
