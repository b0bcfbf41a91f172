/-
  Proved: called with any module, any number and any byte, CodecTorn returns true, and the module reads behind the call as it read before: of what was encoded, one byte that is another one is told.
  Conditions: none beyond the form's own (the data are finite).
-/
import Derived.Test.YtjdcjfpfpaplladGreatP5
namespace Go.Proofs.YtjdcjfpfpaplladGreat.codecTorn
open Go.ChangeShapes Go.WideShapes Go.ChangeAt Go.RowKit
set_option linter.unusedVariables false

theorem agg_of {v : Value} {l : List Value} (hv : ∃ cs : Array Value, v = .agg cs ∧ True) (h : v.cells.toList = l) : v = .agg l.toArray := by
  obtain ⟨⟨cs⟩, rfl, _⟩ := hv
  simp only [Value.cells] at h
  rw [← h]

set_option maxRecDepth 100000 in
theorem lifted (os : Os) (started : os.Started) (H : Type) (enc : TypeId × Value → H) :
    ReturnsInHanded {} Tryz.checked os 5 .any (Rows.codecTornSpec.pre6 enc Tryz.prog Tryz.f5 Rows.codecTornRow.domain false) (Rows.codecTornSpec.post enc Tryz.prog Tryz.f5 false true false false) := by
  refine returnsInHanded_of_change_sized (C := Tryz.checked) own started (by kernel_rfl) Tryz.func5
    (ChangeSpec.witness6 (enc := enc) (C := Tryz.checked) false ⟨#[], #[.agg #[.slice none 0 0], .int .i64 0, .int .u8 0], []⟩ 8 (by kernel_rfl) (by kernel_rfl) (by kernel_rfl) (by kernel_rfl)) ?_
  intro W base args ds gs before hval0 hW hcnd hsz0 _
  have hval : ∀ (j : Nat) t v, Tryz.f5.params[j]? = some t → args[j]? = some v → Value.okWide Tryz.prog W .any base t v := hval0
  have hW' := hW
  obtain ⟨p, q, hA0, hV, rfl, hfz, hnd⟩ := hW
  have hA : DataW.TrodAll enc Tryz.prog W 0 (fun _ => true) true Tryz.f5.params.toList args.toList ds p := hA0
  have hsz : (DataW.weightsEach Tryz.prog (Tryz.f5.params.toList ++ Rows.codecTornSpec.plain.varTypes Tryz.prog) (ds ++ gs)).all (· ≤ reachBytes) = true := hsz0
  rw [Tryz.params5] at hA hval hsz
  obtain ⟨v0, vs0, d0, ds0, p0, q0, hargs, rfl, rfl, h0, r0⟩ := trodAll_cons hA
  obtain ⟨v1, vs1, d1, ds1, p1, q1, rfl, rfl, rfl, h1, r1⟩ := trodAll_cons r0
  obtain ⟨v2, vs2, d2, ds2, p2, q2, rfl, rfl, rfl, h2, r2⟩ := trodAll_cons r1
  obtain ⟨rfl, rfl, rfl⟩ := trodAll_nil r2
  obtain rfl : args = #[v0, v1, v2] := by cases args; simp_all
  obtain ⟨rfl, rfl⟩ := trodVars_none hV
  obtain ⟨c0, e0, _⟩ := okWide_struct Tryz.underlying24 (hval 0 24 v0 rfl rfl)
  obtain ⟨at_, rfl⟩ := okWide_int Tryz.underlying3 (hval 1 3 v1 rfl rfl)
  obtain ⟨by_, rfl⟩ := okWide_int Tryz.underlying5 (hval 2 5 v2 rfl rfl)
  have wt : ∀ (j : Nat) t (d : DataW H), ([24, 3, 5] ++ Rows.codecTornSpec.plain.varTypes Tryz.prog)[j]? = some t → ([d0, d1, d2] ++ [])[j]? = some d → Wt Tryz.prog t d := fun j t d ht hd k hk => by
    have := List.all_eq_true.1 hsz k (DataW.weights_mem_each ht hd k hk)
    simpa using this
  have k0 := h0
  have k1 := h1
  have k2 := h2
  have lt0 : ∀ x ∈ p0, x.block < W.heap.size := by obtain ⟨m, hm⟩ := k0; exact DataW.trod_lt m _ _ _ hm
  have lt1 : ∀ x ∈ p1, x.block < W.heap.size := by obtain ⟨m, hm⟩ := k1; exact DataW.trod_lt m _ _ _ hm
  have lt2 : ∀ x ∈ p2, x.block < W.heap.size := by obtain ⟨m, hm⟩ := k2; exact DataW.trod_lt m _ _ _ hm
  obtain ⟨f0, hf0⟩ := h0
  obtain ⟨f1, hf1⟩ := h1
  obtain ⟨f2, hf2⟩ := h2
  obtain ⟨m, hm, _⟩ := (readsMod f0).2 (by omega) hf0 (wt 0 _ _ rfl rfl)
  have ha : i64r at_ := by
    obtain ⟨k, e, _, wf⟩ := DataW.trod_int Tryz.underlying3 hf1
    have e' : at_ = k := by simpa [Value.cells] using e
    subst e'
    exact Go.bounds_i64 wf
  obtain ⟨y, hy⟩ : ∃ y : UInt8, by_ = (y.toNat : Int) := by
    obtain ⟨k, e, _, wf⟩ := DataW.trod_int Tryz.underlying5 hf2
    have e' : by_ = k := by simpa [Value.cells] using e
    subst e'
    have hb := Go.bounds_u8 wf
    refine ⟨UInt8.ofNat by_.toNat, ?_⟩
    rw [show (UInt8.ofNat by_.toNat).toNat = by_.toNat % 256 from rfl]
    omega
  subst hy
  obtain ⟨pm, cm, em, gm⟩ := list_form hm
  obtain rfl := agg_of ⟨c0, e0, trivial⟩ em
  clear hA0 hval0 e0
  have key : Calls Tryz.prog 5 #[.agg #[.slice pm m.length cm], .int .i64 at_, .int .u8 (y.toNat : Int)] W fun e w' => e = .returned (.bool true) ∧ Below W.heap.size W w' := by
    by_cases fm : (modFault m).1 = 0
    · have h := torn_walk (m := m.map (MFunc.at 5)) at_ ha y (by rw [List.length_map]; exact mod_at (flat_of fm) gm) (.inl rfl)
      rw [List.length_map] at h
      exact h
    · exact torn_walk at_ ha y gm (.inr fm)
  refine key.mono fun e W' ⟨he, bel⟩ => ?_
  subst he
  exact ⟨_, rfl, _, _, _, [], _, [], hW', trodAll_mk1 (shut_bool Tryz.underlying4 _), (trodAll_cons_mk (Below.trod laidOut (by kernel_rfl) (of_decide_eq_true (by kernel_rfl)) k0 bel lt0) (trodAll_cons_mk (Below.trod laidOut (by kernel_rfl) (of_decide_eq_true (by kernel_rfl)) k1 bel lt1) (trodAll_cons_mk (Below.trod laidOut (by kernel_rfl) (of_decide_eq_true (by kernel_rfl)) k2 bel lt2) trodAll_mk0))), rfl, bel.frame _, fun h => by cases h⟩

theorem over : Rows.codecTornRow.holds Tryz.pinned (OpenSpec.ofChange Rows.codecTornSpec) :=
  OpenClaim.holds_of_wide 5 Tryz.f5 rfl rfl rfl rfl rfl rfl rfl ⟨rfl, rfl, rfl, rfl, rfl⟩ rfl rfl rfl rfl rfl (by kernel_rfl) Tryz.func5 (by kernel_rfl)
    (of_decide_eq_true (by kernel_rfl)) (by unfold Func.isWrapper; first | (rw [if_pos (by decide +kernel)]; kernel_rfl) | (rw [if_neg (by decide +kernel)]; exact ⟨rfl, rfl⟩))
    (fun os started H enc _ => lifted os started H enc)

end Go.Proofs.YtjdcjfpfpaplladGreat.codecTorn
namespace Go.Proofs.YtjdcjfpfpaplladGreat
/-- THE STATEMENT. -/
theorem codecTorn_holds : Rows.CodecTornSaid :=
  codecTorn.over
#print axioms codecTorn_holds
end Go.Proofs.YtjdcjfpfpaplladGreat
