/-
  Proved: called with any two modules, any list of numbers and any two numbers, RawAgain returns true, and all of them read behind the call as they read before: a run of package raw, run again and beside another one that goes on, comes to the same.
  Conditions: none beyond the form's own (the data are finite).
-/
import Derived.Test.YtjhdpajpibdnaafGreatP6
namespace Go.Proofs.YtjhdpajpibdnaafGreat.rawAgain
open Go.ChangeShapes Go.WideShapes Go.ChangeAt Go.RowKit
set_option linter.unusedVariables false

theorem agg_of {v : Value} {l : List Value} (hv : ∃ cs : Array Value, v = .agg cs ∧ True) (h : v.cells.toList = l) : v = .agg l.toArray := by
  obtain ⟨⟨cs⟩, rfl, _⟩ := hv
  simp only [Value.cells] at h
  rw [← h]
theorem reads_int (n : Nat) : Qy Tryz.prog 2 Lay.int n (fun _ => True) := Qy.int n Tryz.underlying2 (by kernel_rfl)
theorem reads_ints (n : Nat) : Qy Tryz.prog 25 Lay.int.list n (fun l => l.length < 1152921504606846976) := Qy.list Tryz.underlying25 (by kernel_rfl) (reads_int n) (by decide) (by rw [show Tryz.prog.bytesOf 2 = 8 from by kernel_rfl]; decide)
set_option maxRecDepth 100000 in
theorem lifted (os : Os) (started : os.Started) (H : Type) (enc : TypeId × Value → H) :
    ReturnsInHanded {} Tryz.checked os 8 .any (Rows.rawAgainSpec.pre6 enc Tryz.prog Tryz.f8 Rows.rawAgainRow.domain false) (Rows.rawAgainSpec.post enc Tryz.prog Tryz.f8 false true false false) := by
  refine returnsInHanded_of_change_sized (C := Tryz.checked) own started (by kernel_rfl) Tryz.func8
    (ChangeSpec.witness6 (enc := enc) (C := Tryz.checked) false ⟨#[], #[.agg #[Nv], .agg #[Nv], Nv, Iv 0, Iv 0], []⟩ 8 (by kernel_rfl) (by kernel_rfl) (by kernel_rfl) (by kernel_rfl)) ?_
  intro W base args ds gs before hval0 hW hcnd hsz0 _
  have hval : ∀ (j : Nat) t v, Tryz.f8.params[j]? = some t → args[j]? = some v → Value.okWide Tryz.prog W .any base t v := hval0
  have hW' := hW
  obtain ⟨p, q, hA0, hV, rfl, hfz, hnd⟩ := hW
  have hA : DataW.TrodAll enc Tryz.prog W 0 (fun _ => true) true Tryz.f8.params.toList args.toList ds p := hA0
  have hsz : (DataW.weightsEach Tryz.prog (Tryz.f8.params.toList ++ Rows.rawAgainSpec.plain.varTypes Tryz.prog) (ds ++ gs)).all (· ≤ reachBytes) = true := hsz0
  rw [Tryz.params8] at hA hval hsz
  obtain ⟨v0, vs0, d0, ds0, p0, q0, hargs, rfl, rfl, h0, r0⟩ := trodAll_cons hA
  obtain ⟨v1, vs1, d1, ds1, p1, q1, rfl, rfl, rfl, h1, r1⟩ := trodAll_cons r0
  obtain ⟨v2, vs2, d2, ds2, p2, q2, rfl, rfl, rfl, h2, r2⟩ := trodAll_cons r1
  obtain ⟨v3, vs3, d3, ds3, p3, q3, rfl, rfl, rfl, h3, r3⟩ := trodAll_cons r2
  obtain ⟨v4, vs4, d4, ds4, p4, q4, rfl, rfl, rfl, h4, r4⟩ := trodAll_cons r3
  obtain ⟨rfl, rfl, rfl⟩ := trodAll_nil r4
  obtain rfl : args = #[v0, v1, v2, v3, v4] := by cases args; simp_all
  obtain ⟨rfl, rfl⟩ := trodVars_none hV
  obtain ⟨c0, e0, _⟩ := okWide_struct Tryz.underlying24 (hval 0 24 v0 rfl rfl)
  obtain ⟨c1, e1, _⟩ := okWide_struct Tryz.underlying24 (hval 1 24 v1 rfl rfl)
  obtain ⟨a2, len2, cap2, rfl⟩ := okWide_slice Tryz.underlying25 (hval 2 25 v2 rfl rfl)
  obtain ⟨a3, rfl, rfl, rfl, w3⟩ := open_int Tryz.underlying3 (hval 3 3 v3 rfl rfl) h3
  obtain ⟨a4, rfl, rfl, rfl, w4⟩ := open_int Tryz.underlying3 (hval 4 3 v4 rfl rfl) h4
  have wt : ∀ (j : Nat) t (d : DataW H), ([24, 24, 25, 3, 3] ++ Rows.rawAgainSpec.plain.varTypes Tryz.prog)[j]? = some t → ((_ : List (DataW H)) ++ [])[j]? = some d → Wt Tryz.prog t d := fun j t d ht hd k hk => by
    have := List.all_eq_true.1 hsz k (DataW.weights_mem_each ht hd k hk)
    simpa using this
  have k0 := h0
  have k1 := h1
  have k2 := h2
  have lt0 : ∀ x ∈ p0, x.block < W.heap.size := by obtain ⟨m, hm⟩ := k0; exact DataW.trod_lt m _ _ _ hm
  have lt1 : ∀ x ∈ p1, x.block < W.heap.size := by obtain ⟨m, hm⟩ := k1; exact DataW.trod_lt m _ _ _ hm
  have lt2 : ∀ x ∈ p2, x.block < W.heap.size := by obtain ⟨m, hm⟩ := k2; exact DataW.trod_lt m _ _ _ hm
  obtain ⟨f0, hf0⟩ := h0
  obtain ⟨f1, hf1⟩ := h1
  obtain ⟨f2, hf2⟩ := h2
  obtain ⟨m, hm, _⟩ := (Qfb f0).2 (Nat.le_refl _) hf0 (wt 0 _ _ rfl rfl)
  obtain ⟨k, hk, _⟩ := (Qfb f1).2 (Nat.le_refl _) hf1 (wt 1 _ _ rfl rfl)
  obtain ⟨l, hl, hlb⟩ := (reads_ints f2).2 (Nat.le_refl _) hf2 (wt 2 _ _ rfl rfl)
  have hl' : Lay.int.list.In W (fun _ => True) l [.slice a2 len2 cap2] := by simpa [Value.cells] using hl
  have hll : len2 = l.length := Lay.list_len hl'
  subst hll
  obtain ⟨pm, cm, em, gm⟩ := QK hm
  obtain ⟨pk, ck, ek, gk⟩ := QK hk
  obtain rfl := agg_of ⟨c0, e0, trivial⟩ em
  obtain rfl := agg_of ⟨c1, e1, trivial⟩ ek
  clear hA0 hval0 e0 e1
  have key : Calls Tryz.prog 8 #[.agg #[.slice pm m.length cm], .agg #[.slice pk k.length ck], .slice a2 l.length cap2, Iv a3, Iv a4] W fun e w' => e = .returned (.bool true) ∧ Below W.heap.size W w' := QgT gm gk hl' hlb
  refine key.mono fun e W' ⟨he, bel⟩ => ?_
  subst he
  exact ⟨_, rfl, _, _, _, [], _, [], hW', trodAll_mk1 (shut_bool Tryz.underlying4 _), (trodAll_cons_mk (Below.trod laidOut (by kernel_rfl) (of_decide_eq_true (by kernel_rfl)) k0 bel lt0) (trodAll_cons_mk (Below.trod laidOut (by kernel_rfl) (of_decide_eq_true (by kernel_rfl)) k1 bel lt1) (trodAll_cons_mk (Below.trod laidOut (by kernel_rfl) (of_decide_eq_true (by kernel_rfl)) k2 bel lt2) (trodAll_cons_mk (shut_int Tryz.underlying3 w3) (trodAll_cons_mk (shut_int Tryz.underlying3 w4) trodAll_mk0))))), rfl, bel.frame _, fun h => by cases h⟩

theorem over : Rows.rawAgainRow.holds Tryz.pinned (OpenSpec.ofChange Rows.rawAgainSpec) :=
  OpenClaim.holds_of_wide 8 Tryz.f8 rfl rfl rfl rfl rfl rfl rfl ⟨rfl, rfl, rfl, rfl, rfl⟩ rfl rfl rfl rfl rfl (by kernel_rfl) Tryz.func8 (by kernel_rfl)
    (of_decide_eq_true (by kernel_rfl)) (by unfold Func.isWrapper; first | (rw [if_pos (by decide +kernel)]; kernel_rfl) | (rw [if_neg (by decide +kernel)]; exact ⟨rfl, rfl⟩))
    (fun os started H enc _ => lifted os started H enc)

end Go.Proofs.YtjhdpajpibdnaafGreat.rawAgain
namespace Go.Proofs.YtjhdpajpibdnaafGreat
/-- THE STATEMENT. -/
theorem rawAgain_holds : Rows.RawAgainSaid :=
  rawAgain.over
#print axioms rawAgain_holds
end Go.Proofs.YtjhdpajpibdnaafGreat
