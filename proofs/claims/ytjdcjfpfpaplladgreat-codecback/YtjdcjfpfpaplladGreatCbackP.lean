/-
  Proved: called with any module and any bytes, CodecBack returns true, and both read behind the call as they read before: what was encoded is decoded as it was, and what is decoded is encoded as those very bytes.
  Conditions: none beyond the form's own (the data are finite).
-/
import Derived.Test.YtjdcjfpfpaplladGreatP5
namespace Go.Proofs.YtjdcjfpfpaplladGreat.codecBack
open Go.ChangeShapes Go.WideShapes Go.ChangeAt Go.RowKit
set_option linter.unusedVariables false

theorem agg_of {v : Value} {l : List Value} (hv : ∃ cs : Array Value, v = .agg cs ∧ True) (h : v.cells.toList = l) : v = .agg l.toArray := by
  obtain ⟨⟨cs⟩, rfl, _⟩ := hv
  simp only [Value.cells] at h
  rw [← h]

theorem reads_byte (n : Nat) : Reads Tryz.prog 5 byteL n :=
  ⟨by kernel_rfl, fun {H enc w base spare held fuel cs x} hf h' => by
    obtain ⟨k, e, _, wf⟩ := DataW.trod_int Tryz.underlying5 h'
    have hb := Go.bounds_u8 wf
    refine ⟨UInt8.ofNat k.toNat, ?_⟩
    show cs = [.int .u8 (((UInt8.ofNat k.toNat).toNat : Nat) : Int)]
    rw [e, show (UInt8.ofNat k.toNat).toNat = k.toNat % 256 from rfl, show ((k.toNat % 256 : Nat) : Int) = k by omega]⟩
theorem reads_bytes (n : Nat) : Reads Tryz.prog 25 bytesL (n + 1) := Reads.list Tryz.underlying25 (by kernel_rfl) (reads_byte n) (by decide)
set_option maxRecDepth 100000 in
theorem lifted (os : Os) (started : os.Started) (H : Type) (enc : TypeId × Value → H) :
    ReturnsInHanded {} Tryz.checked os 4 .any (Rows.codecBackSpec.pre6 enc Tryz.prog Tryz.f4 Rows.codecBackRow.domain false) (Rows.codecBackSpec.post enc Tryz.prog Tryz.f4 false true false false) := by
  refine returnsInHanded_of_change_sized (C := Tryz.checked) own started (by kernel_rfl) Tryz.func4
    (ChangeSpec.witness6 (enc := enc) (C := Tryz.checked) false ⟨#[], #[.agg #[.slice none 0 0], .slice none 0 0], []⟩ 8 (by kernel_rfl) (by kernel_rfl) (by kernel_rfl) (by kernel_rfl)) ?_
  intro W base args ds gs before hval0 hW hcnd hsz0 _
  have hval : ∀ (j : Nat) t v, Tryz.f4.params[j]? = some t → args[j]? = some v → Value.okWide Tryz.prog W .any base t v := hval0
  have hW' := hW
  obtain ⟨p, q, hA0, hV, rfl, hfz, hnd⟩ := hW
  have hA : DataW.TrodAll enc Tryz.prog W 0 (fun _ => true) true Tryz.f4.params.toList args.toList ds p := hA0
  have hsz : (DataW.weightsEach Tryz.prog (Tryz.f4.params.toList ++ Rows.codecBackSpec.plain.varTypes Tryz.prog) (ds ++ gs)).all (· ≤ reachBytes) = true := hsz0
  rw [Tryz.params4] at hA hval hsz
  obtain ⟨v0, vs0, d0, ds0, p0, q0, hargs, rfl, rfl, h0, r0⟩ := trodAll_cons hA
  obtain ⟨v1, vs1, d1, ds1, p1, q1, rfl, rfl, rfl, h1, r1⟩ := trodAll_cons r0
  obtain ⟨rfl, rfl, rfl⟩ := trodAll_nil r1
  obtain rfl : args = #[v0, v1] := by cases args; simp_all
  obtain ⟨rfl, rfl⟩ := trodVars_none hV
  obtain ⟨c0, e0, _⟩ := okWide_struct Tryz.underlying24 (hval 0 24 v0 rfl rfl)
  obtain ⟨a1, len1, cap1, rfl⟩ := okWide_slice Tryz.underlying25 (hval 1 25 v1 rfl rfl)
  have wt : ∀ (j : Nat) t (d : DataW H), ([24, 25] ++ Rows.codecBackSpec.plain.varTypes Tryz.prog)[j]? = some t → ([d0, d1] ++ [])[j]? = some d → Wt Tryz.prog t d := fun j t d ht hd k hk => by
    have := List.all_eq_true.1 hsz k (DataW.weights_mem_each ht hd k hk)
    simpa using this
  have k0 := h0
  have k1 := h1
  have lt0 : ∀ x ∈ p0, x.block < W.heap.size := by obtain ⟨m, hm⟩ := k0; exact DataW.trod_lt m _ _ _ hm
  have lt1 : ∀ x ∈ p1, x.block < W.heap.size := by obtain ⟨m, hm⟩ := k1; exact DataW.trod_lt m _ _ _ hm
  obtain ⟨f0, hf0⟩ := h0
  obtain ⟨f1, hf1⟩ := h1
  obtain ⟨m, hm, _⟩ := (readsMod (f0 + f1)).2 (by omega) hf0 (wt 0 _ _ rfl rfl)
  obtain ⟨b, hb⟩ := (reads_bytes (f0 + f1)).2 (by omega) hf1
  have hcap : len1 ≤ cap1 := by
    rcases DataW.trod_slice Tryz.underlying25 hf1 with ⟨e2, _⟩ | ⟨a, len, cap, elems, rest, q, _, e2, _, _, hl, _⟩
    · simp [Value.cells] at e2; omega
    · simp [Value.cells] at e2; omega
  obtain ⟨pm, cm, em, gm⟩ := list_form hm
  obtain ⟨pb, cb, eb, gb⟩ := list_form hb
  obtain rfl := agg_of ⟨c0, e0, trivial⟩ em
  have eb' : a1 = pb ∧ len1 = b.length ∧ cap1 = cb := by simpa [Value.cells] using eb
  obtain ⟨rfl, rfl, rfl⟩ := eb'
  clear hA0 hval0 e0
  have key : Calls Tryz.prog 4 #[.agg #[.slice pm m.length cm], .slice a1 b.length cap1] W fun e w' => e = .returned (.bool true) ∧ Below W.heap.size W w' := by
    by_cases fm : (modFault m).1 = 0
    · have h := back_walk (m := m.map (MFunc.at 5)) (by rw [List.length_map]; exact mod_at (flat_of fm) gm) gb hcap (.inl rfl)
      rw [List.length_map] at h
      exact h
    · exact back_walk gm gb hcap (.inr fm)
  refine key.mono fun e W' ⟨he, bel⟩ => ?_
  subst he
  exact ⟨_, rfl, _, _, _, [], _, [], hW', trodAll_mk1 (shut_bool Tryz.underlying4 _), (trodAll_cons_mk (Below.trod laidOut (by kernel_rfl) (of_decide_eq_true (by kernel_rfl)) k0 bel lt0) (trodAll_cons_mk (Below.trod laidOut (by kernel_rfl) (of_decide_eq_true (by kernel_rfl)) k1 bel lt1) trodAll_mk0)), rfl, bel.frame _, fun h => by cases h⟩

theorem over : Rows.codecBackRow.holds Tryz.pinned (OpenSpec.ofChange Rows.codecBackSpec) :=
  OpenClaim.holds_of_wide 4 Tryz.f4 rfl rfl rfl rfl rfl rfl rfl ⟨rfl, rfl, rfl, rfl, rfl⟩ rfl rfl rfl rfl rfl (by kernel_rfl) Tryz.func4 (by kernel_rfl)
    (of_decide_eq_true (by kernel_rfl)) (by unfold Func.isWrapper; first | (rw [if_pos (by decide +kernel)]; kernel_rfl) | (rw [if_neg (by decide +kernel)]; exact ⟨rfl, rfl⟩))
    (fun os started H enc _ => lifted os started H enc)

end Go.Proofs.YtjdcjfpfpaplladGreat.codecBack
namespace Go.Proofs.YtjdcjfpfpaplladGreat
/-- THE STATEMENT. -/
theorem codecBack_holds : Rows.CodecBackSaid :=
  codecBack.over
#print axioms codecBack_holds
end Go.Proofs.YtjdcjfpfpaplladGreat
