/-
  Proved: called with any int64 a and b, ArithParts returns true: of KLess both ways and KEq just one answers 1; by a b that is 0 there is no quotient and no rest; by another one the quotient times b and the rest come to a (wrapping round at 64 bits), and the rest is 0 or has the sign of a.
  Conditions: none beyond the form's own.
-/
import Derived.Test.YtlakajiklgdjkaaOps
import Derived.WalkKit
import Derived.ProofKit
import Derived.OpenShut
namespace Go.Proofs.Ytlakajiklgdjkaa.arithParts
open Go.ChangeShapes Go.WideShapes Go.ChangeAt Go.RowKit
set_option linter.unusedVariables false      -- a walk need not use every 'w<i>' (that an integer argument fits its kind)

theorem own : ownKnob Try.prog.godebug = none := by kernel_rfl

theorem wrap_range (n : Int) : -9223372036854775808 ≤ wrap64 n ∧ wrap64 n ≤ 9223372036854775807 := by unfold wrap64; omega
theorem wrap_cong (n : Int) : ∃ k : Int, wrap64 n = n + 18446744073709551616 * k := by
  refine ⟨-((n + 9223372036854775808) / 18446744073709551616), ?_⟩
  unfold wrap64; omega
theorem wrap_eq {x y k : Int} (h : x = y + 18446744073709551616 * k) (hy : -9223372036854775808 ≤ y ∧ y ≤ 9223372036854775807) : wrap64 x = y := by
  unfold wrap64; omega
theorem back (a b : Int) (ha : -9223372036854775808 ≤ a ∧ a ≤ 9223372036854775807) : wrap64 (wrap64 (wrap64 (a.tdiv b) * b) + a.tmod b) = a := by
  obtain ⟨k, hk⟩ := wrap_cong (a.tdiv b)
  obtain ⟨m, hm⟩ := wrap_cong (wrap64 (a.tdiv b) * b)
  have e := Int.tdiv_mul_add_tmod a b
  refine wrap_eq (k := k * b + m) ?_ ha
  rw [hm, hk]
  rw [Int.add_mul, Int.mul_add, Int.mul_assoc 18446744073709551616 k b]
  omega
theorem mod_range (a b : Int) (ha : -9223372036854775808 ≤ a ∧ a ≤ 9223372036854775807) : -9223372036854775808 ≤ a.tmod b ∧ a.tmod b ≤ 9223372036854775807 := by
  by_cases h : 0 ≤ a
  · have h1 := Int.tmod_nonneg b h
    have h2 : a.tmod b ≤ a := by
      obtain ⟨n, rfl⟩ := Int.eq_ofNat_of_zero_le h
      have := Int.natAbs_tmod (n : Int) b
      have h3 : (n : Nat) % b.natAbs ≤ n := Nat.mod_le _ _
      rw [Int.natAbs_natCast] at this; omega
    omega
  · have h1 := Int.tmod_nonneg b (a := -a) (by omega)
    have h2 : (-a).tmod b ≤ -a := by
      obtain ⟨n, hn⟩ := Int.eq_ofNat_of_zero_le (a := -a) (by omega)
      rw [hn]
      have := Int.natAbs_tmod (n : Int) b
      have h3 : (n : Nat) % b.natAbs ≤ n := Nat.mod_le _ _
      have h4 := Int.tmod_nonneg b (a := (n : Int)) (by omega)
      rw [Int.natAbs_natCast] at this; omega
    rw [Int.neg_tmod] at h1 h2
    omega
theorem mod_sign (a b : Int) : a.tmod b = 0 ∨ (decide (a.tmod b < 0) == decide (a < 0)) = true := by
  by_cases h : 0 ≤ a
  · have h1 := Int.tmod_nonneg b h
    right
    rw [decide_eq_false (by omega), decide_eq_false (by omega)]; rfl
  · have h1 := Int.tmod_nonneg b (a := -a) (by omega)
    rw [Int.neg_tmod] at h1
    by_cases h0 : a.tmod b = 0
    · exact Or.inl h0
    · right
      rw [decide_eq_true (show a.tmod b < 0 by omega), decide_eq_true (show a < 0 by omega)]; rfl
theorem less_back (s p r : Int) (hr : -9223372036854775808 ≤ r ∧ r ≤ 9223372036854775807) (h : wrap64 (p + r) = s) : wrap64 (s - p) = r := by
  obtain ⟨k, hk⟩ := wrap_cong (p + r)
  refine wrap_eq (k := k) ?_ hr
  omega

/-- The law's own road, over whatever its calls answer. -/
theorem road (a b l m e q r p s d : Int) (w : World)
    (hl : l = 1 ∧ m = 0 ∧ e = 0 ∨ l = 0 ∧ m = 1 ∧ e = 0 ∨ l = 0 ∧ m = 0 ∧ e = 1)
    (hb : (b == 0) = false) (hs : (s == a) = true) (hd : (d == r) = true) (hr : r = 0 ∨ (decide (r < 0) == decide (a < 0)) = true)
    (c1 : Hid (∀ w, Calls Try.prog 6 #[.int .i64 6, .int .i64 a, .int .i64 b] w fun e w' => e = .returned (.tuple #[.int .i64 l, .bool true]) ∧ w' = w))
    (c2 : Hid (∀ w, Calls Try.prog 6 #[.int .i64 6, .int .i64 b, .int .i64 a] w fun e w' => e = .returned (.tuple #[.int .i64 m, .bool true]) ∧ w' = w))
    (c3 : Hid (∀ w, Calls Try.prog 6 #[.int .i64 7, .int .i64 a, .int .i64 b] w fun x w' => x = .returned (.tuple #[.int .i64 e, .bool true]) ∧ w' = w))
    (c4 : Hid (∀ w, Calls Try.prog 6 #[.int .i64 4, .int .i64 a, .int .i64 b] w fun e w' => e = .returned (.tuple #[.int .i64 q, .bool true]) ∧ w' = w))
    (c5 : Hid (∀ w, Calls Try.prog 6 #[.int .i64 5, .int .i64 a, .int .i64 b] w fun e w' => e = .returned (.tuple #[.int .i64 r, .bool true]) ∧ w' = w))
    (c6 : Hid (∀ w, Calls Try.prog 6 #[.int .i64 3, .int .i64 q, .int .i64 b] w fun e w' => e = .returned (.tuple #[.int .i64 p, .bool true]) ∧ w' = w))
    (c7 : Hid (∀ w, Calls Try.prog 6 #[.int .i64 1, .int .i64 p, .int .i64 r] w fun e w' => e = .returned (.tuple #[.int .i64 s, .bool true]) ∧ w' = w))
    (c8 : Hid (∀ w, Calls Try.prog 6 #[.int .i64 2, .int .i64 s, .int .i64 p] w fun e w' => e = .returned (.tuple #[.int .i64 d, .bool true]) ∧ w' = w)) :
    Calls Try.prog 4 #[.int .i64 a, .int .i64 b] w fun e w' => e = .returned (.bool true) ∧ Grown w w' := by
  rcases hl with ⟨rfl, rfl, rfl⟩ | ⟨rfl, rfl, rfl⟩ | ⟨rfl, rfl, rfl⟩
  all_goals
    have hq : (r == 0) = true ∨ (r == 0) = false ∧ (decide (r < 0) == decide (a < 0)) = true := by
      cases h0 : (r == 0)
      · rcases hr with h | h
        · subst h; simp at h0
        · exact Or.inr ⟨rfl, h⟩
      · exact Or.inl rfl
    clear hr
    rcases hq with hq | ⟨hq, hq2⟩
  all_goals
    go_enter Try.func4, Try.ntmps4
    go_wp2_with fail
    refine (ops.begun _).mono ?_
    rintro e w' ⟨rfl, rfl⟩
    go_wp2_with fail
    refine (c1.out _).mono ?_
    rintro e w' ⟨rfl, rfl⟩
    go_wp2_with fail
    refine (c2.out _).mono ?_
    rintro e w' ⟨rfl, rfl⟩
    go_wp2_with fail
    refine (c3.out _).mono ?_
    rintro e w' ⟨rfl, rfl⟩
    go_wp2_with fail
    refine (c4.out _).mono ?_
    rintro e w' ⟨rfl, rfl⟩
    go_wp2_with fail
    refine (c5.out _).mono ?_
    rintro e w' ⟨rfl, rfl⟩
    go_wp2_with fail
    refine (c6.out _).mono ?_
    rintro e w' ⟨rfl, rfl⟩
    go_wp2_with fail
    refine (c7.out _).mono ?_
    rintro e w' ⟨rfl, rfl⟩
    go_wp2_with fail
    refine (c8.out _).mono ?_
    rintro e w' ⟨rfl, rfl⟩
    go_wp2
    go_ret
    exact ⟨rfl, Grown.refl _⟩

theorem road0 (a l m e : Int) (w : World)
    (hl : l = 1 ∧ m = 0 ∧ e = 0 ∨ l = 0 ∧ m = 1 ∧ e = 0 ∨ l = 0 ∧ m = 0 ∧ e = 1)
    (c1 : Hid (∀ w, Calls Try.prog 6 #[.int .i64 6, .int .i64 a, .int .i64 0] w fun e w' => e = .returned (.tuple #[.int .i64 l, .bool true]) ∧ w' = w))
    (c2 : Hid (∀ w, Calls Try.prog 6 #[.int .i64 6, .int .i64 0, .int .i64 a] w fun e w' => e = .returned (.tuple #[.int .i64 m, .bool true]) ∧ w' = w))
    (c3 : Hid (∀ w, Calls Try.prog 6 #[.int .i64 7, .int .i64 a, .int .i64 0] w fun x w' => x = .returned (.tuple #[.int .i64 e, .bool true]) ∧ w' = w))
    (c4 : Hid (∀ w, Calls Try.prog 6 #[.int .i64 4, .int .i64 a, .int .i64 0] w fun e w' => e = .returned (.tuple #[.int .i64 0, .bool false]) ∧ w' = w))
    (c5 : Hid (∀ w, Calls Try.prog 6 #[.int .i64 5, .int .i64 a, .int .i64 0] w fun e w' => e = .returned (.tuple #[.int .i64 0, .bool false]) ∧ w' = w)) :
    Calls Try.prog 4 #[.int .i64 a, .int .i64 0] w fun e w' => e = .returned (.bool true) ∧ Grown w w' := by
  rcases hl with ⟨rfl, rfl, rfl⟩ | ⟨rfl, rfl, rfl⟩ | ⟨rfl, rfl, rfl⟩
  all_goals
    go_enter Try.func4, Try.ntmps4
    go_wp2_with fail
    refine (ops.begun _).mono ?_
    rintro e w' ⟨rfl, rfl⟩
    go_wp2_with fail
    refine (c1.out _).mono ?_
    rintro e w' ⟨rfl, rfl⟩
    go_wp2_with fail
    refine (c2.out _).mono ?_
    rintro e w' ⟨rfl, rfl⟩
    go_wp2_with fail
    refine (c3.out _).mono ?_
    rintro e w' ⟨rfl, rfl⟩
    go_wp2_with fail
    refine (c4.out _).mono ?_
    rintro e w' ⟨rfl, rfl⟩
    go_wp2_with fail
    refine (c5.out _).mono ?_
    rintro e w' ⟨rfl, rfl⟩
    go_wp2
    go_ret
    exact ⟨rfl, Grown.refl _⟩

theorem three (a b : Int) : ops.t1 (decide (a < b)) = 1 ∧ ops.t1 (decide (b < a)) = 0 ∧ ops.t1 (a == b) = 0 ∨ ops.t1 (decide (a < b)) = 0 ∧ ops.t1 (decide (b < a)) = 1 ∧ ops.t1 (a == b) = 0 ∨ ops.t1 (decide (a < b)) = 0 ∧ ops.t1 (decide (b < a)) = 0 ∧ ops.t1 (a == b) = 1 := by
  by_cases h : a < b
  · have h2 : ¬ b < a := by omega
    have h3 : ¬ a = b := by omega
    left; simp [ops.t1, h, h2, h3]
  · by_cases h2 : b < a
    · have h3 : ¬ a = b := by omega
      right; left; simp [ops.t1, h, h2, h3]
    · have h3 : a = b := by omega
      right; right; simp [ops.t1, h3]

/-! ### STEP 1: THE WALK: the Go text returns true. 'Grown w w'': the world has at most new blocks (Derived/RowKit3.lean). Part the cases AHEAD of 'go_enter' where a test parts the walk; take each callee by a contract of your own. -/
theorem walk (a0 : Int) (a1 : Int) (w0 : (Lit.int .i64 a0).wf = true) (w1 : (Lit.int .i64 a1).wf = true) (w : World) :
    Calls Try.prog 4 #[.int .i64 a0, .int .i64 a1] w fun e w' => e = .returned (.bool true) ∧ Grown w w' := by
  have ba := bounds_i64 w0
  by_cases hz : a1 = 0
  · subst hz
    exact road0 a0 _ _ _ w (three a0 0) (ops.op6 a0 0) (ops.op6 0 a0) (ops.op7 a0 0) (ops.op4z a0) (ops.op5z a0)
  · refine road a0 a1 _ _ _ (wrap64 (a0.tdiv a1)) (a0.tmod a1) (wrap64 (wrap64 (a0.tdiv a1) * a1)) (wrap64 (wrap64 (wrap64 (a0.tdiv a1) * a1) + a0.tmod a1)) (wrap64 (wrap64 (wrap64 (wrap64 (a0.tdiv a1) * a1) + a0.tmod a1) - wrap64 (wrap64 (a0.tdiv a1) * a1))) w (three a0 a1) (by simp [hz]) ?_ ?_ (mod_sign a0 a1) (ops.op6 a0 a1) (ops.op6 a1 a0) (ops.op7 a0 a1) (fun w => ops.op4 a0 a1 w (by simp [hz]) hz) (fun w => ops.op5 a0 a1 w (by simp [hz]) hz) (ops.op3 _ _) (ops.op1 _ _) (ops.op2 _ _)
    · exact beq_iff_eq.2 (back a0 a1 ba)
    · exact beq_iff_eq.2 (less_back _ _ _ (mod_range a0 a1 ba) rfl)

/-! ### THE ROW's STEP: WRITTEN OUT: LEAVE IT -/
set_option maxRecDepth 100000 in
theorem lifted (os : Os) (started : os.Started) (H : Type) (enc : TypeId × Value → H) :
    ReturnsInHanded {} Try.checked os 4 .any (Rows.arithPartsSpec.pre6 enc Try.prog Try.f4 Rows.arithPartsRow.domain false) (Rows.arithPartsSpec.post enc Try.prog Try.f4 false true false false) := by
  refine returnsInHanded_of_change (C := Try.checked) own started (by kernel_rfl) Try.func4
    (ChangeSpec.witness6 (enc := enc) (C := Try.checked) false ⟨#[], #[.int .i64 0, .int .i64 0], []⟩ 8 (by kernel_rfl) (by kernel_rfl) (by kernel_rfl) (by kernel_rfl)) ?_
  intro W base args ds gs before hval0 hW hcnd _
  have hval : ∀ (j : Nat) t v, Try.f4.params[j]? = some t → args[j]? = some v → Value.okWide Try.prog W .any base t v := hval0
  have hW' := hW
  obtain ⟨p, q, hA0, hV, rfl, hfz, hnd⟩ := hW
  have hA : DataW.TrodAll enc Try.prog W 0 (fun _ => true) true Try.f4.params.toList args.toList ds p := hA0
  rw [Try.params4] at hA hval
  obtain ⟨v0, vs0, d0, ds0, p0, q0, hargs, rfl, rfl, h0, r0⟩ := trodAll_cons hA
  obtain ⟨v1, vs1, d1, ds1, p1, q1, rfl, rfl, rfl, h1, r1⟩ := trodAll_cons r0
  obtain ⟨rfl, rfl, rfl⟩ := trodAll_nil r1
  obtain rfl : args = #[v0, v1] := by cases args; simp_all
  obtain ⟨rfl, rfl⟩ := trodVars_none hV
  obtain ⟨a0, rfl, rfl, rfl, w0⟩ := open_int Try.underlying2 (hval 0 2 v0 rfl rfl) h0
  obtain ⟨a1, rfl, rfl, rfl, w1⟩ := open_int Try.underlying2 (hval 1 2 v1 rfl rfl) h1
  clear hA0 hval0
  simp only [List.append_nil] at hW'
  refine (walk a0 a1 w0 w1 W).mono fun e W' ⟨he, hg⟩ => ?_
  subst he
  exact ⟨_, rfl, post_of_same (pa := []) (pv := []) hW' (fun _ _ _ => (trodAll_cons_mk (shut_bool Try.underlying4 _) trodAll_mk0)) (fun sp _ => (trodAll_cons_mk (shut_int Try.underlying2 w0) (trodAll_cons_mk (shut_int Try.underlying2 w1) trodAll_mk0))) (fun _ _ => rfl) rfl
    (hg.frame _) hg.2.1 (ok_one (by kernel_rfl) rfl (okWide_bool_mk Try.underlying4 _))⟩

theorem over : Rows.arithPartsRow.holds Try.pinned (OpenSpec.ofChange Rows.arithPartsSpec) :=
  OpenClaim.holds_of_wide 4 Try.f4 rfl rfl rfl rfl rfl rfl rfl ⟨rfl, rfl, rfl, rfl, rfl⟩ rfl rfl rfl rfl rfl (by kernel_rfl) Try.func4 (by kernel_rfl)
    (of_decide_eq_true (by kernel_rfl)) (by unfold Func.isWrapper; first | (rw [if_pos (by decide +kernel)]; kernel_rfl) | (rw [if_neg (by decide +kernel)]; exact ⟨rfl, rfl⟩))
    (fun os started H enc _ => lifted os started H enc)

end Go.Proofs.Ytlakajiklgdjkaa.arithParts
namespace Go.Proofs.Ytlakajiklgdjkaa
/-- THE STATEMENT. -/
theorem arithParts_holds : Rows.ArithPartsSaid :=
  arithParts.over
#print axioms arithParts_holds
end Go.Proofs.Ytlakajiklgdjkaa
