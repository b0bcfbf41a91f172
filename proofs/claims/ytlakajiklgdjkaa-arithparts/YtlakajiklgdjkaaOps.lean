/-
  What arith.Op and the document's own OpOf answer, case by case, as contracts over the translation; and the one identity of bits that parts them (a xor b is (a or b) less (a and b)).
-/
import Derived.Test.YtlakajiklgdjkaaRows
import Derived.WalkKit
import Derived.WalkLawsBesides
import Derived.ProofKit
import Derived.OpenShut
namespace Go.Proofs.Ytlakajiklgdjkaa.ops
open Go.ChangeShapes Go.WideShapes Go.ChangeAt Go.RowKit
set_option linter.unusedVariables false

theorem bv_or_split (x y : BitVec 64) : (x ^^^ y) + (x &&& y) = x ||| y := by
  rw [BitVec.add_eq_or_of_and_eq_zero]
  · ext i hi; simp; cases x[i] <;> cases y[i] <;> rfl
  · ext i hi; simp; cases x[i] <;> cases y[i] <;> decide

theorem wrapk (n : Int) : IntKind.i64.wrap n = wrap64 n := by rw [IntKind.wrap_i64]; unfold wrap64; rfl

theorem xor_of (a b : Int) : wrap64 (bits .or .i64 a b - bits .and .i64 a b) = bits .xor .i64 a b := by
  have h := congrArg BitVec.toNat (bv_or_split (BitVec.ofInt 64 a) (BitVec.ofInt 64 b))
  rw [BitVec.toNat_add] at h
  show wrap64 (IntKind.i64.wrap ((BitVec.ofInt 64 a ||| BitVec.ofInt 64 b).toNat : Int) - IntKind.i64.wrap ((BitVec.ofInt 64 a &&& BitVec.ofInt 64 b).toNat : Int)) = IntKind.i64.wrap ((BitVec.ofInt 64 a ^^^ BitVec.ofInt 64 b).toNat : Int)
  rw [wrapk, wrapk, wrapk]
  generalize (BitVec.ofInt 64 a ||| BitVec.ofInt 64 b).toNat = o at *
  generalize (BitVec.ofInt 64 a &&& BitVec.ofInt 64 b).toNat = n at *
  generalize (BitVec.ofInt 64 a ^^^ BitVec.ofInt 64 b).toNat = x at *
  unfold wrap64
  omega

def t1 (p : Bool) : Int := if p then 1 else 0

theorem op1 (a b : Int) (w : World) : Calls Try.prog 6 #[.int .i64 1, .int .i64 a, .int .i64 b] w fun e w' => e = .returned (.tuple #[.int .i64 (wrap64 (a + b)), .bool true]) ∧ w' = w := by
  go_enter Try.func6, Try.ntmps6
  go_wp2
  go_ret2
  exact ⟨rfl, rfl⟩
theorem op2 (a b : Int) (w : World) : Calls Try.prog 6 #[.int .i64 2, .int .i64 a, .int .i64 b] w fun e w' => e = .returned (.tuple #[.int .i64 (wrap64 (a - b)), .bool true]) ∧ w' = w := by
  go_enter Try.func6, Try.ntmps6
  go_wp2
  go_ret2
  exact ⟨rfl, rfl⟩
theorem op3 (a b : Int) (w : World) : Calls Try.prog 6 #[.int .i64 3, .int .i64 a, .int .i64 b] w fun e w' => e = .returned (.tuple #[.int .i64 (wrap64 (a * b)), .bool true]) ∧ w' = w := by
  go_enter Try.func6, Try.ntmps6
  go_wp2
  go_ret2
  exact ⟨rfl, rfl⟩
theorem op4 (a b : Int) (w : World) (hb : (b == 0) = false) (hn : ¬ b = 0) : Calls Try.prog 6 #[.int .i64 4, .int .i64 a, .int .i64 b] w fun e w' => e = .returned (.tuple #[.int .i64 (wrap64 (a.tdiv b)), .bool true]) ∧ w' = w := by
  go_enter Try.func6, Try.ntmps6
  go_wp2
  go_ret2
  exact ⟨rfl, rfl⟩
theorem op4z (a : Int) (w : World) : Calls Try.prog 6 #[.int .i64 4, .int .i64 a, .int .i64 0] w fun e w' => e = .returned (.tuple #[.int .i64 0, .bool false]) ∧ w' = w := by
  go_enter Try.func6, Try.ntmps6
  go_wp2
  go_ret2
  exact ⟨rfl, rfl⟩
theorem op5 (a b : Int) (w : World) (hb : (b == 0) = false) (hn : ¬ b = 0) : Calls Try.prog 6 #[.int .i64 5, .int .i64 a, .int .i64 b] w fun e w' => e = .returned (.tuple #[.int .i64 (a.tmod b), .bool true]) ∧ w' = w := by
  go_enter Try.func6, Try.ntmps6
  go_wp2
  go_ret2
  exact ⟨rfl, rfl⟩
theorem op5z (a : Int) (w : World) : Calls Try.prog 6 #[.int .i64 5, .int .i64 a, .int .i64 0] w fun e w' => e = .returned (.tuple #[.int .i64 0, .bool false]) ∧ w' = w := by
  go_enter Try.func6, Try.ntmps6
  go_wp2
  go_ret2
  exact ⟨rfl, rfl⟩
theorem truth1 (w : World) : Calls Try.prog 10 #[.bool true] w fun e w' => e = .returned (.int .i64 1) ∧ w' = w := by
  go_enter Try.func10, Try.ntmps10
  go_wp2
  go_ret
  exact ⟨rfl, rfl⟩
theorem op6 (a b : Int) (w : World) : Calls Try.prog 6 #[.int .i64 6, .int .i64 a, .int .i64 b] w fun e w' => e = .returned (.tuple #[.int .i64 (t1 (decide (a < b))), .bool true]) ∧ w' = w := by
  by_cases h : a < b
  · have hh : t1 (decide (a < b)) = 1 := by simp [t1, h]
    rw [hh]
    go_enter Try.func6, Try.ntmps6
    go_wp2
    go_ret2
    exact ⟨rfl, rfl⟩
  · have hh : t1 (decide (a < b)) = 0 := by simp [t1, h]
    rw [hh]
    go_enter Try.func6, Try.ntmps6
    go_wp2
    go_ret2
    exact ⟨rfl, rfl⟩
theorem op7 (a b : Int) (w : World) : Calls Try.prog 6 #[.int .i64 7, .int .i64 a, .int .i64 b] w fun e w' => e = .returned (.tuple #[.int .i64 (t1 (a == b)), .bool true]) ∧ w' = w := by
  cases h : (a == b)
  · go_enter Try.func6, Try.ntmps6
    go_wp2
    go_ret2
    exact ⟨rfl, rfl⟩
  · go_enter Try.func6, Try.ntmps6
    go_wp2
    go_ret2
    exact ⟨rfl, rfl⟩
theorem op8 (a b : Int) (w : World) : Calls Try.prog 6 #[.int .i64 8, .int .i64 a, .int .i64 b] w fun e w' => e = .returned (.tuple #[.int .i64 (bits .and .i64 a b), .bool true]) ∧ w' = w := by
  go_enter Try.func6, Try.ntmps6
  go_wp2
  go_ret2
  exact ⟨rfl, rfl⟩
theorem op9 (a b : Int) (w : World) : Calls Try.prog 6 #[.int .i64 9, .int .i64 a, .int .i64 b] w fun e w' => e = .returned (.tuple #[.int .i64 (bits .xor .i64 a b), .bool true]) ∧ w' = w := by
  go_enter Try.func6, Try.ntmps6
  go_wp2
  go_ret2
  exact ⟨rfl, rfl⟩
theorem opN (k a b : Int) (w : World) (hk : k < 1 ∨ 9 < k) : Calls Try.prog 6 #[.int .i64 k, .int .i64 a, .int .i64 b] w fun e w' => e = .returned (.tuple #[.int .i64 0, .bool false]) ∧ w' = w := by
  rcases hk with hk | hk
  · go_enter Try.func6, Try.ntmps6
    go_wp2
    go_ret2
    exact ⟨rfl, rfl⟩
  · go_enter Try.func6, Try.ntmps6
    go_wp2
    go_ret2
    exact ⟨rfl, rfl⟩

theorem ref1 (a b : Int) (w : World) : Calls Try.prog 7 #[.int .i64 1, .int .i64 a, .int .i64 b] w fun e w' => e = .returned (.tuple #[.int .i64 (wrap64 (a + b)), .bool true]) ∧ w' = w := by
  go_enter Try.func7, Try.ntmps7
  go_wp2
  go_ret2
  exact ⟨rfl, rfl⟩
theorem ref2 (a b : Int) (w : World) : Calls Try.prog 7 #[.int .i64 2, .int .i64 a, .int .i64 b] w fun e w' => e = .returned (.tuple #[.int .i64 (wrap64 (a - b)), .bool true]) ∧ w' = w := by
  go_enter Try.func7, Try.ntmps7
  go_wp2
  go_ret2
  exact ⟨rfl, rfl⟩
theorem ref3 (a b : Int) (w : World) : Calls Try.prog 7 #[.int .i64 3, .int .i64 a, .int .i64 b] w fun e w' => e = .returned (.tuple #[.int .i64 (wrap64 (a * b)), .bool true]) ∧ w' = w := by
  go_enter Try.func7, Try.ntmps7
  go_wp2
  go_ret2
  exact ⟨rfl, rfl⟩
theorem ref4a (a b : Int) (w : World) (hb : (b == 0) = false) (hn : ¬ b = 0) (ha : -9223372036854775808 < a) : Calls Try.prog 7 #[.int .i64 4, .int .i64 a, .int .i64 b] w fun e w' => e = .returned (.tuple #[.int .i64 (wrap64 (a.tdiv b)), .bool true]) ∧ w' = w := by
  go_enter Try.func7, Try.ntmps7
  go_wp2
  go_ret2
  exact ⟨rfl, rfl⟩
theorem ref4b (b : Int) (w : World) (hb : (b == 0) = false) (hn : ¬ b = 0) (ha : (b == -1) = false) : Calls Try.prog 7 #[.int .i64 4, .int .i64 (-9223372036854775808), .int .i64 b] w fun e w' => e = .returned (.tuple #[.int .i64 (wrap64 (Int.tdiv (-9223372036854775808) b)), .bool true]) ∧ w' = w := by
  rw [Int.neg_tdiv]
  go_enter Try.func7, Try.ntmps7
  go_wp2
  go_ret2
  exact ⟨rfl, rfl⟩
theorem ref4c (w : World) : Calls Try.prog 7 #[.int .i64 4, .int .i64 (-9223372036854775808), .int .i64 (-1)] w fun e w' => e = .returned (.tuple #[.int .i64 (-9223372036854775808), .bool true]) ∧ w' = w := by
  go_enter Try.func7, Try.ntmps7
  go_wp2
  go_ret2
  exact ⟨rfl, rfl⟩
theorem ref4 (a b : Int) (w : World) (hb : (b == 0) = false) (hn : ¬ b = 0) (ha : -9223372036854775808 ≤ a) : Calls Try.prog 7 #[.int .i64 4, .int .i64 a, .int .i64 b] w fun e w' => e = .returned (.tuple #[.int .i64 (wrap64 (a.tdiv b)), .bool true]) ∧ w' = w := by
  by_cases h : -9223372036854775808 < a
  · exact ref4a a b w hb hn h
  · obtain rfl : a = -9223372036854775808 := by omega
    by_cases h1 : b = -1
    · subst h1
      have e : wrap64 (Int.tdiv (-9223372036854775808) (-1)) = -9223372036854775808 := by decide +kernel
      rw [e]
      exact ref4c w
    · exact ref4b b w hb hn (by simp [h1])
theorem ref4z (a : Int) (w : World) : Calls Try.prog 7 #[.int .i64 4, .int .i64 a, .int .i64 0] w fun e w' => e = .returned (.tuple #[.int .i64 0, .bool false]) ∧ w' = w := by
  go_enter Try.func7, Try.ntmps7
  go_wp2
  go_ret2
  exact ⟨rfl, rfl⟩
theorem ref5a (a b : Int) (w : World) (hb : (b == 0) = false) (hn : ¬ b = 0) (ha : -9223372036854775808 < a) : Calls Try.prog 7 #[.int .i64 5, .int .i64 a, .int .i64 b] w fun e w' => e = .returned (.tuple #[.int .i64 (a.tmod b), .bool true]) ∧ w' = w := by
  go_enter Try.func7, Try.ntmps7
  go_wp2
  go_ret2
  exact ⟨rfl, rfl⟩
theorem ref5b (b : Int) (w : World) (hb : (b == 0) = false) (hn : ¬ b = 0) (ha : (b == -1) = false) : Calls Try.prog 7 #[.int .i64 5, .int .i64 (-9223372036854775808), .int .i64 b] w fun e w' => e = .returned (.tuple #[.int .i64 (Int.tmod (-9223372036854775808) b), .bool true]) ∧ w' = w := by
  rw [Int.neg_tmod, Int.tmod_eq_emod_of_nonneg (by decide)]
  go_enter Try.func7, Try.ntmps7
  go_wp2
  go_ret2
  exact ⟨rfl, rfl⟩
theorem ref5c (w : World) : Calls Try.prog 7 #[.int .i64 5, .int .i64 (-9223372036854775808), .int .i64 (-1)] w fun e w' => e = .returned (.tuple #[.int .i64 (0), .bool true]) ∧ w' = w := by
  go_enter Try.func7, Try.ntmps7
  go_wp2
  go_ret2
  exact ⟨rfl, rfl⟩
theorem ref5 (a b : Int) (w : World) (hb : (b == 0) = false) (hn : ¬ b = 0) (ha : -9223372036854775808 ≤ a) : Calls Try.prog 7 #[.int .i64 5, .int .i64 a, .int .i64 b] w fun e w' => e = .returned (.tuple #[.int .i64 (a.tmod b), .bool true]) ∧ w' = w := by
  by_cases h : -9223372036854775808 < a
  · exact ref5a a b w hb hn h
  · obtain rfl : a = -9223372036854775808 := by omega
    by_cases h1 : b = -1
    · subst h1
      have e : Int.tmod (-9223372036854775808) (-1) = 0 := by decide +kernel
      rw [e]
      exact ref5c w
    · exact ref5b b w hb hn (by simp [h1])
theorem ref5z (a : Int) (w : World) : Calls Try.prog 7 #[.int .i64 5, .int .i64 a, .int .i64 0] w fun e w' => e = .returned (.tuple #[.int .i64 0, .bool false]) ∧ w' = w := by
  go_enter Try.func7, Try.ntmps7
  go_wp2
  go_ret2
  exact ⟨rfl, rfl⟩
theorem ref6 (a b : Int) (w : World) : Calls Try.prog 7 #[.int .i64 6, .int .i64 a, .int .i64 b] w fun e w' => e = .returned (.tuple #[.int .i64 (t1 (decide (a < b))), .bool true]) ∧ w' = w := by
  by_cases h : a < b
  · have hh : t1 (decide (a < b)) = 1 := by simp [t1, h]
    rw [hh]
    go_enter Try.func7, Try.ntmps7
    go_wp2
    go_ret2
    exact ⟨rfl, rfl⟩
  · have hh : t1 (decide (a < b)) = 0 := by simp [t1, h]
    rw [hh]
    go_enter Try.func7, Try.ntmps7
    go_wp2
    go_ret2
    exact ⟨rfl, rfl⟩
theorem ref7 (a b : Int) (w : World) : Calls Try.prog 7 #[.int .i64 7, .int .i64 a, .int .i64 b] w fun e w' => e = .returned (.tuple #[.int .i64 (t1 (a == b)), .bool true]) ∧ w' = w := by
  cases h : (a == b)
  · go_enter Try.func7, Try.ntmps7
    go_wp2
    go_ret2
    exact ⟨rfl, rfl⟩
  · go_enter Try.func7, Try.ntmps7
    go_wp2
    go_ret2
    exact ⟨rfl, rfl⟩
theorem ref8 (a b : Int) (w : World) : Calls Try.prog 7 #[.int .i64 8, .int .i64 a, .int .i64 b] w fun e w' => e = .returned (.tuple #[.int .i64 (bits .and .i64 a b), .bool true]) ∧ w' = w := by
  go_enter Try.func7, Try.ntmps7
  go_wp2
  go_ret2
  exact ⟨rfl, rfl⟩
theorem ref9 (a b : Int) (w : World) : Calls Try.prog 7 #[.int .i64 9, .int .i64 a, .int .i64 b] w fun e w' => e = .returned (.tuple #[.int .i64 (bits .xor .i64 a b), .bool true]) ∧ w' = w := by
  rw [← xor_of]
  go_enter Try.func7, Try.ntmps7
  go_wp2
  go_ret2
  exact ⟨rfl, rfl⟩
theorem refN (k a b : Int) (w : World) (hk : k < 1 ∨ 9 < k) : Calls Try.prog 7 #[.int .i64 k, .int .i64 a, .int .i64 b] w fun e w' => e = .returned (.tuple #[.int .i64 0, .bool false]) ∧ w' = w := by
  rcases hk with hk | hk
  · go_enter Try.func7, Try.ntmps7
    go_wp2
    go_ret2
    exact ⟨rfl, rfl⟩
  · go_enter Try.func7, Try.ntmps7
    go_wp2
    go_ret2
    exact ⟨rfl, rfl⟩

theorem begun (w : World) : Calls Try.prog 5 #[] w fun e w' => e = .returned (.bool true) ∧ w' = w := by
  go_enter Try.func5, Try.ntmps5
  go_wp2
  go_ret
  exact ⟨rfl, rfl⟩
end Go.Proofs.Ytlakajiklgdjkaa.ops
