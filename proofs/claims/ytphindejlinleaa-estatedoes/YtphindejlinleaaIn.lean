/-
  The contract of the document's In: is a number on a list?
-/
import Derived.Test.YtphindejlinleaaPool
namespace Go.Proofs.Ytphindejlinleaa
open Go.ChangeShapes Go.WideShapes Go.ChangeAt Go.RowKit
set_option linter.unusedVariables false

theorem in_any (w : World) (O : Nat → Prop) (v : Value) (xs : List Int) (x : Int) (h : Row w O 3 v xs) (hx : xs.length ≤ 1000) :
    Calls Try.prog 26 #[v, .int .i64 x] w fun e w' => e = .returned (.bool (hasB xs x)) ∧ w' = w := by
  obtain ⟨a, cap, rfl, ha, hs⟩ := h.form
  have hl : ∀ i, i < xs.length → ∃ g, a = some ⟨g, 0, none⟩ := by
    intro i hi
    cases a with
    | none => rw [(ha rfl).1] at hi; simp at hi
    | some g => exact ⟨g.block, by rw [← (hs g rfl).1]⟩
  have hc : ∀ g i, a = some ⟨g, 0, none⟩ → i < xs.length → w.cell? ⟨g, i, none⟩ = some (.int .i64 (xs.getD i 0)) := by
    intro g i e hi
    subst e
    obtain ⟨_, _, _, _, c, hc, _, hi'⟩ := hs _ rfl
    exact cellOf hc i _ (hi' i hi)
  clear hs ha h
  obtain ⟨len, hlen⟩ : ∃ len, xs.length = len := ⟨_, rfl⟩
  rw [hlen] at hx hl hc ⊢
  have HL : Hid (xs.length = len) := hlen
  clear hlen
  go_enter Try.func26, Try.ntmps26
  go_wp2
  go_loop [5] (fun i => ∃ k : Nat, k ≤ len ∧ i = .int .i64 k ∧ ∀ j, j < k → xs.getD j 0 ≠ x) (fun i => len - (intOf i).toNat)
  case atStart => exact ⟨0, Nat.zero_le _, rfl, fun j hj => absurd hj (Nat.not_lt_zero _)⟩
  case round =>
    obtain ⟨k, hk, rfl, hno⟩ := hrel
    by_cases hlt : k < len
    · obtain ⟨g, rfl⟩ := hl k hlt
      have hck := hc g k rfl hlt
      clear hc hl
      obtain ⟨y, hy⟩ : ∃ y, y = xs.getD k 0 := ⟨_, rfl⟩
      rw [← hy] at hck
      by_cases he : y = x
      · have E : Hid (hasB xs x = true) := contains_of_at (by have := HL.out; omega) (hy.symm.trans he)
        have he' : (y == x) = true := by simpa using he
        clear he hy hno
        go_wp2
        go_ret
        exact ⟨by rw [E.out]; rfl, rfl⟩
      · have he' : (y == x) = false := by simpa using he
        have N : Hid (∀ j, j < k + 1 → xs.getD j 0 ≠ x) := fun j hj => by
          rcases Nat.lt_succ_iff_lt_or_eq.1 hj with h' | h'
          · exact hno j h'
          · subst h'; rw [← hy]; exact fun e => he e
        clear he hno hy
        go_wp2
        go_round
        case rel => exact ⟨k + 1, by omega, by go_num, N.out⟩
        case measure => simp [intOf]; omega
    · have E : Hid (hasB xs x = false) := contains_of_not fun j hj => hno j (by have := HL.out; omega)
      clear hno hc hl
      go_wp2
      go_ret
      exact ⟨by rw [E.out]; rfl, rfl⟩

end Go.Proofs.Ytphindejlinleaa
