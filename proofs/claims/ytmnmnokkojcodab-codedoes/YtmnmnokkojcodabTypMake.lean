/-
  A slice of types that a call fills: its row, and the trees behind it.
-/
import Derived.Test.YtmnmnokkojcodabTypRead
import Derived.Deep.RegionWith
import Derived.Deep.AppendLies
namespace Go.Proofs.Ytmnmnokkojcodab
open Go.ChangeShapes Go.WideShapes Go.ChangeAt Go.RowKit
set_option linter.unusedVariables false

/-- The slice value v owns a row of the trees l, all in blocks from lo on, the trees' own lists in other blocks than the row's. -/
structure TRow (w : World) (lo : Nat) (v : Value) {n : Nat} (l : List (TT n)) (xs : List Value) : Prop where
  own : w.ownsRow lo 90 3 v l.length xs
  kids : ∀ (i : Nat) (x : TT n), l[i]? = some x → ∃ a c, xs[i * 3]? = some (.int .i64 x.kind) ∧ xs[i * 3 + 1]? = some (.int .i64 x.r) ∧ xs[i * 3 + 2]? = some (.slice a x.len c) ∧ TIn w (But lo v) x a

theorem TRow.nil (w : World) (lo : Nat) {n : Nat} : TRow w lo (.slice none 0 0) ([] : List (TT n)) [] :=
  ⟨⟨rfl, Or.inl ⟨rfl, rfl⟩⟩, fun i x h => by simp at h⟩

/-- What it is at last: a list of trees in new memory. -/
theorem TRow.lin {w : World} {lo : Nat} {v : Value} {n : Nat} {l : List (TT n)} {xs : List Value} (h : TRow w lo v l xs) : ∃ a c, v = .slice a l.length c ∧ LIn w (From lo) l a := by
  obtain ⟨⟨h1, h2⟩, h3⟩ := h
  rcases h2 with ⟨rfl, h4⟩ | ⟨g, cap, cur, rfl, hg, hh, hn, hm, hs, ht⟩
  · have : l = [] := List.length_eq_zero_iff.1 h4
    subst this
    exact ⟨none, 0, rfl, LIn.nil⟩
  · refine ⟨_, _, rfl, fun i x hx => ?_⟩
    obtain ⟨a, c, q0, q1, q2, q3⟩ := h3 i x hx
    have hi : i < l.length := (List.getElem?_eq_some_iff.1 hx).1
    have key : ∀ j u, xs[j]? = some u → w.cell? ⟨g, j, none⟩ = some u := fun j u hj => by
      rw [← ht, List.getElem?_take] at hj
      split at hj
      · exact cellOf hh j u (by rw [← Array.getElem?_toList]; exact hj)
      · cases hj
    refine ⟨g, 0, a, c, rfl, hg, ?_, ?_, ?_, q3.mono (fun k hk _ => hk.1)⟩
    · rw [Nat.zero_add]; exact key _ _ q0
    · rw [Nat.zero_add]; exact key _ _ q1
    · rw [Nat.zero_add]; exact key _ _ q2

/-- It stays behind what turns nothing old. -/
theorem TRow.below {w w' : World} {lo : Nat} {v : Value} {n : Nat} {l : List (TT n)} {xs : List Value} (h : TRow w lo v l xs) (b : Below w.heap.size w w') : TRow w' lo v l xs := by
  obtain ⟨⟨h1, h2⟩, h3⟩ := h
  refine ⟨⟨h1, ?_⟩, fun i x hx => ?_⟩
  · rcases h2 with h4 | ⟨g, cap, cur, e, hg, hh, r⟩
    · exact Or.inl h4
    · exact Or.inr ⟨g, cap, cur, e, hg, (b.block g (lt_of_block hh)).trans hh, r⟩
  · obtain ⟨a, c, q0, q1, q2, q3⟩ := h3 i x hx
    exact ⟨a, c, q0, q1, q2, q3.below b⟩

theorem TRow.lo_le {w : World} {lo : Nat} {v : Value} {n : Nat} {l : List (TT n)} {xs : List Value} (h : TRow w lo v l xs) {g : Nat} (hg : v.ownBlock = some g) : lo ≤ g ∧ g < w.heap.size := by
  obtain ⟨⟨h1, h2⟩, h3⟩ := h
  rcases h2 with ⟨rfl, h4⟩ | ⟨g', cap, cur, rfl, hg', hh, r⟩
  · simp [Value.ownBlock] at hg
  · simp [Value.ownBlock] at hg; subst hg; exact ⟨hg', lt_of_block hh⟩

/-- One more, whose lists lie in blocks that were new when the row was as it was. -/
theorem TRow.push {w w' : World} {lo : Nat} {v : Value} {n : Nat} {l : List (TT n)} {xs : List Value} (h : TRow w lo v l xs) {x : TT n} {a : Option Addr} {c : Nat} (hx : TIn w (But lo v) x a)
    {g cap : Nat} (hg : w.grownBy w' v.ownBlock) (hat : v.ownBlock = some g ∨ g = w.heap.size)
    (ho : w'.ownsRow lo 90 3 (.slice (some ⟨g, 0, none⟩) (l.length + 1) cap) (l.length + 1) (xs ++ [.int .i64 x.kind, .int .i64 x.r, .slice a x.len c])) :
    TRow w' lo (.slice (some ⟨g, 0, none⟩) (l.length + 1) cap) (l ++ [x]) (xs ++ [.int .i64 x.kind, .int .i64 x.r, .slice a x.len c]) := by
  obtain ⟨h1, h3⟩ := h
  have hxl := h1.1
  have keep : ∀ {y : TT n} {b : Option Addr}, TIn w (But lo v) y b → TIn w' (But lo (.slice (some ⟨g, 0, none⟩) (l.length + 1) cap)) y b := fun hy => by
    refine hy.keep (fun k hk hl => ?_) (fun k hk hl => ⟨hk.1, ?_⟩)
    · exact hg.block k hl (fun e => hk.2 e.symm)
    · simp only [Value.ownBlock, ne_eq, Option.some.injEq]
      intro e
      subst e
      rcases hat with h' | h'
      · exact hk.2 h'
      · omega
  refine ⟨by rw [List.length_append]; exact ho, fun i y hy => ?_⟩
  rw [List.getElem?_append] at hy
  split at hy
  · rename_i hi
    obtain ⟨b, d, q0, q1, q2, q3⟩ := h3 i y hy
    refine ⟨b, d, ?_, ?_, ?_, keep q3⟩
    · rw [List.getElem?_append_left (by omega)]; exact q0
    · rw [List.getElem?_append_left (by omega)]; exact q1
    · rw [List.getElem?_append_left (by omega)]; exact q2
  · rename_i hi
    have hi2 : i = l.length := by
      have := (List.getElem?_eq_some_iff.1 hy).1
      simp at this
      omega
    subst hi2
    simp at hy
    subst hy
    refine ⟨a, c, ?_, ?_, ?_, keep hx⟩
    · rw [List.getElem?_append_right (by omega), hxl, Nat.sub_self]; rfl
    · rw [List.getElem?_append_right (by omega), hxl, Nat.add_sub_cancel_left]; rfl
    · rw [List.getElem?_append_right (by omega), hxl, Nat.add_sub_cancel_left]; rfl

theorem underTs : Try.prog.underlying 47 = some (.slice 90) := by kernel_rfl
theorem infoT : (Try.prog.info? 90).map (fun i => (i.zero, i.size, i.bytes)) = some (some (.agg #[.int .i64 0, .int .i64 0, .slice none 0 0]), 3, 40) := by kernel_rfl
theorem infoT_parts : ∃ i, Try.prog.info? 90 = some i ∧ i.zero = some (.agg #[.int .i64 0, .int .i64 0, .slice none 0 0]) ∧ i.size = 3 ∧ i.bytes = 40 := by
  have h := infoT
  cases hi : Try.prog.info? 90 with
  | none => rw [hi] at h; cases h
  | some i => rw [hi] at h; simp at h; exact ⟨i, rfl, h.1, h.2.1, h.2.2⟩
theorem news3 (w : World) (p q r : Value) : ∀ j u, [p, q, r][j]? = some u → (w.alloc (.cells #[p, q, r] 90)).cell? ((⟨w.heap.size, 0, none⟩ : Addr).add j) = some u := by
  intro j u h
  match j, h with
  | 0, h => simp at h; subst h; exact cellOf (blockNew w _ _) 0 _ rfl
  | 1, h => simp at h; subst h; exact cellOf (blockNew w _ _) 1 _ rfl
  | 2, h => simp at h; subst h; exact cellOf (blockNew w _ _) 2 _ rfl
  | j + 3, h => simp at h
theorem one3 (k r : Int) (a : Option Addr) (l c : Nat) : ∀ u ∈ [Value.int .i64 k, Value.int .i64 r, Value.slice a l c], u.oneCell' = true := by
  intro u h
  simp at h
  rcases h with rfl | rfl | rfl <;> rfl
end Go.Proofs.Ytmnmnokkojcodab
