/-
  renamed and Rename: the tree under its new names, in new memory.
-/
import Derived.Test.YtpcnlplcpoohgabDoorTypOwnT
namespace Go.Proofs.YtpcnlplcpoohgabDoor
open Go.ChangeShapes Go.WideShapes Go.ChangeAt Go.RowKit
set_option linter.unusedVariables false

/-- The new names: a slice of m numbers. -/
def ToIn (w : World) (b : Option Addr) (m : Nat) (nm : Nat → Int) : Prop := ∀ i, i < m → ∃ g o, b = some ⟨g, o, none⟩ ∧ w.cell? ⟨g, o + i, none⟩ = some (.int .i64 (nm i))
theorem ToIn.below {w w' : World} {b : Option Addr} {m : Nat} {nm : Nat → Int} (h : ToIn w b m nm) (k : Below w.heap.size w w') : ToIn w' b m nm := fun i hi => by
  obtain ⟨g, o, e, hc⟩ := h i hi
  exact ⟨g, o, e, (k.cell (p := ⟨g, o + i, none⟩) (World.block_lt_of_cell? w ⟨g, o + i, none⟩ hc)).trans hc⟩

/-- The number and whether there is one. -/
def RenR (o : Option Int) (e : Ending) : Prop := match o with
  | some v => e = .returned (.tuple #[.int .i64 v, .bool true])
  | none => e = .returned (.tuple #[.int .i64 0, .bool false])

set_option maxHeartbeats 4000000 in
set_option maxRecDepth 100000 in
theorem renamed_any (k r : Int) (a : Option Addr) (len c : Nat) (b : Option Addr) (m d : Nat) (nm : Nat → Int) (w : World) (hto0 : ToIn w b m nm) :
    Calls Tryd.prog 18 #[.agg #[.int .i64 k, .int .i64 r, .slice a len c], .slice b m d] w fun e w' => RenR (renR m nm k r) e ∧ Below w.heap.size w w' := by
  have hto : Hid (ToIn w b m nm) := hto0
  clear hto0
  by_cases hk : k = 1
  · subst hk
    rw [show renR m nm 1 r = some r by simp [renR]]
    go_enter Tryd.func18, Tryd.ntmps18
    go_wp2_with fail
    go_ret2
    exact ⟨rfl, (Below.refl _ w).alloc (Nat.le_refl _) _⟩
  · have hk' : (k == 1) = false := by simpa using hk
    rcases (show r < 0 ∨ (0 ≤ r ∧ (m : Int) ≤ r) ∨ (0 ≤ r ∧ r < m) by omega) with h1 | ⟨h1, h2⟩ | ⟨h1, h2⟩
    · rw [show renR m nm k r = none by unfold renR; rw [if_neg hk, if_pos (Or.inl h1)]]
      clear hk
      go_enter Tryd.func18, Tryd.ntmps18
      go_wp2_with fail
      go_ret2
      exact ⟨rfl, (Below.refl _ w).alloc (Nat.le_refl _) _⟩
    · rw [show renR m nm k r = none by unfold renR; rw [if_neg hk, if_pos (Or.inr h2)]]
      clear hk
      have h3 : ¬ r < 0 := by omega
      go_enter Tryd.func18, Tryd.ntmps18
      go_wp2_with fail
      go_ret2
      exact ⟨rfl, (Below.refl _ w).alloc (Nat.le_refl _) _⟩
    · obtain ⟨j, rfl⟩ := Int.eq_ofNat_of_zero_le h1
      obtain ⟨g, o, rfl, hc⟩ := hto.out j (by omega)
      have hg : g < w.heap.size := World.block_lt_of_cell? w ⟨g, o + j, none⟩ hc
      have h3 : ¬ (j : Int) < 0 := by omega
      have h4 : ¬ (m : Int) ≤ j := by omega
      by_cases hn : nm j < 0
      · rw [show renR m nm k j = none by unfold renR; rw [if_neg hk, if_neg (by omega), if_pos (by simpa using hn)]]
        clear hk
        generalize nm j = v at hc hn
        go_enter Tryd.func18, Tryd.ntmps18
        go_wp2_with fail
        go_ret2
        exact ⟨rfl, (Below.refl _ w).alloc (Nat.le_refl _) _⟩
      · rw [show renR m nm k j = some (nm j) by unfold renR; rw [if_neg hk, if_neg (by omega), if_neg (by simpa using hn)]; rfl]
        clear hk
        generalize nm j = v at hc hn ⊢
        go_enter Tryd.func18, Tryd.ntmps18
        go_wp2_with fail
        go_ret2
        exact ⟨rfl, (Below.refl _ w).alloc (Nat.le_refl _) _⟩

/-- A made slice of len types, its first ones set. -/
structure MRow (w : World) (G len : Nat) {n : Nat} (l : List (TT n)) : Prop where
  row : ∃ cur, w.heap[G]? = some (.cells cur 24 (0, 0)) ∧ cur.size = len * 3 ∧ ∀ (i : Nat) (x : TT n), l[i]? = some x → ∃ a c, cur[i * 3]? = some (.int .i64 x.kind) ∧ cur[i * 3 + 1]? = some (.int .i64 x.r) ∧ cur[i * 3 + 2]? = some (.slice a x.len c) ∧ TIn w (From (G + 1)) x a
theorem MRow.below {w w' : World} {G len n : Nat} {l : List (TT n)} (h : MRow w G len l) (b : Below w.heap.size w w') : MRow w' G len l := by
  obtain ⟨cur, h1, h2, h3⟩ := h.row
  refine ⟨cur, (b.block G (lt_of_block h1)).trans h1, h2, fun i x hx => ?_⟩
  obtain ⟨a, c, q0, q1, q2, q3⟩ := h3 i x hx
  exact ⟨a, c, q0, q1, q2, q3.below b⟩
theorem MRow.lt {w : World} {G len n : Nat} {l : List (TT n)} (h : MRow w G len l) : G < w.heap.size := by
  obtain ⟨cur, h1, h2, h3⟩ := h.row
  exact lt_of_block h1
theorem MRow.frozen {w : World} {G len n : Nat} {l : List (TT n)} (h : MRow w G len l) (i : Nat) : w.frozen? ⟨G, i, none⟩ = false := by
  obtain ⟨cur, h1, h2, h3⟩ := h.row
  exact freeOf h1 i
theorem MRow.has {w : World} {G len n : Nat} {l : List (TT n)} (h : MRow w G len l) (i : Nat) (hi : i < len * 3) : ∃ v, w.cell? ⟨G, i, none⟩ = some v := by
  obtain ⟨cur, h1, h2, h3⟩ := h.row
  exact ⟨cur[i]'(by omega), cellOf h1 i _ (Array.getElem?_eq_getElem (by omega))⟩
theorem MRow.lin {w : World} {G len n : Nat} {l : List (TT n)} (h : MRow w G len l) : LIn w (From G) l (some ⟨G, 0, none⟩) := by
  obtain ⟨cur, h1, h2, h3⟩ := h.row
  intro i x hx
  obtain ⟨a, c, q0, q1, q2, q3⟩ := h3 i x hx
  refine ⟨G, 0, a, c, rfl, Nat.le_refl _, ?_, ?_, ?_, q3.mono (fun k hk _ => by omega)⟩
  · rw [Nat.zero_add]; exact cellOf h1 _ _ q0
  · rw [Nat.zero_add]; exact cellOf h1 _ _ q1
  · rw [Nat.zero_add]; exact cellOf h1 _ _ q2
theorem MRow.set {w : World} {G len n q : Nat} {l : List (TT n)} (h : MRow w G len l) (hl : l.length = q) (hq : q < len) {x : TT n} {a : Option Addr} {c : Nat} (hx : TIn w (From (G + 1)) x a) :
    MRow (((w.setCell ⟨G, q * 3, none⟩ (.int .i64 x.kind)).setCell ⟨G, q * 3 + 1, none⟩ (.int .i64 x.r)).setCell ⟨G, q * 3 + 2, none⟩ (.slice a x.len c)) G len (l ++ [x]) := by
  obtain ⟨cur, h1, h2, h3⟩ := h.row
  have k1 := blockSet h1 (q * 3) (.int .i64 x.kind)
  have k2 := blockSet k1 (q * 3 + 1) (.int .i64 x.r)
  have k3 := blockSet k2 (q * 3 + 2) (.slice a x.len c)
  have keep : ∀ {y : TT n} {b : Option Addr}, TIn w (From (G + 1)) y b → TIn (((w.setCell ⟨G, q * 3, none⟩ (.int .i64 x.kind)).setCell ⟨G, q * 3 + 1, none⟩ (.int .i64 x.r)).setCell ⟨G, q * 3 + 2, none⟩ (.slice a x.len c)) (From (G + 1)) y b :=
    fun hy => ((hy.setCell (by simp) _).setCell (by simp) _).setCell (by simp) _
  refine ⟨_, k3, by simp [h2], fun i y hy => ?_⟩
  rw [List.getElem?_append] at hy
  split at hy
  · rename_i hi
    obtain ⟨b, d, q0, q1, q2, q3⟩ := h3 i y hy
    refine ⟨b, d, ?_, ?_, ?_, keep q3⟩
    · simp only [Array.getElem?_setIfInBounds]
      rw [if_neg (by omega), if_neg (by omega), if_neg (by omega)]; exact q0
    · simp only [Array.getElem?_setIfInBounds]
      rw [if_neg (by omega), if_neg (by omega), if_neg (by omega)]; exact q1
    · simp only [Array.getElem?_setIfInBounds]
      rw [if_neg (by omega), if_neg (by omega), if_neg (by omega)]; exact q2
  · rename_i hi
    have hi2 : i = q := by
      have := (List.getElem?_eq_some_iff.1 hy).1
      simp at this
      omega
    subst hi2
    simp [hl] at hy
    subst hy
    refine ⟨a, c, ?_, ?_, ?_, keep hx⟩
    · simp only [Array.getElem?_setIfInBounds, Array.size_setIfInBounds]
      rw [if_neg (by omega), if_neg (by omega), if_pos trivial, if_pos (by omega)]
    · simp only [Array.getElem?_setIfInBounds, Array.size_setIfInBounds]
      rw [if_neg (by omega), if_pos trivial, if_pos (by omega)]
    · simp only [Array.getElem?_setIfInBounds, Array.size_setIfInBounds]
      rw [if_pos trivial, if_pos (by omega)]
end Go.Proofs.YtpcnlplcpoohgabDoor
