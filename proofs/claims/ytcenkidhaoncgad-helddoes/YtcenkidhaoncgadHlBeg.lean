/-
  heldBegun: the law's first look at package held says yes.
-/
import Derived.Test.YtcenkidhaoncgadHlRef
namespace Go.Proofs.Ytcenkidhaoncgad
open Go.ChangeShapes Go.WideShapes Go.ChangeAt Go.RowKit
set_option linter.unusedVariables false

theorem hPass_zero (L : List Bool) : ∀ (rest ahead : List Int), (∀ x ∈ rest, hHas L x = true) → (ahead ++ rest).Nodup → (∀ x ∈ hList L, x ∈ ahead ++ rest) → hPass L ahead rest = 0 := by
  intro rest
  induction rest with
  | nil =>
    intro ahead _ _ h
    have : (hList L).all (fun r => inB ahead r) = true := List.all_eq_true.2 fun x hx => inB_iff.2 (by simpa using h x hx)
    rw [hPass, if_pos this]
  | cons x rest ih =>
    intro ahead h1 h2 h3
    have hx : hHas L x = true := h1 x (by simp)
    have hn : inB ahead x = false := by
      rw [Bool.eq_false_iff]
      intro hi
      have hm := inB_iff.1 hi
      rw [List.nodup_append] at h2
      exact h2.2.2 x hm x (by simp) rfl
    rw [hPass, if_pos hx, hn]
    simp only [Bool.false_eq_true, if_false]
    exact ih (ahead ++ [x]) (fun y hy => h1 y (by simp [hy])) (by simpa using h2) (by simpa using h3)
theorem hTo_nodup (L : List Bool) : ∀ k, (hTo L k).Nodup := by
  intro k
  induction k with
  | zero => simp [hTo]
  | succ k ih =>
    rw [hTo]
    split
    · rw [List.nodup_append]
      refine ⟨ih, by simp, fun x hx y hy e => ?_⟩
      simp at hy
      subst hy
      subst e
      have := ((mem_hTo L _ k).1 hx).2.1
      omega
    · simpa using ih
theorem hPass_list (L : List Bool) : hPass L [] (hList L) = 0 := hPass_zero L (hList L) [] (fun x hx => (mem_hList L x).1 hx) (by rw [List.nil_append]; exact hTo_nodup L _) (fun x hx => by simpa using hx)

/-- A row of numbers in a new block. -/
theorem ints_new (w : World) (t : TypeId) (l : List Int) (hl : ∀ x ∈ l, -9223372036854775808 ≤ x ∧ x ≤ 9223372036854775807) (c : Nat) : intsL.In (w.alloc (.cells (l.map (Value.int .i64)).toArray t)) (fun g => w.heap.size ≤ g) l [.slice (some ⟨w.heap.size, 0, none⟩) l.length c] := by
  refine ⟨some ⟨w.heap.size, 0, none⟩, c, rfl, fun i x hx => ⟨w.heap.size, 0, [.int .i64 x], rfl, Nat.le_refl _, by simp, fun j hj => ?_, ?_⟩⟩
  · have hj : j < 1 := hj
    have hj0 : j = 0 := by omega
    subst hj0
    have := cellOf (blockNew w (l.map (Value.int .i64)).toArray t) i (.int .i64 x) (by simp [hx])
    simpa [Lay.int] using this
  · exact Lay.int_mk _ _ (hl x (List.mem_of_getElem? hx))

set_option maxHeartbeats 2000000 in
theorem held_begun (w : World) : Calls Try.prog 4 #[] w fun e w' => e = .returned (.bool true) ∧ Below w.heap.size w w' := by
  go_enter Try.func4, Try.ntmps4
  go_wp2_with fail
  refine (held_new w 2 (by omega)).mono ?_
  rintro e w1 ⟨rfl, h1, b1⟩
  replace h1 : HeldAt w1 w.heap.size [true, true] := h1
  obtain ⟨B, hB⟩ : ∃ B, w.heap.size = B := ⟨_, rfl⟩
  rw [hB] at h1 ⊢
  have HB : Hid (w.heap.size = B) := hB
  clear hB
  have hlt1 := h1.lt
  go_wp2_with fail
  refine (held_open h1).mono ?_
  rintro e w2 ⟨rfl, h2, s2⟩
  replace h2 : HeldAt w2 B [true, true, true] := h2
  have b2 : Below w.heap.size w w2 := b1.trans (s2.below b1.size fun k hk => by have := HB.out; omega)
  have e2 : hOpenK [true, true] = 2 := rfl
  rw [e2]
  clear b1 s2 h1 e2
  go_wp2_with fail
  refine (held_shut 1 h2).mono ?_
  rintro e w3 ⟨rfl, h3, s3⟩
  replace h3 : HeldAt w3 B [true, false, true] := h3
  have b3 : Below w.heap.size w w3 := b2.trans (s3.below b2.size fun k hk => by have := HB.out; omega)
  have e3 : hHas [true, true, true] 1 = true := rfl
  rw [e3]
  clear b2 s3 h2 e3
  go_wp2_with fail
  refine (held_shut 1 h3).mono ?_
  rintro e w4 ⟨rfl, h4, s4⟩
  replace h4 : HeldAt w4 B [true, false, true] := h4
  have b4 : Below w.heap.size w w4 := b3.trans (s4.below b3.size fun k hk => by have := HB.out; omega)
  have e4 : hHas [true, false, true] 1 = false := rfl
  rw [e4]
  clear b3 s4 h3 e4
  go_wp2_with fail
  refine (held_list h4).mono ?_
  rintro e w5 ⟨a5, c5, rfl, i5, b5⟩
  have h5 := h4.below b5
  have b5' : Below w.heap.size w w5 := b4.trans (b5.mono b4.size)
  replace i5 : intsL.In w5 (fun g => w4.heap.size ≤ g) [0, 2] [.slice a5 2 c5] := i5
  have el : (hList [true, false, true]).length = 2 := rfl
  rw [el]
  clear b4 b5 h4 el
  go_wp2_with fail
  have i6 := ints_new w5 3 [0, 2] (by intro x hx; simp at hx; omega) 2
  refine (sameInts_eq (l := [0, 2]) rfl (by decide) (Lay.below i5 (bel1 _ _)) i6).mono ?_
  rintro e w6 ⟨rfl, b6⟩
  have b56 := (bel1 w5 (.cells #[.int .i64 0, .int .i64 2] 3)).trans (b6.mono (by simp))
  have h6 := h5.below b56
  have b6' : Below w.heap.size w w6 := b5'.trans (b56.mono b5'.size)
  clear b5' b56 b6 i5 i6 h5
  go_wp2_with fail
  have i7 := ints_new w6 3 [2, 0] (by intro x hx; simp at hx; omega) 2
  refine (held_pass (l := [2, 0]) rfl (by decide) i7 (h6.below (bel1 _ _))).mono ?_
  rintro e w7 ⟨rfl, b7⟩
  have b67 := (bel1 w6 (.cells #[.int .i64 2, .int .i64 0] 3)).trans (b7.mono (by simp))
  have h7 := h6.below b67
  have b7' : Below w.heap.size w w7 := b6'.trans (b67.mono b6'.size)
  have e7 : hPass [true, false, true] [] [2, 0] = 0 := by decide
  rw [e7]
  clear b6' b67 b7 i7 h6 e7
  go_wp2_with fail
  have i8 := ints_new w7 3 [0] (by intro x hx; simp at hx; omega) 1
  refine (held_pass (l := [0]) rfl (by decide) i8 (h7.below (bel1 _ _))).mono ?_
  rintro e w8 ⟨rfl, b8⟩
  have b78 := (bel1 w7 (.cells #[.int .i64 0] 3)).trans (b8.mono (by simp))
  have b8' : Below w.heap.size w w8 := b7'.trans (b78.mono b7'.size)
  have e8 : hPass [true, false, true] [] [0] = 12 := by decide
  rw [e8]
  clear b7' b78 b8 i8 h7 e8
  go_wp2
  go_ret
  exact ⟨rfl, b8'⟩

end Go.Proofs.Ytcenkidhaoncgad
