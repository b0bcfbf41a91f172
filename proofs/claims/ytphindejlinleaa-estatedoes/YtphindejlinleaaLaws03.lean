/-
  An estate that was made since a world, nothing older having turned: the contracts of package estate, said so; and what the statements on the estate call first: estateBegun answers true.
-/
import Derived.Test.YtphindejlinleaaEst3
namespace Go.Proofs.Ytphindejlinleaa
open Go.ChangeShapes Go.WideShapes Go.ChangeAt Go.RowKit
set_option linter.unusedVariables false

/-- An estate that was made since w0, and nothing older has turned. -/
def EMine (w0 w : World) (b bp : Nat) (e : Est) : Prop := ∃ O, EstAt w b bp O e ∧ (∀ x, O x → w0.heap.size ≤ x) ∧ Below w0.heap.size w0 w

section
variable {w0 w w' : World} {b bp : Nat} {e e' : Est}

theorem EMine.done (h : EMine w0 w b bp e) : Below w0.heap.size w0 w := by
  obtain ⟨O, h1, h2, h3⟩ := h; exact h3
theorem EMine.ok (h : EMine w0 w b bp e) : e.Ok := by
  obtain ⟨O, h1, h2, h3⟩ := h; exact h1.2
theorem EMine.cell0 (h : EMine w0 w b bp e) : w.cell? ⟨b, 0, none⟩ = some (.pointer (some ⟨bp, 0, none⟩)) := by
  obtain ⟨O, h1, h2, h3⟩ := h; exact h1.1.cell0
theorem EMine.below (h : EMine w0 w b bp e) (k : Below w.heap.size w w') : EMine w0 w' b bp e := by
  obtain ⟨O, h1, h2, h3⟩ := h
  exact ⟨O, h1.step (Step.none_below k) (fun _ _ h => h), h2, h3.trans (k.mono h3.size)⟩
theorem EMine.alloc (h : EMine w0 w b bp e) (o : Obj) : EMine w0 (w.alloc o) b bp e := h.below ((Below.refl _ _).alloc (Nat.le_refl _) _)
theorem EMine.drewN (h : EMine w0 w b bp e) (n : Nat) : EMine w0 (w.drewN n) b bp e := by
  obtain ⟨O, h1, h2, h3⟩ := h
  exact ⟨O, ⟨h1.1.drewN n, h1.2⟩, h2, ⟨h3.os, h3.tape, h3.output, h3.size, h3.block⟩⟩
theorem EMine.drew (h : EMine w0 w b bp e) : EMine w0 w.drew b bp e := h.drewN 1
theorem EMine.next {O : Nat → Prop} (h2 : ∀ x, O x → w0.heap.size ≤ x) (h3 : Below w0.heap.size w0 w) (k1 : EstMem w' b bp (grow O w w') e') (k2 : Step O (grow O w w') w w') (hok : e'.Ok) : EMine w0 w' b bp e' := by
  refine ⟨_, ⟨k1, hok⟩, ?_, h3.trans (k2.below h3.size h2)⟩
  intro x hx
  rcases hx.1 with h | h
  · exact h2 x h
  · have := h3.size; omega
theorem EMine.of_new {n : Nat} (h : EstAt w' b bp (fun x => w.heap.size ≤ x ∧ x < w'.heap.size) (Est.new n)) (k : Below w.heap.size w w') : EMine w w' b bp (Est.new n) := ⟨_, h, fun _ h => h.1, k⟩

theorem open_mine (h : EMine w0 w b bp e) : Calls Try.prog 30 #[.pointer (some ⟨b, 0, none⟩)] w fun r w' => r = .returned (.int .i64 e.openK) ∧ EMine w0 w' b bp e.opened := by
  obtain ⟨O, h1, h2, h3⟩ := h
  refine (open_any w b bp O e h1.1).mono ?_
  rintro r w' ⟨rfl, k1, k2⟩
  exact ⟨rfl, EMine.next h2 h3 k1 k2 h1.2.opened⟩
theorem shut_mine (k : Int) (h : EMine w0 w b bp e) : Calls Try.prog 32 #[.pointer (some ⟨b, 0, none⟩), .int .i64 k] w fun r w' => r = .returned (.bool (e.has k)) ∧ EMine w0 w' b bp (e.shut k) := by
  obtain ⟨O, h1, h2, h3⟩ := h
  refine (shut_any w b bp O e k h1).mono ?_
  rintro r w' ⟨rfl, k1, k2⟩
  exact ⟨rfl, EMine.next h2 h3 k1 k2 (h1.2.shut k)⟩
theorem get_mine (k n : Int) (h : EMine w0 w b bp e) : Calls Try.prog 34 #[.pointer (some ⟨b, 0, none⟩), .int .i64 k, .int .i64 n] w fun r w' => r = .returned (.tuple #[.int .i64 (e.getAt k n), .int .i64 (e.getCode k n)]) ∧ EMine w0 w' b bp (e.got k n) := by
  obtain ⟨O, h1, h2, h3⟩ := h
  refine (get_any w b bp O e k n h1).mono ?_
  rintro r w' ⟨rfl, k1, k2⟩
  exact ⟨rfl, EMine.next h2 h3 k1 k2 (h1.2.got k n)⟩
theorem has_mine (k : Int) (h : EMine w0 w b bp e) : Calls Try.prog 36 #[.pointer (some ⟨b, 0, none⟩), .int .i64 k] w fun r w' => r = .returned (.bool (e.has k)) ∧ w' = w := by
  obtain ⟨O, h1, h2, h3⟩ := h
  exact has_any w b bp O e k h1.1
theorem count_mine (h : EMine w0 w b bp e) : Calls Try.prog 38 #[.pointer (some ⟨b, 0, none⟩)] w fun r w' => r = .returned (.int .i64 e.count) ∧ w' = w := by
  obtain ⟨O, h1, h2, h3⟩ := h
  exact count_any w b bp O e h1.1
theorem efree_mine (h : EMine w0 w b bp e) : Calls Try.prog 24 #[.pointer (some ⟨bp, 0, none⟩)] w fun r w' => r = .returned (.int .i64 e.p.free) ∧ ∃ m, w' = w.drewN m := by
  obtain ⟨O, h1, h2, h3⟩ := h
  exact efree_any w b bp O e h1.1
theorem epages_mine (k : Int) (h : EMine w0 w b bp e) : Calls Try.prog 41 #[.pointer (some ⟨b, 0, none⟩), .int .i64 k] w fun r w' => ∃ a cap, r = .returned (.slice a (if e.has k then e.pagesAt k.toNat else []).length cap) ∧ Longs w' (.slice a (if e.has k then e.pagesAt k.toNat else []).length cap) (if e.has k then e.pagesAt k.toNat else []) ∧ Below w.heap.size w w' ∧ EMine w0 w' b bp e := by
  have hh := h
  obtain ⟨O, h1, h2, h3⟩ := h
  refine (epages_any w b bp O e k h1).mono ?_
  rintro r w' ⟨a, cap, rfl, k1, k2⟩
  exact ⟨a, cap, rfl, k1.longs, k2, hh.below k2⟩
end

/-- The estate of estateBegun, as it goes. -/
def e0 : Est := Est.new 3
def e1 : Est := e0.opened
def e2 : Est := e1.opened
def e3 : Est := e2.got 0 10
def e4 : Est := e3.got 0 7
def e5 : Est := e4.got 0 6
def e6 : Est := e5.got 2 1
def e7 : Est := e6.shut 0
theorem eo0 : e0.openK = 0 := by decide
theorem eo1 : e1.openK = 1 := by decide
theorem eg2 : e2.getAt 0 10 = 0 ∧ e2.getCode 0 10 = 0 := by decide
theorem eg3 : e3.getAt 0 7 = 16 ∧ e3.getCode 0 7 = 0 := by decide
theorem eg4 : e4.getAt 0 6 = 23 ∧ e4.getCode 0 6 = 0 := by decide
theorem eg5 : e5.getAt 2 1 = 0 ∧ e5.getCode 2 1 = 15 := by decide
theorem ep6 : (if e6.has 0 then e6.pagesAt (Int.toNat 0) else []) = [0, 1] := by decide
theorem eh6 : e6.has 0 = true := by decide
theorem ec7 : e7.count = 1 := by decide
theorem ef7 : e7.p.free = 3 := by decide

theorem two_longs (w : World) : Longs (w.alloc (.cells #[.int .i64 0, .int .i64 1] 3)) (.slice (some ⟨w.heap.size, 0, none⟩) 2 2) [0, 1] := by
  refine ⟨_, _, rfl, fun i hi => ⟨w.heap.size, 0, rfl, ?_⟩⟩
  have hb := blockNew w #[.int .i64 0, .int .i64 1] 3
  match i, hi with
  | 0, _ => exact cellOf hb 0 _ rfl
  | 1, _ => exact cellOf hb 1 _ rfl

set_option maxHeartbeats 1600000 in
theorem ebegun_any (w : World) : Calls Try.prog 27 #[] w fun e w' => e = .returned (.bool true) ∧ Below w.heap.size w w' := by
  go_enter Try.func27, Try.ntmps27
  go_wp2_with fail
  refine (enew_yes _ 3 (by omega)).mono ?_
  rintro e w1 ⟨b, bp, rfl, h1, h2⟩
  have m0 : EMine w w1 b bp e0 := EMine.of_new h1 h2
  clear h1 h2
  go_wp2_with fail
  refine (open_mine (m0.alloc _)).mono ?_
  rw [eo0]
  rintro e w2 ⟨rfl, m1⟩
  clear m0
  go_wp2_with fail
  refine (open_mine (e := e1) m1).mono ?_
  rw [eo1]
  rintro e w3 ⟨rfl, m2⟩
  clear m1
  go_wp2_with fail
  refine (get_mine (e := e2) 0 10 m2).mono ?_
  rw [eg2.1, eg2.2]
  rintro e w4 ⟨rfl, m3⟩
  clear m2
  go_wp2_with fail
  refine (get_mine (e := e3) 0 7 m3).mono ?_
  rw [eg3.1, eg3.2]
  rintro e w5 ⟨rfl, m4⟩
  clear m3
  go_wp2_with fail
  refine (get_mine (e := e4) 0 6 m4).mono ?_
  rw [eg4.1, eg4.2]
  rintro e w6 ⟨rfl, m5⟩
  clear m4
  go_wp2_with fail
  refine (get_mine (e := e5) 2 1 m5).mono ?_
  rw [eg5.1, eg5.2]
  rintro e w7 ⟨rfl, m6⟩
  clear m5
  go_wp2_with fail
  refine (epages_mine (e := e6) 0 m6).mono ?_
  rw [ep6]
  rintro e w8 ⟨a8, c8, rfl, l8, b8, m7⟩
  have L8 : Hid (Longs w8 (.slice a8 2 c8) [0, 1]) := l8
  have M7 : Hid (EMine w w8 b bp e6) := m7
  clear m6 l8 b8 m7
  go_wp2_with fail
  refine (sameInts_any _ _ _ [0, 1] (L8.out.alloc _) (two_longs _) (by simp)).mono ?_
  rintro e w9 ⟨rfl, q, rfl⟩
  have m8 := (M7.out.alloc (.cells #[.int .i64 0, .int .i64 1] 3)).drewN q
  generalize (w8.alloc (.cells #[.int .i64 0, .int .i64 1] 3)).drewN q = w10 at m8 ⊢
  clear M7 L8
  go_wp2_with fail
  refine (shut_mine (e := e6) 0 m8).mono ?_
  rw [eh6]
  rintro e w11 ⟨rfl, m9⟩
  clear m8
  go_wp2_with fail
  refine (count_mine (e := e7) m9).mono ?_
  rw [ec7]
  rintro e w12 ⟨rfl, hw⟩
  have hw := hw.symm
  subst hw
  have c0 := m9.cell0
  go_wp2_with fail
  refine (efree_mine (e := e7) m9).mono ?_
  rw [ef7]
  rintro e w13 ⟨rfl, q', rfl⟩
  have D : Hid (Below w.heap.size w (w11.drewN q')) := (m9.drewN q').done
  clear m9
  go_wp2
  go_ret
  exact ⟨rfl, D.out⟩

end Go.Proofs.Ytphindejlinleaa
