/-
  typesBegun: the chapter's example: true.
-/
import Derived.Test.YtpcnlplcpoohgabDoorTypSame2
import Derived.Test.YtpcnlplcpoohgabDoorTypCheck
import Derived.Test.YtpcnlplcpoohgabDoorTypRen2
import Derived.Test.YtpcnlplcpoohgabDoorTypText3
namespace Go.Proofs.YtpcnlplcpoohgabDoor
open Go.ChangeShapes Go.WideShapes Go.ChangeAt Go.RowKit
set_option linter.unusedVariables false

/-- The example's type, and it renamed. -/
def T0 : TT 2 := (3, 0, [(1, 0, []), (4, 1, [])])
def U0 : TT 2 := (3, 5, [(1, 0, []), (4, 3, [])])
def nm0 (i : Nat) : Int := if i = 0 then 5 else 3

theorem T0_ren : T0.ren 2 nm0 = some U0 := by kernel_rfl
theorem T0_check2 : T0.check 2 = 0 := by decide +kernel
theorem T0_check1 : T0.check 1 = 1 := by decide +kernel
theorem T0_ne : ¬ T0 = U0 := fun h => by
  have := congrArg TT.r h
  exact absurd this (by decide)
theorem T0_count : T0.count = 3 := by decide +kernel
theorem U0_count : U0.count = 3 := by decide +kernel
theorem U0_ok : U0.ok := ⟨by decide, fun x hx => by
  rcases List.mem_cons.1 hx with rfl | hx
  · exact ⟨by decide, fun y hy => by cases hy⟩
  · rcases List.mem_cons.1 hx with rfl | hx
    · exact ⟨by decide, fun y hy => by cases hy⟩
    · cases hx⟩
theorem itoa3 : Lib.itoa 3 = [51] := by
  have := Lib.decDigits_one (i := 3) (by omega)
  simp [Lib.itoa, this]
theorem itoa5 : Lib.itoa 5 = [53] := by
  have := Lib.decDigits_one (i := 5) (by omega)
  simp [Lib.itoa, this]
theorem U0_txt : U0.txt = [116, 117, 112, 108, 101, 32, 53, 32, 40, 105, 110, 116, 44, 32, 97, 114, 114, 97, 121, 32, 51, 41] := by
  have h : U0.txt = [116, 117, 112, 108, 101, 32] ++ Lib.itoa 5 ++ [32, 40] ++ catL [[105, 110, 116], [97, 114, 114, 97, 121, 32] ++ Lib.itoa 3] ++ [41] := rfl
  rw [h, itoa3, itoa5]
  rfl

/-- What stands: the example's list and type, and the renamed one. -/
structure Beg (w wr : World) (S : Nat) : Prop where
  bel : Below w.heap.size w wr
  lst : wr.heap[S]? = some (.cells #[.int .i64 1, .int .i64 0, .slice none 0 0, .int .i64 4, .int .i64 1, .slice none 0 0] 24 (0, 0))
  typ : wr.heap[S + 1]? = some (.cells #[.int .i64 3, .int .i64 0, .slice (some ⟨S, 0, none⟩) 2 2] 24 (0, 0))
theorem Beg.below {w wr w' : World} {S : Nat} (h : Beg w wr S) (b : Below wr.heap.size wr w') : Beg w w' S := ⟨h.bel.trans (b.mono h.bel.size), box_cells h.lst b, box_cells h.typ b⟩
theorem Beg.tin {w wr : World} {S : Nat} (h : Beg w wr S) : TIn wr All T0 (some ⟨S, 0, none⟩) := by
  intro i x hx
  match i, hx with
  | 0, hx =>
    cases hx
    exact ⟨S, 0, none, 0, rfl, trivial, cellOf h.lst 0 _ rfl, cellOf h.lst 1 _ rfl, cellOf h.lst 2 _ rfl, fun j y hy => by simp at hy⟩
  | 1, hx =>
    cases hx
    exact ⟨S, 0, none, 0, rfl, trivial, cellOf h.lst 3 _ rfl, cellOf h.lst 4 _ rfl, cellOf h.lst 5 _ rfl, fun j y hy => by simp at hy⟩
  | i + 2, hx =>
    rw [List.getElem?_eq_none (show 2 ≤ i + 2 by omega)] at hx
    cases hx
structure Beg2 (w wr : World) (S G : Nat) (a : Option Addr) (c : Nat) : Prop where
  b : Beg w wr S
  box : wr.heap[G]? = some (.cells #[.int .i64 3, .int .i64 5, .slice a 2 c] 24 (0, 0))
  tin : TIn wr All U0 a
theorem Beg2.below {w wr w' : World} {S G : Nat} {a : Option Addr} {c : Nat} (h : Beg2 w wr S G a c) (b : Below wr.heap.size wr w') : Beg2 w w' S G a c := ⟨h.b.below b, box_cells h.box b, h.tin.below b⟩

theorem to0 (w : World) : ToIn (w.alloc (.cells #[.int .i64 5, .int .i64 3] 3)) (some ⟨w.heap.size, 0, none⟩) 2 nm0 := fun i hi => by
  refine ⟨_, _, rfl, ?_⟩
  match i, hi with
  | 0, _ => exact cellOf (blockNew w _ _) 0 _ rfl
  | 1, _ => exact cellOf (blockNew w _ _) 1 _ rfl
theorem beg0 (w : World) : Beg w ((w.alloc (.cells #[.int .i64 1, .int .i64 0, .slice none 0 0, .int .i64 4, .int .i64 1, .slice none 0 0] 24)).alloc (.cells #[.int .i64 3, .int .i64 0, .slice (some ⟨w.heap.size, 0, none⟩) 2 2] 24)) w.heap.size := by
  refine ⟨((Below.refl _ w).alloc (Nat.le_refl _) _).alloc (by simp) _, (Below.heap_alloc _ _ _ (by simp)).trans (blockNew w _ _), ?_⟩
  have := blockNew (w.alloc (.cells #[.int .i64 1, .int .i64 0, .slice none 0 0, .int .i64 4, .int .i64 1, .slice none 0 0] 24)) #[.int .i64 3, .int .i64 0, .slice (some ⟨w.heap.size, 0, none⟩) 2 2] 24
  simpa using this

set_option maxHeartbeats 4000000 in
set_option maxRecDepth 100000 in
theorem begun_any (w : World) (hp0 : Pows w) : Calls Tryd.prog 5 #[] w fun e w' => e = .returned (.bool true) ∧ Below w.heap.size w w' := by
  have hp : Hid (Pows w) := hp0
  clear hp0
  go_enter Tryd.func5, Tryd.ntmps5
  go_wp2_with fail
  have B0 := beg0 w
  have hs : ((w.alloc (.cells #[.int .i64 1, .int .i64 0, .slice none 0 0, .int .i64 4, .int .i64 1, .slice none 0 0] 24)).alloc (.cells #[.int .i64 3, .int .i64 0, .slice (some ⟨w.heap.size, 0, none⟩) 2 2] 24)).heap.size = w.heap.size + 1 + 1 := by simp
  generalize (w.alloc (.cells #[.int .i64 1, .int .i64 0, .slice none 0 0, .int .i64 4, .int .i64 1, .slice none 0 0] 24)).alloc (.cells #[.int .i64 3, .int .i64 0, .slice (some ⟨w.heap.size, 0, none⟩) 2 2] 24) = w1 at B0 hs ⊢
  have b1 : Below w1.heap.size w1 (w1.alloc (.cells #[.int .i64 5, .int .i64 3] 3)) := (Below.refl _ w1).alloc (Nat.le_refl _) _
  have T1 := to0 w1
  rw [hs] at T1
  have B1 : Hid (Beg w (w1.alloc (.cells #[.int .i64 5, .int .i64 3] 3)) w.heap.size) := B0.below b1
  generalize w1.alloc (.cells #[.int .i64 5, .int .i64 3] 3) = w2 at B1 T1 ⊢
  refine (rename_any 2 T0 (some ⟨w.heap.size, 0, none⟩) 2 (some ⟨w.heap.size + 1 + 1, 0, none⟩) 2 2 nm0 w2 B1.out.tin (by rw [T0_count]; omega) T1).mono ?_
  rintro e w3 h3
  rw [T0_ren] at h3
  obtain ⟨a3, c3, rfl, t3, b3⟩ := h3
  have B3 := B1.out.below b3
  have hsz3 : w.heap.size + 1 < w3.heap.size := lt_of_block B3.typ
  have Y0 : Hid (Beg2 w (w3.alloc (.cells #[.int .i64 3, .int .i64 5, .slice a3 2 c3] 24)) w.heap.size w3.heap.size a3 c3) :=
    ⟨B3.below ((Below.refl _ w3).alloc (Nat.le_refl _) _), blockNew w3 _ _, (t3.alloc _).all⟩
  have e0 : w3.cell? ⟨w.heap.size + 1, 0, none⟩ = some (.int .i64 3) := cellOf B3.typ 0 _ rfl
  have e1 : w3.cell? ⟨w.heap.size + 1, 1, none⟩ = some (.int .i64 0) := cellOf B3.typ 1 _ rfl
  have e2 : w3.cell? ⟨w.heap.size + 1, 2, none⟩ = some (.slice (some ⟨w.heap.size, 0, none⟩) 2 2) := cellOf B3.typ 2 _ rfl
  clear B0 hs b1 T1 B1 B3 t3 b3
  simp only [Tv]
  rw [show U0.kind = 3 from rfl, show U0.r = 5 from rfl, show U0.len = 2 from rfl]
  go_wp2_with fail
  generalize w3.alloc (.cells #[.int .i64 3, .int .i64 5, .slice a3 2 c3] 24) = w4 at Y0 ⊢
  generalize w3.heap.size = G at Y0 ⊢
  clear e0 e1 e2 hsz3
  refine (check_any 2 T0 (some ⟨w.heap.size, 0, none⟩) 2 2 w4 Y0.out.b.tin (by rw [T0_count]; omega)).mono ?_
  rw [T0_check2]
  rintro e w5 ⟨rfl, b5⟩
  have Y5 : Hid (Beg2 w w5 w.heap.size G a3 c3) := Y0.out.below b5
  have e0 : w5.cell? ⟨w.heap.size + 1, 0, none⟩ = some (.int .i64 3) := cellOf Y5.out.b.typ 0 _ rfl
  have e1 : w5.cell? ⟨w.heap.size + 1, 1, none⟩ = some (.int .i64 0) := cellOf Y5.out.b.typ 1 _ rfl
  have e2 : w5.cell? ⟨w.heap.size + 1, 2, none⟩ = some (.slice (some ⟨w.heap.size, 0, none⟩) 2 2) := cellOf Y5.out.b.typ 2 _ rfl
  clear b5 Y0
  go_wp2_with fail
  refine (check_any 2 T0 (some ⟨w.heap.size, 0, none⟩) 2 1 w5 Y5.out.b.tin (by rw [T0_count]; omega)).mono ?_
  rw [T0_check1]
  rintro e w6 ⟨rfl, b6⟩
  have Y6 : Hid (Beg2 w w6 w.heap.size G a3 c3) := Y5.out.below b6
  clear e0 e1 e2 b6 Y5
  have e0 : w6.cell? ⟨w.heap.size + 1, 0, none⟩ = some (.int .i64 3) := cellOf Y6.out.b.typ 0 _ rfl
  have e1 : w6.cell? ⟨w.heap.size + 1, 1, none⟩ = some (.int .i64 0) := cellOf Y6.out.b.typ 1 _ rfl
  have e2 : w6.cell? ⟨w.heap.size + 1, 2, none⟩ = some (.slice (some ⟨w.heap.size, 0, none⟩) 2 2) := cellOf Y6.out.b.typ 2 _ rfl
  have g0 : w6.cell? ⟨G, 0, none⟩ = some (.int .i64 3) := cellOf Y6.out.box 0 _ rfl
  have g1 : w6.cell? ⟨G, 1, none⟩ = some (.int .i64 5) := cellOf Y6.out.box 1 _ rfl
  have g2 : w6.cell? ⟨G, 2, none⟩ = some (.slice a3 2 c3) := cellOf Y6.out.box 2 _ rfl
  go_wp2_with fail
  refine (same_any 2 T0 U0 (some ⟨w.heap.size, 0, none⟩) a3 2 c3 w6 Y6.out.b.tin Y6.out.tin (by rw [T0_count]; omega)).mono ?_
  rintro e w7 ⟨⟨q, rfl, hq⟩, b7⟩
  have hq' : q = false := by
    cases q with
    | false => rfl
    | true => exact absurd (hq.1 rfl) T0_ne
  subst hq'
  have Y7 : Hid (Beg2 w w7 w.heap.size G a3 c3) := Y6.out.below b7
  clear e0 e1 e2 b7 Y6 hq g0 g1 g2
  have g0 : w7.cell? ⟨G, 0, none⟩ = some (.int .i64 3) := cellOf Y7.out.box 0 _ rfl
  have g1 : w7.cell? ⟨G, 1, none⟩ = some (.int .i64 5) := cellOf Y7.out.box 1 _ rfl
  have g2 : w7.cell? ⟨G, 2, none⟩ = some (.slice a3 2 c3) := cellOf Y7.out.box 2 _ rfl
  go_wp2_with fail
  refine (text_any 2 U0 a3 c3 w7 Y7.out.tin (by rw [U0_count]; omega) U0_ok (hp.out.below Y7.out.b.bel)).mono ?_
  rw [U0_txt]
  rintro e w8 ⟨rfl, b8⟩
  have Y8 : Hid (Beg2 w w8 w.heap.size G a3 c3) := Y7.out.below b8
  clear b8 Y7 g0 g1 g2
  go_wp2
  go_ret
  exact ⟨rfl, Y8.out.b.bel⟩
end Go.Proofs.YtpcnlplcpoohgabDoor
