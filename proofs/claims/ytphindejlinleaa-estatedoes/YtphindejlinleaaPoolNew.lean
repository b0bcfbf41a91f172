/-
  The making of a pool (New): ErrRange at -1 where the number of pages is not from 0 to 64, else a pool of so many free pages of noughts; how a pool stays behind a call that owns other blocks; lists of integers in memory.
-/
import Derived.Test.YtphindejlinleaaPool
namespace Go.Proofs.Ytphindejlinleaa
open Go.ChangeShapes Go.WideShapes Go.ChangeAt Go.RowKit
set_option linter.unusedVariables false

theorem PoolAt.step {w w' : World} {b : Nat} {O P P' : Nat → Prop} {s : St} (h : PoolAt w b O s) (k : Step P P' w w') (hd : ∀ x, O x → ¬ P x) : PoolAt w' b O s := by
  obtain ⟨gw, n, vg, hb, hr, hg, ho, how, hn, hok⟩ := h
  exact ⟨gw, n, vg, k.keep hb (hd b ho), hr.of_block (k.block gw hr.lt (hd gw how)), hg.step k hd, ho, how, hn, hok⟩
theorem Step.of_alloc (P : Nat → Prop) (w : World) (o : Obj) : Step P P w (w.alloc o) := (Step.refl P w).alloc o
theorem Step.none_below {w w' : World} (h : Below w.heap.size w w') : Step (fun _ => False) (fun _ => False) w w' := Step.of_below h (fun _ h => h.elim)

theorem new_no (w : World) (n : Int) (h : n < 0 ∨ 64 < n) :
    Calls Try.prog 14 #[.int .i64 n] w fun e w' => e = .returned (.tuple #[.pointer none, .agg #[.int .i64 1, .int .i64 (-1)]]) ∧ Below w.heap.size w w' := by
  rcases h with h | h
  · go_enter Try.func14, Try.ntmps14
    go_wp2
    exact bodyPost_ret (v := .tuple #[.pointer none, .agg #[.int .i64 1, .int .i64 (-1)]]) (by simp [results, Try.results14, go_sem]) rfl ⟨rfl, ((Below.refl _ _).alloc (Nat.le_refl _) _)⟩
  · have h' : ¬ n < 0 := by omega
    go_enter Try.func14, Try.ntmps14
    go_wp2
    exact bodyPost_ret (v := .tuple #[.pointer none, .agg #[.int .i64 1, .int .i64 (-1)]]) (by simp [results, Try.results14, go_sem]) rfl ⟨rfl, ((Below.refl _ _).alloc (Nat.le_refl _) _)⟩

theorem new_done (w : World) (n : Nat) (h : n ≤ 64) (o : Obj) : PoolAt (((w.alloc o).alloc (.cells (madeCells #[.int .i64 0] (n * 16)) 2)).alloc (.cells #[.slice (some ⟨w.heap.size + 1, 0, none⟩) (n * 16) (n * 16), .slice none 0 0, .int .i64 0] 78)) (w.heap.size + 1 + 1)
    (fun x => w.heap.size ≤ x ∧ x < (((w.alloc o).alloc (.cells (madeCells #[.int .i64 0] (n * 16)) 2)).alloc (.cells #[.slice (some ⟨w.heap.size + 1, 0, none⟩) (n * 16) (n * 16), .slice none 0 0, .int .i64 0] 78)).heap.size) (St.new n) := by
  refine ⟨w.heap.size + 1, n * 16, .slice none 0 0, ?_, ?_, Row.nil _ _ _, by simp <;> omega, by simp <;> omega, by simp [St.new] <;> omega, St.ok_new n h⟩
  · have := blockNew ((w.alloc o).alloc (.cells (madeCells #[.int .i64 0] (n * 16)) 2)) #[.slice (some ⟨w.heap.size + 1, 0, none⟩) (n * 16) (n * 16), .slice none 0 0, .int .i64 0] 78
    simp only [World.size_alloc] at this
    exact this
  · have := (World.rowIs_made (w.alloc o) (.int .i64 0) (n * 16) 2).alloc (.cells #[.slice (some ⟨w.heap.size + 1, 0, none⟩) (n * 16) (n * 16), .slice none 0 0, .int .i64 0] 78)
    simp only [World.size_alloc] at this
    exact this

theorem new_yes (w : World) (n : Nat) (h : n ≤ 64) :
    Calls Try.prog 14 #[.int .i64 n] w fun e w' => ∃ b, e = .returned (.tuple #[.pointer (some ⟨b, 0, none⟩), .agg #[.int .i64 0, .int .i64 0]]) ∧ PoolAt w' b (fun x => w.heap.size ≤ x ∧ x < w'.heap.size) (St.new n) ∧ Below w.heap.size w w' := by
  have hmk := run_make_row' (P := Try.prog) 38 2 (.int .i64 0) 8 under_int64s info_int64 rfl .i64 .i64 (n * 16) (by omega) (by omega)
  rw [show ((n * 16 : Nat) : Int) = (n : Int) * 16 by omega] at hmk
  go_enter Try.func14, Try.ntmps14
  go_wp2
  exact bodyPost_ret (v := .tuple #[.pointer (some ⟨w.heap.size + 1 + 1, 0, none⟩), .agg #[.int .i64 0, .int .i64 0]]) (by simp [results, Try.results14, go_sem]) rfl
    ⟨_, rfl, new_done w n h _, (((Below.refl _ _).alloc (Nat.le_refl _) _).alloc (by simp) _).alloc (by simp; omega) _⟩

/-- A slice value whose elements are xs. -/
def Longs (w : World) (v : Value) (xs : List Int) : Prop :=
  ∃ a cap, v = .slice a xs.length cap ∧ ∀ i, i < xs.length → ∃ g o, a = some ⟨g, o, none⟩ ∧ w.cell? ⟨g, o + i, none⟩ = some (.int .i64 (xs.getD i 0))

theorem Row.longs {w : World} {O : Nat → Prop} {t : TypeId} {v : Value} {xs : List Int} (h : Row w O t v xs) : Longs w v xs := by
  obtain ⟨a, cap, rfl, ha, hs⟩ := h.form
  refine ⟨a, cap, rfl, fun i hi => ?_⟩
  cases a with
  | none => rw [(ha rfl).1] at hi; simp at hi
  | some g =>
    obtain ⟨h1, _, _, _, c, hc, _, hi'⟩ := hs _ rfl
    exact ⟨g.block, 0, by rw [← h1], by rw [Nat.zero_add]; exact cellOf hc i _ (hi' i hi)⟩

theorem getD_range (f : Nat → Int) (n i : Nat) (hi : i < n) : ((List.range n).map f).getD i 0 = f i := by simp [List.getD, hi]

theorem rowIs_longs {w : World} {g t n cap : Nat} {f : Nat → Int} (h : w.rowIs g t n (fun i => .int .i64 (f i))) : Longs w (.slice (some ⟨g, 0, none⟩) n cap) ((List.range n).map f) := by
  refine ⟨some ⟨g, 0, none⟩, cap, by simp, fun i hi => ⟨g, 0, rfl, ?_⟩⟩
  have hi' : i < n := by simpa using hi
  rw [Nat.zero_add, getD_range f n i hi']; exact h.cell hi'

theorem Longs.drewN {w : World} {v : Value} {xs : List Int} (h : Longs w v xs) (n : Nat) : Longs (w.drewN n) v xs := h

theorem Longs.below {w w' : World} {v : Value} {xs : List Int} (h : Longs w v xs) (k : Below w.heap.size w w') : Longs w' v xs := by
  obtain ⟨a, cap, rfl, ha⟩ := h
  refine ⟨a, cap, rfl, fun i hi => ?_⟩
  obtain ⟨g, o, e, hc⟩ := ha i hi
  exact ⟨g, o, e, by rw [k.cell (p := ⟨g, o + i, none⟩) (World.block_lt_of_cell? w ⟨g, o + i, none⟩ hc)]; exact hc⟩
theorem Longs.alloc {w : World} {v : Value} {xs : List Int} (h : Longs w v xs) (o : Obj) : Longs (w.alloc o) v xs := h.below ((Below.refl _ _).alloc (Nat.le_refl _) _)

end Go.Proofs.Ytphindejlinleaa
