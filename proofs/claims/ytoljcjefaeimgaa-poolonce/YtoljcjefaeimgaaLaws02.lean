/-
  What the statements on the pool call first: poolBegun answers true, poolGreat whether there are more than 500 steps.
-/
import Derived.Test.YtoljcjefaeimgaaPages
import Derived.Deep.RegionWith
import Derived.Deep.DrawnRows
namespace Go.Proofs.Ytoljcjefaeimgaa
open Go.ChangeShapes Go.WideShapes Go.ChangeAt Go.RowKit
set_option linter.unusedVariables false

theorem PoolAt.step {w w' : World} {b : Nat} {O P P' : Nat → Prop} {s : St} (h : PoolAt w b O s) (k : Step P P' w w') (hd : ∀ x, O x → ¬ P x) : PoolAt w' b O s := by
  obtain ⟨gw, n, vg, hb, hr, hg, ho, how, hn, hok⟩ := h
  exact ⟨gw, n, vg, k.keep hb (hd b ho), hr.of_block (k.block gw hr.lt (hd gw how)), hg.step k hd, ho, how, hn, hok⟩
theorem PagesAt.step {w w' : World} {b : Nat} {O P P' : Nat → Prop} {s : St} (h : PagesAt w b O s) (k : Step P P' w w') (hd : ∀ x, O x → ¬ P x) : PagesAt w' b O s := by
  obtain ⟨gw, n, vg, hb, hr, hg, ho, how, hn, hok⟩ := h
  exact ⟨gw, n, vg, k.keep hb (hd b ho), hr.of_block (k.block gw hr.lt (hd gw how)), hg.step k hd, ho, how, hn, hok⟩
theorem Step.of_alloc (P : Nat → Prop) (w : World) (o : Obj) : Step P P w (w.alloc o) := (Step.refl P w).alloc o
theorem Step.none_below {w w' : World} (h : Below w.heap.size w w') : Step (fun _ => False) (fun _ => False) w w' := Step.of_below h (fun _ h => h.elim)

/-- A pool that was made since w0, and nothing older has turned. -/
def Mine (w0 w : World) (b : Nat) (s : St) : Prop := ∃ O, PoolAt w b O s ∧ (∀ x, O x → w0.heap.size ≤ x) ∧ Below w0.heap.size w0 w

theorem Mine.below {w0 w w' : World} {b : Nat} {s : St} (h : Mine w0 w b s) (k : Below w.heap.size w w') : Mine w0 w' b s := by
  obtain ⟨O, h1, h2, h3⟩ := h
  exact ⟨O, h1.step (Step.none_below k) (fun _ _ h => h), h2, h3.trans (k.mono h3.size)⟩
theorem Mine.alloc {w0 w : World} {b : Nat} {s : St} (h : Mine w0 w b s) (o : Obj) : Mine w0 (w.alloc o) b s := h.below ((Below.refl _ _).alloc (Nat.le_refl _) _)
theorem Mine.drewN {w0 w : World} {b : Nat} {s : St} (h : Mine w0 w b s) (n : Nat) : Mine w0 (w.drewN n) b s := by
  obtain ⟨O, h1, h2, h3⟩ := h
  exact ⟨O, h1, h2, ⟨h3.os, h3.tape, h3.output, h3.size, h3.block⟩⟩
theorem Mine.drew {w0 w : World} {b : Nat} {s : St} (h : Mine w0 w b s) : Mine w0 w.drew b s := h.drewN 1
theorem Mine.done {w0 w : World} {b : Nat} {s : St} (h : Mine w0 w b s) : Below w0.heap.size w0 w := by
  obtain ⟨O, h1, h2, h3⟩ := h
  exact h3

theorem take_mine {w0 w : World} {b : Nat} {s : St} (h : Mine w0 w b s) :
    Calls Try.prog 14 #[.pointer (some ⟨b, 0, none⟩)] w fun e w' => e = .returned (.int .i64 s.nextK) ∧ Mine w0 w' b s.take := by
  obtain ⟨O, h1, h2, h3⟩ := h
  refine (take_any w b O s h1).mono ?_
  rintro e w' ⟨rfl, h4, h5⟩
  exact ⟨rfl, O, h4, h2, h3.trans (h5.below h3.size h2)⟩
theorem give_mine {w0 w : World} {b : Nat} {s : St} (k : Int) (h : Mine w0 w b s) :
    Calls Try.prog 16 #[.pointer (some ⟨b, 0, none⟩), .int .i64 k] w fun e w' => e = .returned (.bool (s.took k)) ∧ Mine w0 w' b (s.give k) := by
  obtain ⟨O, h1, h2, h3⟩ := h
  refine (give_any w b O s k h1).mono ?_
  rintro e w' ⟨rfl, h4, h5⟩
  refine ⟨rfl, _, h4, ?_, h3.trans (h5.below h3.size h2)⟩
  intro x hx
  rcases hx.1 with h | h
  · exact h2 x h
  · have := h3.size; omega
theorem store_mine {w0 w : World} {b : Nat} {s : St} (k x : Int) (h : Mine w0 w b s) :
    Calls Try.prog 18 #[.pointer (some ⟨b, 0, none⟩), .int .i64 k, .int .i64 x] w fun e w' => e = .returned (.bool (s.place k)) ∧ Mine w0 w' b (s.store k x) := by
  obtain ⟨O, h1, h2, h3⟩ := h
  refine (store_any w b O s k x h1).mono ?_
  rintro e w' ⟨rfl, h4, h5⟩
  exact ⟨rfl, O, h4, h2, h3.trans (h5.below h3.size h2)⟩
theorem free_mine {w0 w : World} {b : Nat} {s : St} (h : Mine w0 w b s) :
    Calls Try.prog 22 #[.pointer (some ⟨b, 0, none⟩)] w fun e w' => e = .returned (.int .i64 s.free) ∧ Mine w0 w' b s := by
  have hh := h
  obtain ⟨O, h1, h2, h3⟩ := h
  refine (free_any w b O s h1).mono ?_
  rintro e w' ⟨rfl, m, rfl⟩
  exact ⟨rfl, hh.drewN m⟩
theorem words_mine {w0 w : World} {b : Nat} {s : St} (h : Mine w0 w b s) :
    Calls Try.prog 21 #[.pointer (some ⟨b, 0, none⟩)] w fun e w' => ∃ v, e = .returned v ∧ Longs w' v ((List.range (16 * s.pages)).map s.ws) ∧ Below w.heap.size w w' ∧ Mine w0 w' b s := by
  have hh := h
  obtain ⟨O, h1, h2, h3⟩ := h
  refine (words_any w b O s h1).mono ?_
  rintro e w' ⟨v, rfl, h4, h5⟩
  exact ⟨v, rfl, h4.longs, h5, hh.below h5⟩

theorem great_any (w : World) (a : Option Addr) (len cap : Nat) : Calls Try.prog 11 #[.slice a len cap] w fun e w' => e = .returned (.bool (decide (500 < (len : Int)))) ∧ w' = w := by
  go_enter Try.func11, Try.ntmps11
  go_wp2
  go_ret
  exact ⟨rfl, rfl⟩

theorem Mine.of_new {w w1 : World} {b : Nat} {n : Nat} (h : PoolAt w1 b (fun x => w.heap.size ≤ x ∧ x < w1.heap.size) (St.new n)) (k : Below w.heap.size w w1) : Mine w w1 b (St.new n) := ⟨_, h, fun _ h => h.1, k⟩

/-- The pool of poolBegun, as it goes. -/
def s0 : St := St.new 2
def s1 : St := s0.take
def s2 : St := s1.take
def s3 : St := s2.take
def s4 : St := s3.give 0
def s5 : St := s4.give 0
def s6 : St := s5.store 0 5
def s7 : St := s6.take
theorem k0 : s0.nextK = 0 := by decide
theorem k1 : s1.nextK = 1 := by decide
theorem k2 : s2.nextK = -1 := by decide
theorem t3 : s3.took 0 = true := by decide
theorem t4 : s4.took 0 = false := by decide
theorem p5 : s5.place 0 = true := by decide
theorem k6 : s6.nextK = 0 := by decide
theorem f7 : s7.free = 0 := by decide
theorem g7 : s7.pages = 2 := by decide
theorem w7 : (List.range 32).map s7.ws = List.replicate 32 0 := by decide

theorem Longs.below {w w' : World} {v : Value} {xs : List Int} (h : Longs w v xs) (k : Below w.heap.size w w') : Longs w' v xs := by
  obtain ⟨a, cap, rfl, ha⟩ := h
  refine ⟨a, cap, rfl, fun i hi => ?_⟩
  obtain ⟨g, o, e, hc⟩ := ha i hi
  exact ⟨g, o, e, by rw [k.cell (p := ⟨g, o + i, none⟩) (World.block_lt_of_cell? w ⟨g, o + i, none⟩ hc)]; exact hc⟩
theorem Longs.alloc {w : World} {v : Value} {xs : List Int} (h : Longs w v xs) (o : Obj) : Longs (w.alloc o) v xs := h.below ((Below.refl _ _).alloc (Nat.le_refl _) _)

/-- The words of two pages that make answers. -/
def blank : Array Value := madeCells #[.int .i64 0] 32
theorem blank_longs (w : World) : Longs (w.alloc (.cells blank 2)) (.slice (some ⟨w.heap.size, 0, none⟩) 32 32) (List.replicate 32 0) := by
  have h := rowIs_longs (cap := 32) (f := fun _ => 0) (World.rowIs_made w (.int .i64 0) 32 2)
  have e : (List.range 32).map (fun _ => (0 : Int)) = List.replicate 32 0 := by decide
  rw [e] at h; exact h
theorem make32 (w : World) : (Instr.makeSlice 38 (.int .i64 32) (.int .i64 32)).run Try.prog w = .ok (.slice (some ⟨w.heap.size, 0, none⟩) 32 32) (w.alloc (.cells blank 2)) :=
  run_make_row' (P := Try.prog) 38 2 (.int .i64 0) 8 under_int64s info_int64 rfl .i64 .i64 32 (by omega) (by omega) w
theorem words7 {w : World} {v : Value} (h : Longs w v ((List.range (16 * s7.pages)).map s7.ws)) : Longs w v (List.replicate 32 0) := by
  rw [g7, show 16 * 2 = 32 from rfl, w7] at h; exact h

set_option maxHeartbeats 1600000 in
theorem begun_any (w : World) : Calls Try.prog 10 #[] w fun e w' => e = .returned (.bool true) ∧ Below w.heap.size w w' := by
  go_enter Try.func10, Try.ntmps10
  go_wp2_with fail
  refine (new_yes _ 2 (by omega)).mono ?_
  rintro e w1 ⟨b, rfl, h1, h2⟩
  have m0 : Mine w w1 b s0 := Mine.of_new h1 h2
  clear h1 h2
  go_wp2_with fail
  refine (take_mine (m0.alloc _)).mono ?_
  rw [k0]
  rintro e w2 ⟨rfl, m1⟩
  clear m0
  go_wp2_with fail
  refine (take_mine (s := s1) m1).mono ?_
  rw [k1]
  rintro e w3 ⟨rfl, m2⟩
  clear m1
  go_wp2_with fail
  refine (take_mine (s := s2) m2).mono ?_
  rw [k2]
  rintro e w4 ⟨rfl, m3⟩
  clear m2
  go_wp2_with fail
  refine (give_mine (s := s3) 0 m3).mono ?_
  rw [t3]
  rintro e w5 ⟨rfl, m4⟩
  clear m3
  go_wp2_with fail
  refine (give_mine (s := s4) 0 m4).mono ?_
  rw [t4]
  rintro e w6 ⟨rfl, m5⟩
  clear m4
  go_wp2_with fail
  refine (store_mine (s := s5) 0 5 m5).mono ?_
  rw [p5]
  rintro e w7 ⟨rfl, m6⟩
  clear m5
  go_wp2_with fail
  have hmk := make32
  go_region_with (first
    | (go_at_call 14; refine (take_mine (w0 := w) (s := s6) (by first | exact m6 | exact m6.drew)).mono ?_; rw [k6]; rintro e w8 ⟨rfl, m7⟩)
    | (go_at_call 22; refine (free_mine (w0 := w) (s := s7) (by exact m7)).mono ?_; rw [f7]; rintro e w9 ⟨rfl, m8⟩)
    | (go_at_call 21; refine (words_mine (w0 := w) (s := s7) (by first | exact m8 | exact m8.alloc _)).mono ?_; rintro e w10 ⟨v, rfl, hv, hb, m9⟩)
    | (go_at_call 20; refine (same_any _ _ _ (List.replicate 32 0) (by first | exact words7 hv | exact (words7 hv).alloc _) (by first | exact blank_longs _ | exact (blank_longs _).below hb) (by simp)).mono ?_; rintro e w11 ⟨rfl, m, rfl⟩))
  all_goals
    go_wp2
    go_ret
    refine ⟨rfl, ?_⟩
    first | exact ((m9.alloc _).drewN _).done | exact (m9.drewN _).done

end Go.Proofs.Ytoljcjefaeimgaa
