/-
  The walk of PoolDoes: called with any number of pages and any steps it returns true and leaves what was there as it was.
-/
import Derived.Test.YtoljcjefaeimgaaBoth
import Derived.Deep.DeepCutAuto
import Derived.Deep.CutBlock
namespace Go.Proofs.Ytoljcjefaeimgaa
open Go.ChangeShapes Go.WideShapes Go.ChangeAt Go.RowKit
set_option linter.unusedVariables false

/-- The steps as they lie: the address, and of each its three numbers. -/
structure Steps (w : World) (a : Option Addr) (len : Nat) (D K N : Nat → Int) : Prop where
  at_ : ∀ i, i < len → ∃ g o, a = some ⟨g, o, none⟩ ∧ w.cell? ⟨g, o + i * 3, none⟩ = some (.int .i64 (D i)) ∧ w.cell? ⟨g, o + i * 3 + 1, none⟩ = some (.int .i64 (K i)) ∧ w.cell? ⟨g, o + i * 3 + 2, none⟩ = some (.int .i64 (N i))

theorem Both.start {w w1 w2 : World} {bp br n : Nat} {o : Obj} (h1 : PoolAt w1 bp (fun x => w.heap.size ≤ x ∧ x < w1.heap.size) (St.new n)) (k1 : Below w.heap.size w w1)
    (h2 : PagesAt w2 br (fun x => (w1.alloc o).heap.size ≤ x ∧ x < w2.heap.size) (St.new n)) (k2 : Below (w1.alloc o).heap.size (w1.alloc o) w2) : Both w w2 bp br (fun _ => False) (St.new n) (St.new n) := by
  have k3 : Below w1.heap.size w1 (w1.alloc o) := (Below.refl _ _).alloc (Nat.le_refl _) _
  have k4 : Below w1.heap.size w1 w2 := k3.trans (k2.mono (by simp))
  have z1 := k1.size
  have z2 := k4.size
  refine ⟨_, _, h1.step (Step.none_below k4) (fun _ _ h => h), h2, ?_, ?_, ?_, fun _ h => h.elim, k1.trans (k4.mono z1)⟩
  · rintro x ⟨_, h⟩ ⟨h', _⟩; simp at h'; omega
  · rintro x ⟨h, h'⟩; omega
  · rintro x ⟨h, h'⟩; simp at h; omega

theorem does_no (w : World) (pages : Int) (a : Option Addr) (len cap : Nat) (hlen : ¬ 500 < (len : Int)) (h : pages < 0 ∨ 64 < pages) :
    Calls Try.prog 5 #[.int .i64 pages, .slice a len cap] w fun e w' => e = .returned (.bool true) ∧ Below w.heap.size w w' := by
  have hd : decide (500 < (len : Int)) = false := by simpa using hlen
  rcases h with h | h
  · go_enter Try.func5, Try.ntmps5
    go_wp2_with fail
    refine (begun_any _).mono ?_
    rintro e w1 ⟨rfl, b1⟩
    go_wp2_with fail
    refine (great_any _ _ _ _).mono ?_
    rintro e w1 ⟨rfl, rfl⟩
    go_wp2_with fail
    refine (new_no _ _ (Or.inl h)).mono ?_
    rintro e w2 ⟨rfl, b2⟩
    go_wp2
    go_ret
    exact ⟨rfl, (b1.trans (b2.mono b1.size)).alloc (by have := b1.size; have := b2.size; omega) _⟩
  · have h' : ¬ pages < 0 := by omega
    go_enter Try.func5, Try.ntmps5
    go_wp2_with fail
    refine (begun_any _).mono ?_
    rintro e w1 ⟨rfl, b1⟩
    go_wp2_with fail
    refine (great_any _ _ _ _).mono ?_
    rintro e w1 ⟨rfl, rfl⟩
    go_wp2_with fail
    refine (new_no _ _ (Or.inr h)).mono ?_
    rintro e w2 ⟨rfl, b2⟩
    go_wp2
    go_ret
    exact ⟨rfl, (b1.trans (b2.mono b1.size)).alloc (by have := b1.size; have := b2.size; omega) _⟩

theorem does_great (w : World) (pages : Int) (a : Option Addr) (len cap : Nat) (hlen : 500 < (len : Int)) :
    Calls Try.prog 5 #[.int .i64 pages, .slice a len cap] w fun e w' => e = .returned (.bool true) ∧ Below w.heap.size w w' := by
  have hd : decide (500 < (len : Int)) = true := by simpa using hlen
  go_enter Try.func5, Try.ntmps5
  go_wp2_with fail
  refine (begun_any _).mono ?_
  rintro e w1 ⟨rfl, b1⟩
  go_wp2_with fail
  refine (great_any _ _ _ _).mono ?_
  rintro e w1 ⟨rfl, rfl⟩
  go_wp2
  go_ret
  exact ⟨rfl, b1⟩

set_option maxRecDepth 100000 in
set_option maxHeartbeats 4000000 in
theorem does_yes (w : World) (n : Nat) (hn : n ≤ 64) (a : Option Addr) (len cap : Nat) (hlen : ¬ 500 < (len : Int)) (D K N : Nat → Int) (hl : Steps w a len D K N) :
    Calls Try.prog 5 #[.int .i64 n, .slice a len cap] w fun e w' => e = .returned (.bool true) ∧ Below w.heap.size w w' := by
  have hd : decide (500 < (len : Int)) = false := by simpa using hlen
  have hL : Hid (Steps w a len D K N) := hl
  clear hl
  go_enter Try.func5, Try.ntmps5
  go_wp2_with fail
  refine (begun_any _).mono ?_
  rintro e w1 ⟨rfl, b1⟩
  go_wp2_with fail
  refine (great_any _ _ _ _).mono ?_
  rintro e w1 ⟨rfl, rfl⟩
  go_wp2_with fail
  refine (new_yes _ n hn).mono ?_
  rintro e w2 ⟨bp, rfl, p1, b2⟩
  go_wp2_with fail
  refine (pnew_any _ n hn).mono ?_
  rintro e w3 ⟨br, rfl, p2, b3⟩
  have B0 := Both.start p1 b2 p2 b3
  have B1 : ∃ s : St, s.pages = n ∧ Both w1 w3 bp br (fun _ => False) s s := ⟨_, rfl, B0⟩
  clear p1 p2 b2 b3 B0 hd
  go_wp2_with fail
  go_loopw [8] (fun i wr => ∃ k : Nat, k ≤ len ∧ i = .int .i64 k ∧ ∃ s : St, s.pages = n ∧ Both w1 wr bp br (fun _ => False) s s) (fun i _ => len - (intOf i).toNat)
  case atStart => exact ⟨0, Nat.zero_le _, rfl, B1⟩
  case round =>
    clear B1
    obtain ⟨k, hk, rfl, s, hs, hB⟩ := hrel
    by_cases hlt : k < len
    · obtain ⟨g, o, rfl, d0, d1, d2⟩ := hL.out.at_ k hlt
      have hbl := b1.trans (hB.done.mono b1.size)
      have d0' : wr.cell? ⟨g, o + k * 3, none⟩ = some (.int .i64 (D k)) := (hbl.cell (p := ⟨g, o + k * 3, none⟩) (World.block_lt_of_cell? w ⟨g, o + k * 3, none⟩ d0)).trans d0
      have d1' : wr.cell? ⟨g, o + k * 3 + 1, none⟩ = some (.int .i64 (K k)) := (hbl.cell (p := ⟨g, o + k * 3 + 1, none⟩) (World.block_lt_of_cell? w ⟨g, o + k * 3 + 1, none⟩ d1)).trans d1
      have d2' : wr.cell? ⟨g, o + k * 3 + 2, none⟩ = some (.int .i64 (N k)) := (hbl.cell (p := ⟨g, o + k * 3 + 2, none⟩) (World.block_lt_of_cell? w ⟨g, o + k * 3 + 2, none⟩ d2)).trans d2
      clear d0 d1 d2 hbl
      obtain ⟨x, hx⟩ : ∃ x, D k = x := ⟨_, rfl⟩
      obtain ⟨y, hy⟩ : ∃ y, K k = y := ⟨_, rfl⟩
      obtain ⟨z, hz⟩ : ∃ z, N k = z := ⟨_, rfl⟩
      rw [hx] at d0'
      rw [hy] at d1'
      rw [hz] at d2'
      clear hx hy hz
      have BB : Hid (Both w1 wr bp br (fun _ => False) s s) := hB
      have hs1 : Hid (s.pages = n) := hs
      clear hB hs
      go_upto_region 15 with fail
      obtain ⟨w4, hw4⟩ : ∃ w4, wr.alloc (.cells #[.int .i64 x, .int .i64 y, .int .i64 z] 37) = w4 := ⟨_, rfl⟩
      obtain ⟨X, hX⟩ : ∃ X, wr.heap.size = X := ⟨_, rfl⟩
      have B4 : Hid (Both w1 w4 bp br (fun q => q = X) s s) := by rw [← hw4, ← hX]; exact BB.out.alloc _
      have x4 : Hid (w4.heap[X]? = some (.cells #[.int .i64 x, .int .i64 y, .int .i64 z] 37 (0, 0))) := by show _ = _; rw [← hw4, ← hX]; exact blockNew _ _ _
      rw [hw4, hX]
      clear hw4 hX BB d0' d1' d2'
      have e0 : w4.cell? ⟨X, 0, none⟩ = some (.int .i64 x) := cellOf x4.out 0 _ rfl
      have e1 : w4.cell? ⟨X, 1, none⟩ = some (.int .i64 y) := cellOf x4.out 1 _ rfl
      have e2 : w4.cell? ⟨X, 2, none⟩ = some (.int .i64 z) := cellOf x4.out 2 _ rfl
      obtain ⟨gw, nw, cw, hw1, hw2, hw3, W⟩ := B4.out.words
      rw [hs1.out] at hw1 hw2
      go_cut [10] (fun c wx => c = .bool (s.place y) ∧ ∃ m, wx = w4.drewN m)
      case first =>
        by_cases h1 : 0 ≤ y
        · by_cases h2 : y < (nw : Int)
          · have E : Hid (s.place y = true) := by show _ = _; simp [St.place, hs1.out]; omega
            go_quiet (fail)
            go_wp2
            go_meet
            exact ⟨by rw [E.out], _, rfl⟩
          · have E : Hid (s.place y = false) := by show _ = _; simp [St.place, hs1.out]; omega
            go_quiet (fail)
            go_wp2
            go_meet
            exact ⟨by rw [E.out], _, rfl⟩
        · have E : Hid (s.place y = false) := by show _ = _; simp [St.place]; omega
          have h1' : decide (0 ≤ y) = false := by simpa using h1
          go_quiet (fail)
          go_wp2
          go_meet
          exact ⟨by rw [E.out], _, rfl⟩
      case rest =>
        obtain ⟨rfl, m, rfl⟩ := hcut
        have B5 : Hid (Both w1 (w4.drewN m) bp br (fun q => q = X) s s) := B4.out.drewN m
        obtain ⟨w5, hw5⟩ : ∃ w5, w4.drewN m = w5 := ⟨_, rfl⟩
        have e0' : w5.cell? ⟨X, 0, none⟩ = some (.int .i64 x) := by rw [← hw5]; exact e0
        have e1' : w5.cell? ⟨X, 1, none⟩ = some (.int .i64 y) := by rw [← hw5]; exact e1
        have e2' : w5.cell? ⟨X, 2, none⟩ = some (.int .i64 z) := by rw [← hw5]; exact e2
        have x5 : Hid (w5.heap[X]? = some (.cells #[.int .i64 x, .int .i64 y, .int .i64 z] 37 (0, 0))) := by show _ = _; rw [← hw5]; exact x4.out
        rw [hw5] at B5 ⊢
        clear hw5 e0 e1 e2 x4 B4 cw W
        by_cases c0 : x = 0
        · have c0' : (x == 0) = true := by simpa using c0
          clear c0
          go_wp2_with fail
          refine (take_both B5.out).mono ?_
          rintro e w6 ⟨rfl, q1, q2⟩
          go_wp2_with fail
          refine (ptake_both q1).mono ?_
          rintro e w7 ⟨rfl, q3, q4⟩
          go_wp2_with fail
          refine (free_both q3).mono ?_
          rintro e w8 ⟨rfl, m8, rfl⟩
          go_wp2_with fail
          refine (pfree_both (q3.drewN m8)).mono ?_
          rintro e w9 ⟨rfl, m9, rfl⟩
          have Q : Hid (∃ s', s'.pages = n ∧ Both w1 (w7.drewN (m8 + m9)) bp br (fun _ => False) s' s') := ⟨s.take, by rw [St.pages_take]; exact hs1.out, (q3.drewN (m8 + m9)).forget⟩
          clear q3
          go_wp2
          go_roundw
          case rel => exact ⟨k + 1, by omega, by go_num, Q.out⟩
          case measure => simp [intOf]; omega
        have c0' : (x == 0) = false := by simpa using c0
        clear c0
        by_cases c1 : x = 1
        · have c1' : (x == 1) = true := by simpa using c1
          clear c1
          go_upto_region 21 with fail
          go_cut [78] (fun c wx => c = .bool false ∧ Both w1 wx bp br (fun q => q = X) (s.give y) (s.give y))
          case first =>
            go_region_with (first
              | (go_at_call 16; refine (give_both y (by first | exact B5.out | exact B5.out.drew)).mono ?_; rintro e w6 ⟨rfl, q1, q2⟩; have x6 : w6.cell? ⟨X, 1, none⟩ = some (.int .i64 y) := cellOf ((q2 X rfl).trans x5.out) 1 _ rfl)
              | (go_at_call 17; refine (pgive_both y q1).mono ?_; rintro e w7 ⟨rfl, q3, q4⟩))
            all_goals
              go_wp2
              go_meet
              exact ⟨by simp, q3⟩
          case rest =>
          obtain ⟨rfl, q3⟩ := hcut
          go_wp2_with fail
          refine (free_both q3).mono ?_
          rintro e w8 ⟨rfl, m8, rfl⟩
          go_wp2_with fail
          refine (pfree_both (q3.drewN m8)).mono ?_
          rintro e w9 ⟨rfl, m9, rfl⟩
          have Q : Hid (∃ s', s'.pages = n ∧ Both w1 (wc.drewN (m8 + m9)) bp br (fun _ => False) s' s') := ⟨s.give y, by rw [St.pages_give]; exact hs1.out, (q3.drewN (m8 + m9)).forget⟩
          clear q3
          go_wp2
          go_roundw
          case rel => exact ⟨k + 1, by omega, by go_num, Q.out⟩
          case measure => simp [intOf]; omega
        have c1' : (x == 1) = false := by simpa using c1
        clear c1
        by_cases c2 : x = 2
        · have c2' : (x == 2) = true := by simpa using c2
          clear c2
          cases hpl : s.place y with
          | false =>
          have E : Hid (s.store y z = s) := by show _ = _; simp [St.store, hpl]
          go_wp2_with fail
          refine (store_both y z B5.out).mono ?_
          rw [hpl]
          rintro e w6 ⟨rfl, q1, q2⟩
          rw [E.out] at q1
          clear q2
          go_wp2_with fail
          refine (free_both q1).mono ?_
          rintro e w8 ⟨rfl, m8, rfl⟩
          go_wp2_with fail
          refine (pfree_both (q1.drewN m8)).mono ?_
          rintro e w9 ⟨rfl, m9, rfl⟩
          have Q : Hid (∃ s', s'.pages = n ∧ Both w1 (w6.drewN (m8 + m9)) bp br (fun _ => False) s' s') := ⟨s, hs1.out, (q1.drewN (m8 + m9)).forget⟩
          clear q1
          go_wp2
          go_roundw
          case rel => exact ⟨k + 1, by omega, by go_num, Q.out⟩
          case measure => simp [intOf]; omega
          | true =>
          obtain ⟨h1, h2⟩ := St.place_true hpl
          obtain ⟨j, rfl⟩ := Int.eq_ofNat_of_zero_le h1
          rw [hs1.out] at h2
          go_wp2_with fail
          refine (store_both j z B5.out).mono ?_
          rw [hpl]
          rintro e w6 ⟨rfl, q1, q2⟩
          have x1 : w6.cell? ⟨X, 1, none⟩ = some (.int .i64 j) := cellOf ((q2 X rfl).trans x5.out) 1 _ rfl
          have x2 : w6.cell? ⟨X, 2, none⟩ = some (.int .i64 z) := cellOf ((q2 X rfl).trans x5.out) 2 _ rfl
          obtain ⟨g7, n7, cw7, hw71, hw72, hw73, W7⟩ := q1.words
          rw [hs1.out] at hw71 hw72
          obtain ⟨d1, d2, d3⟩ := W7.out.2 j (by omega)
          have D : Hid (Both w1 (w6.setCell ⟨g7, j, none⟩ (.int .i64 z)) bp br (fun q => q = X) (s.store j z) (s.store j z)) := (d3 z).1
          have hj0 : (0 : Int) ≤ j := by omega
          have hj1 : (j : Int) < n7 := by omega
          clear d3 W7 q1 q2
          go_upto_region 27 with fail
          go_region
          have q3 := D.out.drew
          clear D d1 d2
          generalize (w6.setCell ⟨g7, j, none⟩ (.int .i64 z)).drew = w7 at q3 ⊢
          go_wp2_with fail
          refine (free_both q3).mono ?_
          rintro e w8 ⟨rfl, m8, rfl⟩
          go_wp2_with fail
          refine (pfree_both (q3.drewN m8)).mono ?_
          rintro e w9 ⟨rfl, m9, rfl⟩
          have Q : Hid (∃ s', s'.pages = n ∧ Both w1 (w7.drewN (m8 + m9)) bp br (fun _ => False) s' s') := ⟨s.store j z, by rw [St.pages_store]; exact hs1.out, (q3.drewN (m8 + m9)).forget⟩
          clear q3
          go_wp2
          go_roundw
          case rel => exact ⟨k + 1, by omega, by go_num, Q.out⟩
          case measure => simp [intOf]; omega
        have c2' : (x == 2) = false := by simpa using c2
        clear c2
        by_cases c3 : x = 3
        · have c3' : (x == 3) = true := by simpa using c3
          clear c3
          cases hpl : s.place y with
          | false =>
          have E : Hid (s.load y = 0) := by show _ = _; simp [St.load, hpl]
          go_wp2_with fail
          refine (load_both y B5.out).mono ?_
          rw [hpl, E.out]
          rintro e w6 ⟨rfl, rfl⟩
          go_wp2_with fail
          go_quiet (fail)
          have q3 := B5.out.drewN nq
          clear B5
          generalize w6.drewN nq = w7 at q3 ⊢
          go_wp2_with fail
          refine (free_both q3).mono ?_
          rintro e w8 ⟨rfl, m8, rfl⟩
          go_wp2_with fail
          refine (pfree_both (q3.drewN m8)).mono ?_
          rintro e w9 ⟨rfl, m9, rfl⟩
          have Q : Hid (∃ s', s'.pages = n ∧ Both w1 (w7.drewN (m8 + m9)) bp br (fun _ => False) s' s') := ⟨s, hs1.out, (q3.drewN (m8 + m9)).forget⟩
          clear q3
          go_wp2
          go_roundw
          case rel => exact ⟨k + 1, by omega, by go_num, Q.out⟩
          case measure => simp [intOf]; omega
          | true =>
          obtain ⟨h1, h2⟩ := St.place_true hpl
          obtain ⟨j, rfl⟩ := Int.eq_ofNat_of_zero_le h1
          rw [hs1.out] at h2
          have E : Hid (s.load j = s.ws j) := by show _ = _; simp [St.load, hpl]
          obtain ⟨g7, n7, cw7, hw71, hw72, hw73, W7⟩ := B5.out.words
          rw [hs1.out] at hw71 hw72
          obtain ⟨d1, d2, d3⟩ := W7.out.2 j (by omega)
          have hj0 : (0 : Int) ≤ j := by omega
          have hj1 : (j : Int) < n7 := by omega
          clear d3 d2 W7
          go_wp2_with fail
          refine (load_both j B5.out).mono ?_
          rw [hpl, E.out]
          rintro e w6 ⟨rfl, rfl⟩
          generalize s.ws j = q at d1 ⊢
          go_wp2_with fail
          go_quiet (fail)
          have q3 := B5.out.drewN nq
          clear B5
          generalize w6.drewN nq = w7 at q3 ⊢
          go_wp2_with fail
          refine (free_both q3).mono ?_
          rintro e w8 ⟨rfl, m8, rfl⟩
          go_wp2_with fail
          refine (pfree_both (q3.drewN m8)).mono ?_
          rintro e w9 ⟨rfl, m9, rfl⟩
          have Q : Hid (∃ s', s'.pages = n ∧ Both w1 (w7.drewN (m8 + m9)) bp br (fun _ => False) s' s') := ⟨s, hs1.out, (q3.drewN (m8 + m9)).forget⟩
          clear q3
          go_wp2
          go_roundw
          case rel => exact ⟨k + 1, by omega, by go_num, Q.out⟩
          case measure => simp [intOf]; omega
        have c3' : (x == 3) = false := by simpa using c3
        clear c3
        by_cases c4 : x = 4
        · have c4' : (x == 4) = true := by simpa using c4
          clear c4
          obtain ⟨g7, n7, cw7, hw71, hw72, hw73, W7⟩ := B5.out.words
          have L7 : Hid (Longs w5 (.slice (some ⟨g7, 0, none⟩) n7 n7) ((List.range (16 * s.pages)).map s.ws)) := W7.out.1
          have hbr : br < w5.heap.size := World.block_lt_of_cell? w5 ⟨br, 0, none⟩ cw7
          have Lw : Hid (((List.range (16 * s.pages)).map s.ws).length ≤ 1000000) := by show _ ≤ _; simp [hs1.out]; omega
          clear W7
          go_upto_region 33 with fail
          go_cut [143] (fun c wx => c = .bool false ∧ Both w1 wx bp br (fun q => q = X) s s)
          case first =>
            go_region_with (first
              | (go_at_call 21; refine (words_both (by first | exact B5.out | exact B5.out.drew)).mono ?_; rintro e w6 ⟨v, rfl, hv, hb⟩; have x6 : w6.cell? ⟨br, 0, none⟩ = some (.slice (some ⟨g7, 0, none⟩) n7 n7) := (hb.cell (p := ⟨br, 0, none⟩) hbr).trans cw7; have V : Hid (Longs w6 v ((List.range (16 * s.pages)).map s.ws)) := hv; clear hv)
              | (go_at_call 20; refine (same_any _ _ _ _ V.out (by first | exact L7.out.below hb | exact Longs.below (show Longs w5.drew _ _ from L7.out) hb) Lw.out).mono ?_; rintro e w7 ⟨rfl, m7, rfl⟩))
            all_goals
              go_wp2
              go_meet
              first | exact ⟨rfl, (B5.out.drew.below hb).drewN _⟩ | exact ⟨rfl, (B5.out.below hb).drewN _⟩
          case rest =>
          obtain ⟨rfl, q3⟩ := hcut
          go_wp2_with fail
          refine (free_both q3).mono ?_
          rintro e w8 ⟨rfl, m8, rfl⟩
          go_wp2_with fail
          refine (pfree_both (q3.drewN m8)).mono ?_
          rintro e w9 ⟨rfl, m9, rfl⟩
          have Q : Hid (∃ s', s'.pages = n ∧ Both w1 (wc.drewN (m8 + m9)) bp br (fun _ => False) s' s') := ⟨s, hs1.out, (q3.drewN (m8 + m9)).forget⟩
          clear q3
          go_wp2
          go_roundw
          case rel => exact ⟨k + 1, by omega, by go_num, Q.out⟩
          case measure => simp [intOf]; omega
        have c4' : (x == 4) = false := by simpa using c4
        clear c4
        have q3 := B5.out
        clear B5
        go_wp2_with fail
        refine (free_both q3).mono ?_
        rintro e w8 ⟨rfl, m8, rfl⟩
        go_wp2_with fail
        refine (pfree_both (q3.drewN m8)).mono ?_
        rintro e w9 ⟨rfl, m9, rfl⟩
        have Q : Hid (∃ s', s'.pages = n ∧ Both w1 (w5.drewN (m8 + m9)) bp br (fun _ => False) s' s') := ⟨s, hs1.out, (q3.drewN (m8 + m9)).forget⟩
        clear q3
        go_wp2
        go_roundw
        case rel => exact ⟨k + 1, by omega, by go_num, Q.out⟩
        case measure => simp [intOf]; omega
    · go_wp2
      go_ret
      exact ⟨rfl, b1.trans (hB.done.mono b1.size)⟩

end Go.Proofs.Ytoljcjefaeimgaa
