/-
  The law TokenScans.
-/
import Derived.Test.YtlahoehngnebnabDoorTokRefS
import Derived.Test.YtlahoehngnebnabDoorTokBeg
import Derived.Deep.QuietTactic
import Derived.BigQuiet
namespace Go.Proofs.YtlahoehngnebnabDoor
open Go.ChangeShapes Go.WideShapes Go.ChangeAt Go.RowKit Go.Shelf
set_option linter.unusedVariables false
set_option linter.unusedSimpArgs false

theorem cell_below {w w' : World} (b : Below w.heap.size w w') {p : Addr} {v : Value} (h : w.cell? p = some v) : w'.cell? p = some v :=
  (World.cell?_of_block (w := w) (a := p) (b.block p.block (World.block_lt_of_cell? w p h))).trans h

theorem scanL_len {l : List UInt8} {ts : List Tk} (h : scanL l = .ok ts) : ts.length ≤ 40000 := by
  unfold scanL at h
  split at h
  · cases h
  · obtain ⟨_, h2, h3⟩ := scanF_good _ _ _ ts (by simp only [List.length_drop]; omega) h
    simp only [List.length_drop] at h2
    have := sum_ge ts h3
    omega
set_option maxHeartbeats 8000000 in
set_option maxRecDepth 100000 in
theorem scans_any (s : ByteArray) (w : World) (hw0 : Laid w) (hs : s.size ≤ maxLen) :
    Calls Tryd.prog 5 #[.string s] w fun e w' => e = .returned (.bool true) ∧ Below w.heap.size w w' := by
  have hw : Hid (Laid w) := hw0
  have hsl : Hid (s.size ≤ maxLen) := hs
  unfold maxLen at hs
  clear hw0
  have CB : Hid (Calls Tryd.prog 17 #[] w fun e w' => e = .returned (.bool true) ∧ Below w.heap.size w w') := begun_any w hw.out
  by_cases hbig : 60000 < s.size
  · have hbig' : (60000 : Int) < s.size := by omega
    go_enter Tryd.func5, Tryd.ntmps5
    go_wp2_with (go_at_call 17; refine CB.out.mono ?_; rintro e w1 ⟨rfl, b1⟩; have B1 : Hid _ := b1; clear b1)
    go_ret
    exact ⟨rfl, B1.out⟩
  · have hbig' : ¬ (60000 : Int) < s.size := by omega
    go_enter Tryd.func5, Tryd.ntmps5
    go_wp2_with fail
    refine CB.out.mono ?_
    rintro e w1 ⟨rfl, b1⟩
    have B1 : Hid (Below w.heap.size w w1) := b1
    clear b1 CB
    go_wp2_with fail
    refine (scan_any s w1 (hw.out.below B1.out) hsl.out).mono ?_
    intro e w2 h2
    have C2 : Hid (∀ w', Below w.heap.size w w' → Calls Tryd.prog 19 #[.string s] w' fun e w'' => ScOut w' w'' (scanL s.data.toList) e) := fun w' b => rScan_any s w' (hw.out.below b) hsl.out
    cases hsc : scanL s.data.toList with
    | fault c a =>
      rw [hsc] at h2 C2
      obtain ⟨rfl, b2⟩ := h2
      have B2 : Hid (Below w.heap.size w w2) := Below.andThen B1.out b2
      clear b2 hsc hw hsl B1
      go_wp2_with fail
      have B3 : Hid (Below w.heap.size w (w2.alloc (.cells #[.int .i64 c, .int .i64 a] 39))) := B2.out.alloc B2.out.size _
      have X3 : Hid (Blk (w2.alloc (.cells #[.int .i64 c, .int .i64 a] 39)) w2.heap.size #[.int .i64 c, .int .i64 a] 39) := Blk.new _ _ _
      generalize w2.alloc (.cells #[.int .i64 c, .int .i64 a] 39) = w3 at B3 X3 ⊢
      refine (C2.out w3 B3.out).mono ?_
      rintro e w4 ⟨rfl, b4⟩
      have B4 : Hid (Below w.heap.size w w4) := Below.andThen B3.out b4
      have X4 : Hid (Blk w4 w2.heap.size #[.int .i64 c, .int .i64 a] 39) := X3.out.below b4
      have y0 := cellOf X4.out 0 _ rfl
      have y1 := cellOf X4.out 1 _ rfl
      have hz : w2.heap.size < w4.heap.size := X4.out.lt
      clear b4 C2 X3
      go_wp2_with fail
      go_loop [7] (fun t => t = .int .i64 0) (fun _ => 0)
      case atStart => rfl
      case round =>
        subst hrel
        go_wp2_with fail
        go_ret
        exact ⟨rfl, B4.out.alloc B4.out.size _⟩
    | ok ts =>
      rw [hsc] at h2 C2
      obtain ⟨a1, c1, rfl, l1, b2⟩ := h2
      have hln : ts.length ≤ 40000 := scanL_len hsc
      have B2 : Hid (Below w.heap.size w w2) := Below.andThen B1.out b2
      have L1 : Hid (tkL.list.In w2 (fun g => w1.heap.size ≤ g) ts [.slice a1 ts.length c1]) := l1
      clear b2 hsc hw hsl B1 l1
      go_wp2_with fail
      have L3 : Hid (tkL.list.In (w2.alloc (.cells #[.int .i64 0, .int .i64 0] 39)) (fun g => w1.heap.size ≤ g) ts [.slice a1 ts.length c1]) := Lay.alloc L1.out _
      have B3 : Hid (Below w.heap.size w (w2.alloc (.cells #[.int .i64 0, .int .i64 0] 39))) := B2.out.alloc B2.out.size _
      have X3 : Hid (Blk (w2.alloc (.cells #[.int .i64 0, .int .i64 0] 39)) w2.heap.size #[.int .i64 0, .int .i64 0] 39) := Blk.new _ _ _
      generalize w2.alloc (.cells #[.int .i64 0, .int .i64 0] 39) = w3 at B3 X3 L3 ⊢
      refine (C2.out w3 B3.out).mono ?_
      rintro e w4 ⟨a2, c2, rfl, l2, b4⟩
      have B4 : Hid (Below w.heap.size w w4) := Below.andThen B3.out b4
      have X4 : Hid (Blk w4 w2.heap.size #[.int .i64 0, .int .i64 0] 39) := X3.out.below b4
      have L4 : Hid (tkL.list.In w4 (fun g => w1.heap.size ≤ g) ts [.slice a1 ts.length c1]) := Lay.below L3.out b4
      have L5 : Hid (tkL.list.In w4 (fun g => w3.heap.size ≤ g) ts [.slice a2 ts.length c2]) := l2
      have y0 := cellOf X4.out 0 _ rfl
      have y1 := cellOf X4.out 1 _ rfl
      have hz : w2.heap.size < w4.heap.size := X4.out.lt
      clear b4 l2 C2 X3 L1 L3
      go_wp2_with fail
      have L6 : Hid (tkL.list.In (w4.alloc (.cells #[.int .i64 0, .int .i64 0] 39)) (fun g => w1.heap.size ≤ g) ts [.slice a1 ts.length c1]) := Lay.alloc L4.out _
      have L7 : Hid (tkL.list.In (w4.alloc (.cells #[.int .i64 0, .int .i64 0] 39)) (fun g => w3.heap.size ≤ g) ts [.slice a2 ts.length c2]) := Lay.alloc L5.out _
      have B5 : Hid (Below w.heap.size w (w4.alloc (.cells #[.int .i64 0, .int .i64 0] 39))) := B4.out.alloc B4.out.size _
      generalize w4.alloc (.cells #[.int .i64 0, .int .i64 0] 39) = w5 at L6 L7 B5 ⊢
      clear B4 X4 L4 L5 y0 y1 hz B3
      go_loopw [7] (fun t wr => ∃ q : Nat, q ≤ ts.length ∧ t = .int .i64 q ∧ Below w5.heap.size w5 wr) (fun t _ => ts.length - (intOf t).toNat)
      case atStart => exact ⟨0, Nat.zero_le _, rfl, Below.refl _ _⟩
      case round =>
        obtain ⟨q, hq, rfl, hb⟩ := hrel
        have Bq : Hid (Below w5.heap.size w5 wr) := hb
        clear hb
        by_cases hlt : q < ts.length
        · have hlt' : (q : Int) < ts.length := by omega
          have hx : ts[q]? = some ts[q] := List.getElem?_eq_getElem hlt
          generalize ts[q] = x at hx
          obtain ⟨g, o, rfl, _, hg, d0, d1, d2, d3⟩ := tk_at (Lay.below L6.out Bq.out) hx
          obtain ⟨g', o', rfl, _, hg', f0, f1, f2, f3⟩ := tk_at (Lay.below L7.out Bq.out) hx
          clear hx
          go_wp2_with fail
          go_quiet (fail)
          go_wp2
          go_roundw
          case rel => exact ⟨q + 1, by omega, by go_num, drewN_below Bq.out⟩
          case measure => simp [intOf]; omega
        · have hlt' : ¬ (q : Int) < ts.length := by omega
          go_wp2_with fail
          go_ret
          exact ⟨rfl, Below.andThen B5.out Bq.out⟩
end Go.Proofs.YtlahoehngnebnabDoor
