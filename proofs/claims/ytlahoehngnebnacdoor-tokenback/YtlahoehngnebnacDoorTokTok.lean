/-
  Package token: tokenTo, numberTo, tokenAt.
-/
import Derived.Test.YtlahoehngnebnacDoorTokNum
import Derived.Test.YtlahoehngnebnacDoorBox
import Derived.Deep.RegionWith
namespace Go.Proofs.YtlahoehngnebnacDoor
open Go.ChangeShapes Go.WideShapes Go.ChangeAt Go.RowKit Go.Shelf
set_option linter.unusedVariables false
set_option linter.unusedSimpArgs false

/-- A token's cells at the beginning. -/
abbrev Z4 : Array Value := #[.int .i64 0, .string ⟨#[]⟩, .bool false, .int .i64 0]
/-- A struct of four cells is stored. -/
theorem stored4 {w w2 : World} {B : Nat} {p q r u : Value} {t : TypeId} (h : Blk w2 B #[p, q, r, u] t) (hb : Below w.heap.size w w2) (hB : w.heap.size ≤ B) (a b c d : Value) :
    Blk ((((w2.setCell ⟨B, 0, none⟩ a).setCell ⟨B, 1, none⟩ b).setCell ⟨B, 2, none⟩ c).setCell ⟨B, 3, none⟩ d) B #[a, b, c, d] t ∧
    Below w.heap.size w ((((w2.setCell ⟨B, 0, none⟩ a).setCell ⟨B, 1, none⟩ b).setCell ⟨B, 2, none⟩ c).setCell ⟨B, 3, none⟩ d) := by
  refine ⟨?_, (((hb.setCell hB _).setCell hB _).setCell hB _).setCell hB _⟩
  have h1 := blockSet h 0 a
  have h2 := blockSet h1 1 b
  have h3 := blockSet h2 2 c
  have h4 := blockSet h3 3 d
  simpa using h4
set_option maxHeartbeats 1000000 in
theorem tokenTo_any (s : ByteArray) (i j : Nat) (w : World) (hij : i ≤ j) (hj : j ≤ s.size) (hs : s.size ≤ 1000000) :
    Calls Tryd.prog 12 #[.string s, .int .i64 i, .int .i64 j] w fun e w' => e = .returned (.agg #[.int .i64 i, .string (str ((s.data.toList.drop i).take (j - i))), .bool false, .int .i64 0]) ∧ Below w.heap.size w w' := by
  have hij' : (i : Int) ≤ j := by omega
  have hj' : (j : Int) ≤ s.size := by omega
  go_enter Tryd.func12, Tryd.ntmps12
  go_wp2_with fail
  have X : Hid (Blk (w.alloc (.cells Z4 29)) w.heap.size Z4 29) := Blk.new w _ _
  have B1 : Hid (Below w.heap.size w (w.alloc (.cells Z4 29))) := bel1 w _
  have C : Hid (∀ w, Calls Tryd.prog 18 #[.string (s.extract i j)] w fun e w' => e = .returned (.string (s.extract i j)) ∧ Below w.heap.size w w') := fun w => clone_any _ w (by rw [ByteArray.size_extract]; omega)
  refine (C.out _).mono ?_
  rintro e w2 ⟨rfl, hb⟩
  have X2 : Hid (Blk w2 w.heap.size Z4 29) := X.out.below hb
  have B2 : Hid (Below w.heap.size w w2) := Below.andThen B1.out hb
  clear C hb X B1
  have z0 := freeOf X2.out 0
  have z1 := freeOf X2.out 1
  have z2 := freeOf X2.out 2
  have z3 := freeOf X2.out 3
  have y0 := cellOf X2.out 0 _ rfl
  have y1 := cellOf X2.out 1 _ rfl
  have y2 := cellOf X2.out 2 _ rfl
  have y3 := cellOf X2.out 3 _ rfl
  go_wp2
  have D := stored4 X2.out B2.out (Nat.le_refl _) (.int .i64 i) (.string (s.extract i j)) (.bool false) (.int .i64 0)
  have x0 := cellOf D.1 0 _ rfl
  have x1 := cellOf D.1 1 _ rfl
  have x2 := cellOf D.1 2 _ rfl
  have x3 := cellOf D.1 3 _ rfl
  have DD : Hid _ := D.2
  clear D X2 B2 z0 z1 z2 z3 y0 y1 y2 y3
  generalize (((w2.setCell ⟨w.heap.size, 0, none⟩ (.int .i64 i)).setCell ⟨w.heap.size, 1, none⟩ (.string (s.extract i j))).setCell ⟨w.heap.size, 2, none⟩ (.bool false)).setCell ⟨w.heap.size, 3, none⟩ (.int .i64 0) = w9 at DD x0 x1 x2 x3 ⊢
  exact bodyPost_ret (v := .agg #[.int .i64 i, .string (s.extract i j), .bool false, .int .i64 0]) (by simp [results, Tryd.results12, go_sem, x0, x1, x2, x3]) rfl ⟨by rw [ext_str], DD.out⟩

theorem str_beq (a b : List UInt8) : ((str a).toList == (str b).toList) = decide (a = b) := by
  rw [Lib.toList_data, Lib.toList_data, str_list, str_list, Bool.eq_iff_iff]
  simp
/-- What numberTo answers. -/
def numVal (i : Nat) (l : List UInt8) : Value :=
  match numOf l with
  | some v => .tuple #[.agg #[.int .i64 i, .string (str l), .bool true, .int .i64 v], .int .i64 0]
  | none => .tuple #[.agg #[.int .i64 0, .string (str []), .bool false, .int .i64 0], .int .i64 8]
theorem numVal_bad {i : Nat} {l : List UInt8} (h : ∀ v, Lib.parseIntB 64 l ≠ .ok v) : numVal i l = .tuple #[.agg #[.int .i64 0, .string (str []), .bool false, .int .i64 0], .int .i64 8] := by
  have : numOf l = none := by
    unfold numOf
    split
    · exact absurd (by assumption) (h _)
    · rfl
    · rfl
  simp [numVal, this]
theorem numVal_ok {i : Nat} {l : List UInt8} {v : Int} (h : Lib.parseIntB 64 l = .ok v) : numVal i l = if Lib.itoa v = l then .tuple #[.agg #[.int .i64 i, .string (str l), .bool true, .int .i64 v], .int .i64 0] else .tuple #[.agg #[.int .i64 0, .string (str []), .bool false, .int .i64 0], .int .i64 8] := by
  unfold numVal numOf
  rw [h]
  simp only
  split
  · rename_i e
    split at e
    · injection e with e; subst e; rw [if_pos (by assumption)]
    · cases e
  · rename_i e
    split at e
    · cases e
    · rw [if_neg (by assumption)]
/-- The result's cells and the token's, while a number is read. -/
structure NB (w w' : World) (B i : Nat) (l : List UInt8) : Prop where
  bel : Below w.heap.size w w'
  res : Blk w' w.heap.size Z4 29
  box : Blk w' B #[.int .i64 i, .string (str l), .bool false, .int .i64 0] 29
  lt : w.heap.size < B
  laid : Laid w'
theorem NB.below {w w1 w2 : World} {B i : Nat} {l : List UInt8} (h : NB w w1 B i l) (b : Below w1.heap.size w1 w2) : NB w w2 B i l :=
  ⟨Below.andThen h.bel b, h.res.below b, h.box.below b, h.lt, h.laid.below b⟩
set_option maxHeartbeats 4000000 in
set_option maxRecDepth 100000 in
theorem numberTo_any (s : ByteArray) (i j : Nat) (w : World) (hw0 : Laid w) (hij : i ≤ j) (hj : j ≤ s.size) (hs : s.size ≤ 1000000) :
    Calls Tryd.prog 14 #[.string s, .int .i64 i, .int .i64 j] w fun e w' => e = .returned (numVal i ((s.data.toList.drop i).take (j - i))) ∧ Below w.heap.size w w' := by
  have hl : Hid (((s.data.toList.drop i).take (j - i)).length ≤ 1000000) := by show _ ≤ _; rw [List.length_take, List.length_drop, list_len]; omega
  have C1 : Hid (∀ w, Calls Tryd.prog 12 #[.string s, .int .i64 i, .int .i64 j] w fun e w' => e = .returned (.agg #[.int .i64 i, .string (str ((s.data.toList.drop i).take (j - i))), .bool false, .int .i64 0]) ∧ Below w.heap.size w w') := fun w => tokenTo_any s i j w hij hj hs
  have hw : Hid (Laid w) := hw0
  generalize (s.data.toList.drop i).take (j - i) = l at hl C1 ⊢
  clear hij hj hs hw0
  go_enter Tryd.func14, Tryd.ntmps14
  go_wp2_with fail
  have X : Hid (Blk (w.alloc (.cells Z4 29)) w.heap.size Z4 29) := Blk.new w _ _
  have B1 : Hid (Below w.heap.size w (w.alloc (.cells Z4 29))) := bel1 w _
  refine (C1.out _).mono ?_
  rintro e w2 ⟨rfl, hb⟩
  have X2 : Hid (Blk w2 w.heap.size Z4 29) := X.out.below hb
  have B2 : Hid (Below w.heap.size w w2) := Below.andThen B1.out hb
  have hz : w.heap.size < w2.heap.size := X2.out.lt
  clear C1 hb X B1
  go_wp2_with fail
  have N3 : Hid (NB w (w2.alloc (.cells #[.int .i64 i, .string (str l), .bool false, .int .i64 0] 29)) w2.heap.size i l) :=
    ⟨B2.out.alloc B2.out.size _, X2.out.alloc _, Blk.new _ _ _, hz, hw.out.below (B2.out.alloc B2.out.size _)⟩
  generalize w2.alloc (.cells #[.int .i64 i, .string (str l), .bool false, .int .i64 0] 29) = w3 at N3 ⊢
  generalize w2.heap.size = B at N3 hz ⊢
  clear X2 B2 hw
  have hs' : Hid ((str l).size ≤ 1000000) := by show _ ≤ _; rw [str_size]; exact hl.out
  by_cases hp : ∃ v, Lib.parseIntB 64 l = .ok v
  · obtain ⟨v, hv⟩ := hp
    have hr := parse_range hv
    have V : Hid (numVal i l = _) := numVal_ok (i := i) hv
    refine (parse_ok (str l) v w3 hs'.out hv).mono ?_
    rintro e w4 ⟨rfl, b4⟩
    have N4 : Hid (NB w w4 B i l) := N3.out.below b4
    have C : Hid (∀ m, Calls Tryd.prog 20 #[.int .i64 v, .int .i64 10] (w4.drewN m) fun e w' => e = .returned (.string (str (Lib.itoa v))) ∧ NB w w' B i l) := fun m =>
      (format_any v hr (w4.drewN m) (N4.out.laid.below (drewN_below (Below.refl _ _)))).mono fun e w' h => ⟨h.1, N4.out.below (undrewN_below h.2)⟩
    clear hv hs' hl N3 b4
    have e1 := cellOf N4.out.box 1 _ rfl
    by_cases he : Lib.itoa v = l
    · have hq : ((str (Lib.itoa v)).toList == (str l).toList) = true := by rw [str_beq]; simpa using he
      have V2 : Hid (numVal i l = .tuple #[.agg #[.int .i64 i, .string (str l), .bool true, .int .i64 v], .int .i64 0]) := by
        have := V.out; rw [if_pos he] at this; exact this
      clear V he
      go_wp2_with fail
      go_region_with (go_at_call 20; refine (C.out _).mono ?_; rintro e w5 ⟨rfl, n5⟩; have N5 : Hid (NB w w5 B i l) := n5; clear n5; have f1 := cellOf N5.out.box 1 _ rfl)
      all_goals
        have hn5 : w.heap.size ≠ B := by omega
        have f0 := cellOf N5.out.box 0 _ rfl
        have f2 := cellOf N5.out.box 2 _ rfl
        have f3 := cellOf N5.out.box 3 _ rfl
        have z2 := freeOf N5.out.box 2
        have z3 := freeOf N5.out.box 3
        have r0 := cellOf N5.out.res 0 _ rfl
        have r1 := cellOf N5.out.res 1 _ rfl
        have r2 := cellOf N5.out.res 2 _ rfl
        have r3 := cellOf N5.out.res 3 _ rfl
        have q0 := freeOf N5.out.res 0
        have q1 := freeOf N5.out.res 1
        have q2 := freeOf N5.out.res 2
        have q3 := freeOf N5.out.res 3
        clear N4 C e1
        go_wp2
        have h1 : Blk ((w5.setCell ⟨B, 2, none⟩ (.bool true)).setCell ⟨B, 3, none⟩ (.int .i64 v)) w.heap.size Z4 29 := (N5.out.res.setOther (fun e => hn5 e.symm) _).setOther (fun e => hn5 e.symm) _
        have h2 : Below w.heap.size w ((w5.setCell ⟨B, 2, none⟩ (.bool true)).setCell ⟨B, 3, none⟩ (.int .i64 v)) := (N5.out.bel.setCell (p := ⟨B, 2, none⟩) (Nat.le_of_lt hz) _).setCell (p := ⟨B, 3, none⟩) (Nat.le_of_lt hz) _
        have D := stored4 h1 h2 (Nat.le_refl _) (.int .i64 i) (.string (str l)) (.bool true) (.int .i64 v)
        have x0 := cellOf D.1 0 _ rfl
        have x1 := cellOf D.1 1 _ rfl
        have x2 := cellOf D.1 2 _ rfl
        have x3 := cellOf D.1 3 _ rfl
        have DD : Hid _ := D.2
        clear D h1 h2 N5 f0 f1 f2 f3 z2 z3 r0 r1 r2 r3 q0 q1 q2 q3
        generalize (((((w5.setCell ⟨B, 2, none⟩ (.bool true)).setCell ⟨B, 3, none⟩ (.int .i64 v)).setCell ⟨w.heap.size, 0, none⟩ (.int .i64 i)).setCell ⟨w.heap.size, 1, none⟩ (.string (str l))).setCell ⟨w.heap.size, 2, none⟩ (.bool true)).setCell ⟨w.heap.size, 3, none⟩ (.int .i64 v) = w9 at DD x0 x1 x2 x3 ⊢
        exact bodyPost_ret (v := .tuple #[.agg #[.int .i64 i, .string (str l), .bool true, .int .i64 v], .int .i64 0]) (by simp [results, Tryd.results14, go_sem, x0, x1, x2, x3]) rfl ⟨by rw [V2.out], DD.out⟩
    · have hq : ((str (Lib.itoa v)).toList == (str l).toList) = false := by rw [str_beq]; simpa using he
      have V2 : Hid (numVal i l = .tuple #[.agg #[.int .i64 0, .string (str []), .bool false, .int .i64 0], .int .i64 8]) := by
        have := V.out; rw [if_neg he] at this; exact this
      clear V he
      go_wp2_with fail
      go_region_with (go_at_call 20; refine (C.out _).mono ?_; rintro e w5 ⟨rfl, n5⟩; have N5 : Hid (NB w w5 B i l) := n5; clear n5; have f1 := cellOf N5.out.box 1 _ rfl)
      all_goals
        have r0 := cellOf N5.out.res 0 _ rfl
        have r1 := cellOf N5.out.res 1 _ rfl
        have r2 := cellOf N5.out.res 2 _ rfl
        have r3 := cellOf N5.out.res 3 _ rfl
        have q0 := freeOf N5.out.res 0
        have q1 := freeOf N5.out.res 1
        have q2 := freeOf N5.out.res 2
        have q3 := freeOf N5.out.res 3
        clear N4 C e1 f1
        go_wp2
        have D := stored4 N5.out.res N5.out.bel (Nat.le_refl _) (.int .i64 0) (.string ⟨#[]⟩) (.bool false) (.int .i64 0)
        have x0 := cellOf D.1 0 _ rfl
        have x1 := cellOf D.1 1 _ rfl
        have x2 := cellOf D.1 2 _ rfl
        have x3 := cellOf D.1 3 _ rfl
        have DD : Hid _ := D.2
        clear D N5 r0 r1 r2 r3 q0 q1 q2 q3
        generalize (((w5.setCell ⟨w.heap.size, 0, none⟩ (.int .i64 0)).setCell ⟨w.heap.size, 1, none⟩ (.string ⟨#[]⟩)).setCell ⟨w.heap.size, 2, none⟩ (.bool false)).setCell ⟨w.heap.size, 3, none⟩ (.int .i64 0) = w9 at DD x0 x1 x2 x3 ⊢
        exact bodyPost_ret (v := .tuple #[.agg #[.int .i64 0, .string ⟨#[]⟩, .bool false, .int .i64 0], .int .i64 8]) (by simp [results, Tryd.results14, go_sem, x0, x1, x2, x3]) rfl ⟨by rw [V2.out]; rfl, DD.out⟩
  · have V2 : Hid (numVal i l = .tuple #[.agg #[.int .i64 0, .string (str []), .bool false, .int .i64 0], .int .i64 8]) := numVal_bad (fun v h => hp ⟨v, h⟩)
    refine (parse_bad (str l) w3 N3.out.laid hs'.out (fun v h => hp ⟨v, h⟩)).mono ?_
    rintro e w4 ⟨⟨x, N, rfl⟩, b4⟩
    have N4 : Hid (NB w w4 B i l) := N3.out.below b4
    clear hp hs' hl N3 b4
    go_wp2_with fail
    go_region
    all_goals
      have N5 : Hid (NB w w4.drew B i l) := N4.out.below ⟨rfl, rfl, rfl, Nat.le_refl _, fun _ _ => rfl⟩
      generalize w4.drew = w5 at N5 ⊢
      have r0 := cellOf N5.out.res 0 _ rfl
      have r1 := cellOf N5.out.res 1 _ rfl
      have r2 := cellOf N5.out.res 2 _ rfl
      have r3 := cellOf N5.out.res 3 _ rfl
      have q0 := freeOf N5.out.res 0
      have q1 := freeOf N5.out.res 1
      have q2 := freeOf N5.out.res 2
      have q3 := freeOf N5.out.res 3
      clear N4
      go_wp2
      have D := stored4 N5.out.res N5.out.bel (Nat.le_refl _) (.int .i64 0) (.string ⟨#[]⟩) (.bool false) (.int .i64 0)
      have x0 := cellOf D.1 0 _ rfl
      have x1 := cellOf D.1 1 _ rfl
      have x2 := cellOf D.1 2 _ rfl
      have x3 := cellOf D.1 3 _ rfl
      have DD : Hid _ := D.2
      clear D N5 r0 r1 r2 r3 q0 q1 q2 q3
      generalize (((w5.setCell ⟨w.heap.size, 0, none⟩ (.int .i64 0)).setCell ⟨w.heap.size, 1, none⟩ (.string ⟨#[]⟩)).setCell ⟨w.heap.size, 2, none⟩ (.bool false)).setCell ⟨w.heap.size, 3, none⟩ (.int .i64 0) = w9 at DD x0 x1 x2 x3 ⊢
      exact bodyPost_ret (v := .tuple #[.agg #[.int .i64 0, .string ⟨#[]⟩, .bool false, .int .i64 0], .int .i64 8]) (by simp [results, Tryd.results14, go_sem, x0, x1, x2, x3]) rfl ⟨by rw [V2.out]; rfl, DD.out⟩
end Go.Proofs.YtlahoehngnebnacDoor
