/-
  Package token: tokenAt.
-/
import Derived.Test.YtlahoehngnebnacDoorTokTok
namespace Go.Proofs.YtlahoehngnebnacDoor
open Go.ChangeShapes Go.WideShapes Go.ChangeAt Go.RowKit Go.Shelf
set_option linter.unusedVariables false
set_option linter.unusedSimpArgs false

section
variable {c : UInt8} {l : List UInt8}
theorem tok_let (h : letB c = true) : tok (c :: l) = .ok (pre letB (c :: l)) false 0 := by
  have h1 : tokLen (c :: l) = (pre letB (c :: l), false) := by simp [tokLen, h]
  simp only [tok, h1]
  rw [if_neg (by rw [pre_yes h]; omega)]
  simp
theorem tok_sign (h0 : letB c = false) (h : sigB c = true) : tok (c :: l) = .ok 1 false 0 := by
  have h1 : tokLen (c :: l) = (1, false) := by simp [tokLen, h, h0]
  simp [tok, h1]
theorem not_sign {k : Nat} (h : c.toNat = k) (hk : ([40, 41, 123, 125, 60, 62, 44, 59] : List Nat).contains k = false) : sigB c = false := by
  unfold sigB; rw [h]; exact hk
theorem tok_arrow (h0 : letB c = false) (h : c.toNat = 45) (h2 : l.head?.any (fun d => d.toNat == 62) = true) : tok (c :: l) = .ok 2 false 0 := by
  have h1 : tokLen (c :: l) = (2, false) := by
    have hs : sigB c = false := not_sign h rfl
    simp only [tokLen, h0, hs, h, h2]
    simp
  simp [tok, h1]
theorem tok_num (i : Nat) (h0 : letB c = false) (h : digB c = true ∨ (c.toNat = 45 ∧ l.head?.any digB = true)) : (tok (c :: l)).val i (c :: l) = numVal i ((c :: l).take (pre digB l + 1)) := by
  have hs : sigB c = false := by
    rcases h with h | ⟨h, _⟩
    · simp only [digB, Bool.and_eq_true, decide_eq_true_eq] at h
      simp [sigB]; omega
    · exact not_sign h rfl
  have ha : ¬ (c.toNat = 45 ∧ l.head?.any (fun d => d.toNat == 62) = true) := by
    rintro ⟨a, b⟩
    rcases h with h | ⟨_, h⟩
    · simp [digB, a] at h
    · cases l with
      | nil => simp at h
      | cons d l =>
        simp at b h
        simp [digB, b] at h
  have h1 : tokLen (c :: l) = (pre digB l + 1, true) := by simp only [tokLen, h0, hs, if_neg ha, if_pos h]; simp
  simp only [tok, h1, numVal]
  rw [if_neg (by omega)]
  simp only [if_true]
  cases e : numOf ((c :: l).take (pre digB l + 1)) with
  | none => simp [TkR.val]
  | some v => simp [TkR.val]
theorem tok_bad (h0 : letB c = false) (h1 : sigB c = false) (h2 : ¬ (c.toNat = 45 ∧ l.head?.any (fun d => d.toNat == 62) = true)) (h3 : ¬ (digB c = true ∨ (c.toNat = 45 ∧ l.head?.any digB = true))) : tok (c :: l) = .bad 6 := by
  have : tokLen (c :: l) = (0, false) := by simp only [tokLen, h0, h1, if_neg h2, if_neg h3]; simp
  simp [tok, this]
theorem arrow_pre : Lib.hasPrefix (c :: l) [45, 62] = true ↔ (c.toNat = 45 ∧ l.head?.any (fun d => d.toNat == 62) = true) := by
  cases l with
  | nil => simp [Lib.hasPrefix]
  | cons d l =>
    simp only [Lib.hasPrefix, List.isPrefixOf, List.head?_cons, Option.any_some, beq_iff_eq, Bool.and_true, Bool.and_eq_true, ← UInt8.toNat_inj]
    constructor
    · rintro ⟨a, b⟩; exact ⟨a.symm, b.symm⟩
    · rintro ⟨a, b⟩; exact ⟨a.symm, b.symm⟩
end
theorem numVal_form (i : Nat) (l : List UInt8) : ∃ (p : Int) (t : ByteArray) (b : Bool) (n c : Int), numVal i l = .tuple #[.agg #[.int .i64 p, .string t, .bool b, .int .i64 n], .int .i64 c] := by
  unfold numVal
  split
  · exact ⟨_, _, _, _, _, rfl⟩
  · exact ⟨_, _, _, _, _, rfl⟩

/-- The result's cells, while a token is read. -/
structure TB (w w' : World) : Prop where
  bel : Below w.heap.size w w'
  res : Blk w' w.heap.size Z4 29
  laid : Laid w'
theorem TB.below {w w1 w2 : World} (h : TB w w1) (b : Below w1.heap.size w1 w2) : TB w w2 := ⟨Below.andThen h.bel b, h.res.below b, h.laid.below b⟩
theorem TB.start {w : World} (h : Laid w) : TB w (w.alloc (.cells Z4 29)) := ⟨bel1 w _, Blk.new _ _ _, h.below (bel1 w _)⟩

/-- Is there a digit? -/
def dgAt (s : ByteArray) (k : Int) : Bool := (s.data.toList.drop k.toNat).head?.any digB
set_option maxHeartbeats 4000000 in
set_option maxRecDepth 100000 in
theorem tokenAt_any (s : ByteArray) (i : Nat) (w : World) (hw0 : Laid w) (hi : i < s.size) (hs : s.size ≤ 1000000) :
    Calls Tryd.prog 7 #[.string s, .int .i64 i] w fun e w' => e = .returned ((tok (s.data.toList.drop i)).val i (s.data.toList.drop i)) ∧ Below w.heap.size w w' := by
  have hi' : (i : Int) < s.size := by omega
  have hw : Hid (Laid w) := hw0
  clear hw0
  cases hlet : letB s[i] with
  | true =>
    have hn := pre_le letB (s.data.toList.drop i)
    rw [List.length_drop, list_len] at hn
    have hV : Hid ((tok (s.data.toList.drop i)).val i (s.data.toList.drop i) = .tuple #[.agg #[.int .i64 i, .string (str ((s.data.toList.drop i).take (pre letB (s.data.toList.drop i)))), .bool false, .int .i64 0], .int .i64 0]) := by
      have e := tok_let (l := s.data.toList.drop (i + 1)) hlet
      rw [← drop_at s i hi] at e
      show _ = _
      rw [e]; rfl
    have C1 : Hid _ := kind_at isLetter_any hlet
    have C2 : Hid (∀ w, Calls Tryd.prog 9 #[.string s, .int .i64 i, .func (.func 11) #[] #[]] w fun e w' => e = .returned (.int .i64 ((i + pre letB (s.data.toList.drop i) : Nat) : Int)) ∧ w' = w) := fun w => past_any isLetter_any ent_letter s i w (Nat.le_of_lt hi) hs
    generalize pre letB (s.data.toList.drop i) = k at hn hV C2
    have C3 : Hid (∀ w, Calls Tryd.prog 12 #[.string s, .int .i64 i, .int .i64 ((i + k : Nat) : Int)] w fun e w' => e = .returned (.agg #[.int .i64 i, .string (str ((s.data.toList.drop i).take k)), .bool false, .int .i64 0]) ∧ Below w.heap.size w w') := fun w => by
      have := tokenTo_any s i (i + k) w (by omega) (by omega) hs
      rwa [Nat.add_sub_cancel_left] at this
    generalize (s.data.toList.drop i).take k = l at hV C3
    generalize i + k = j at C2 C3
    clear hlet hn
    go_enter Tryd.func7, Tryd.ntmps7
    go_wp2_with fail
    have T : Hid _ := TB.start hw.out
    generalize w.alloc (.cells Z4 29) = w1 at T ⊢
    go_wp2_with (first
      | (go_at_call 11; refine (C1.out _).mono ?_; rintro e w' ⟨rfl, rfl⟩)
      | (go_at_call 9; refine (C2.out _).mono ?_; rintro e w' ⟨rfl, rfl⟩)
      | (go_at_call 12; refine (C3.out _).mono ?_; rintro e w5 ⟨rfl, b5⟩; have N5 : Hid (TB w w5) := T.out.below b5; clear b5; have r0 := cellOf N5.out.res 0 _ rfl; have r1 := cellOf N5.out.res 1 _ rfl; have r2 := cellOf N5.out.res 2 _ rfl; have r3 := cellOf N5.out.res 3 _ rfl; have q0 := freeOf N5.out.res 0; have q1 := freeOf N5.out.res 1; have q2 := freeOf N5.out.res 2; have q3 := freeOf N5.out.res 3))
    have D := stored4 N5.out.res N5.out.bel (Nat.le_refl _) (.int .i64 i) (.string (str l)) (.bool false) (.int .i64 0)
    have x0 := cellOf D.1 0 _ rfl
    have x1 := cellOf D.1 1 _ rfl
    have x2 := cellOf D.1 2 _ rfl
    have x3 := cellOf D.1 3 _ rfl
    have DD : Hid _ := D.2
    clear D N5 r0 r1 r2 r3 q0 q1 q2 q3
    generalize (((World.setCell _ ⟨w.heap.size, 0, none⟩ (.int .i64 i)).setCell ⟨w.heap.size, 1, none⟩ (.string (str l))).setCell ⟨w.heap.size, 2, none⟩ (.bool false)).setCell ⟨w.heap.size, 3, none⟩ (.int .i64 0) = w9 at DD x0 x1 x2 x3 ⊢
    exact bodyPost_ret (v := .tuple #[.agg #[.int .i64 i, .string (str l), .bool false, .int .i64 0], .int .i64 0]) (by simp [results, Tryd.results7, go_sem, x0, x1, x2, x3]) rfl ⟨by rw [hV.out], DD.out⟩
  | false =>
    have C1a := kind_at isLetter_any hlet
    have C4a := fun w => isDigitAt_any s i w (by omega) (by unfold maxLen; omega)
    rw [drop_at s i hi] at C4a
    simp only [List.head?_cons, Option.any_some] at C4a
    cases hd : digB s[i] with
    | true =>
      rw [hd] at C4a
      have C1 : Hid _ := C1a
      have C4 : Hid _ := C4a
      clear C1a C4a
      have hn := pre_le digB (s.data.toList.drop (i + 1))
      rw [List.length_drop, list_len] at hn
      have hV0 : (tok (s.data.toList.drop i)).val i (s.data.toList.drop i) = numVal i ((s.data.toList.drop i).take (pre digB (s.data.toList.drop (i + 1)) + 1)) := by
        have e := tok_num (l := s.data.toList.drop (i + 1)) i hlet (.inl hd)
        rwa [← drop_at s i hi] at e
      have C2 : Hid (∀ w, Calls Tryd.prog 9 #[.string s, .int .i64 ((i : Int) + 1), .func (.func 15) #[] #[]] w fun e w' => e = .returned (.int .i64 ((i + 1 + pre digB (s.data.toList.drop (i + 1)) : Nat) : Int)) ∧ w' = w) := fun w => past_any isDigit_any ent_digit s (i + 1) w hi hs
      generalize pre digB (s.data.toList.drop (i + 1)) = k at hn hV0 C2
      have C3 : Hid (∀ w, Laid w → Calls Tryd.prog 14 #[.string s, .int .i64 i, .int .i64 ((i + 1 + k : Nat) : Int)] w fun e w' => e = .returned (numVal i ((s.data.toList.drop i).take (k + 1))) ∧ Below w.heap.size w w') := fun w hl => by
        have := numberTo_any s i (i + 1 + k) w hl (by omega) (by omega) hs
        rwa [show i + 1 + k - i = k + 1 by omega] at this
      obtain ⟨p, tx, b, n, c, hf⟩ := numVal_form i ((s.data.toList.drop i).take (k + 1))
      rw [hf] at hV0 C3
      have hV : Hid _ := hV0
      generalize i + 1 + k = j at C2 C3
      clear hf hV0 hn hlet hd
      go_enter Tryd.func7, Tryd.ntmps7
      go_wp2_with fail
      have T : Hid _ := TB.start hw.out
      generalize w.alloc (.cells Z4 29) = w1 at T ⊢
      go_wp2_with (first
        | (go_at_call 11; refine (C1.out _).mono ?_; rintro e w' ⟨rfl, rfl⟩)
        | (go_at_call 13; refine (C4.out _).mono ?_; rintro e w' ⟨rfl, rfl⟩)
        | (go_at_call 9; refine (C2.out _).mono ?_; rintro e w' ⟨rfl, rfl⟩)
        | (go_at_call 14; refine (C3.out _ T.out.laid).mono ?_; rintro e w5 ⟨rfl, b5⟩; have N5 : Hid (TB w w5) := T.out.below b5; clear b5; have r0 := cellOf N5.out.res 0 _ rfl; have r1 := cellOf N5.out.res 1 _ rfl; have r2 := cellOf N5.out.res 2 _ rfl; have r3 := cellOf N5.out.res 3 _ rfl; have q0 := freeOf N5.out.res 0; have q1 := freeOf N5.out.res 1; have q2 := freeOf N5.out.res 2; have q3 := freeOf N5.out.res 3))
      have D := stored4 N5.out.res N5.out.bel (Nat.le_refl _) (.int .i64 p) (.string tx) (.bool b) (.int .i64 n)
      have x0 := cellOf D.1 0 _ rfl
      have x1 := cellOf D.1 1 _ rfl
      have x2 := cellOf D.1 2 _ rfl
      have x3 := cellOf D.1 3 _ rfl
      have DD : Hid _ := D.2
      clear D N5 r0 r1 r2 r3 q0 q1 q2 q3
      generalize (((World.setCell _ ⟨w.heap.size, 0, none⟩ (.int .i64 p)).setCell ⟨w.heap.size, 1, none⟩ (.string tx)).setCell ⟨w.heap.size, 2, none⟩ (.bool b)).setCell ⟨w.heap.size, 3, none⟩ (.int .i64 n) = w9 at DD x0 x1 x2 x3 ⊢
      exact bodyPost_ret (v := .tuple #[.agg #[.int .i64 p, .string tx, .bool b, .int .i64 n], .int .i64 c]) (by simp [results, Tryd.results7, go_sem, x0, x1, x2, x3]) rfl ⟨by rw [hV.out], DD.out⟩
    | false =>
      by_cases h45 : s[i].toNat = 45
      · have C4 : Hid (∀ (k : Int) w, k = i ∨ k = (i : Int) + 1 → Calls Tryd.prog 13 #[.string s, .int .i64 k] w fun e w' => e = .returned (.bool (dgAt s k)) ∧ w' = w) := by
          rintro k w (rfl | rfl)
          · exact isDigitAt_any s i w (by omega) (by unfold maxLen; omega)
          · exact isDigitAt_any s (i + 1) w (by omega) (by unfold maxLen; omega)
        have g0 : dgAt s (i : Int) = false := by unfold dgAt; rw [Int.toNat_natCast, drop_at s i hi]; simpa using hd
        have h45' : (s[i].toNat : Int) = 45 := by omega
        rw [h45'] at C1a
        have C1 : Hid _ := C1a
        cases hd2 : (s.data.toList.drop (i + 1)).head?.any digB with
        | true =>
          have g1 : dgAt s ((i : Int) + 1) = true := hd2
          clear C1a C4a
          have hn := pre_le digB (s.data.toList.drop (i + 1))
          rw [List.length_drop, list_len] at hn
          have hV0 : (tok (s.data.toList.drop i)).val i (s.data.toList.drop i) = numVal i ((s.data.toList.drop i).take (pre digB (s.data.toList.drop (i + 1)) + 1)) := by
            have e := tok_num (l := s.data.toList.drop (i + 1)) i hlet (.inr ⟨h45, hd2⟩)
            rwa [← drop_at s i hi] at e
          have C2 : Hid (∀ w, Calls Tryd.prog 9 #[.string s, .int .i64 ((i : Int) + 1), .func (.func 15) #[] #[]] w fun e w' => e = .returned (.int .i64 ((i + 1 + pre digB (s.data.toList.drop (i + 1)) : Nat) : Int)) ∧ w' = w) := fun w => past_any isDigit_any ent_digit s (i + 1) w hi hs
          generalize pre digB (s.data.toList.drop (i + 1)) = k at hn hV0 C2
          have C3 : Hid (∀ w, Laid w → Calls Tryd.prog 14 #[.string s, .int .i64 i, .int .i64 ((i + 1 + k : Nat) : Int)] w fun e w' => e = .returned (numVal i ((s.data.toList.drop i).take (k + 1))) ∧ Below w.heap.size w w') := fun w hl => by
            have := numberTo_any s i (i + 1 + k) w hl (by omega) (by omega) hs
            rwa [show i + 1 + k - i = k + 1 by omega] at this
          obtain ⟨p, tx, b, n, c, hf⟩ := numVal_form i ((s.data.toList.drop i).take (k + 1))
          rw [hf] at hV0 C3
          have hV : Hid _ := hV0
          generalize i + 1 + k = j at C2 C3
          clear hf hV0 hn hlet hd hd2 h45
          go_enter Tryd.func7, Tryd.ntmps7
          go_wp2_with fail
          have T : Hid _ := TB.start hw.out
          generalize w.alloc (.cells Z4 29) = w1 at T ⊢
          go_wp2_with (first
            | (go_at_call 11; refine (C1.out _).mono ?_; rintro e w' ⟨rfl, rfl⟩)
            | (go_at_call 13; refine (C4.out _ _ (by omega)).mono ?_; rintro e w' ⟨rfl, rfl⟩)
            | (go_at_call 9; refine (C2.out _).mono ?_; rintro e w' ⟨rfl, rfl⟩)
            | (go_at_call 14; refine (C3.out _ T.out.laid).mono ?_; rintro e w5 ⟨rfl, b5⟩; have N5 : Hid (TB w w5) := T.out.below b5; clear b5; have r0 := cellOf N5.out.res 0 _ rfl; have r1 := cellOf N5.out.res 1 _ rfl; have r2 := cellOf N5.out.res 2 _ rfl; have r3 := cellOf N5.out.res 3 _ rfl; have q0 := freeOf N5.out.res 0; have q1 := freeOf N5.out.res 1; have q2 := freeOf N5.out.res 2; have q3 := freeOf N5.out.res 3))
          have D := stored4 N5.out.res N5.out.bel (Nat.le_refl _) (.int .i64 p) (.string tx) (.bool b) (.int .i64 n)
          have x0 := cellOf D.1 0 _ rfl
          have x1 := cellOf D.1 1 _ rfl
          have x2 := cellOf D.1 2 _ rfl
          have x3 := cellOf D.1 3 _ rfl
          have DD : Hid _ := D.2
          clear D N5 r0 r1 r2 r3 q0 q1 q2 q3
          generalize (((World.setCell _ ⟨w.heap.size, 0, none⟩ (.int .i64 p)).setCell ⟨w.heap.size, 1, none⟩ (.string tx)).setCell ⟨w.heap.size, 2, none⟩ (.bool b)).setCell ⟨w.heap.size, 3, none⟩ (.int .i64 n) = w9 at DD x0 x1 x2 x3 ⊢
          exact bodyPost_ret (v := .tuple #[.agg #[.int .i64 p, .string tx, .bool b, .int .i64 n], .int .i64 c]) (by simp [results, Tryd.results7, go_sem, x0, x1, x2, x3]) rfl ⟨by rw [hV.out], DD.out⟩
        | false =>
          have g1 : dgAt s ((i : Int) + 1) = false := hd2
          have C6a := fun w => prefix_any (s.extract i s.size) ⟨#[45, 62]⟩ w
          have hex : (s.extract i s.size).data.toList = s[i] :: s.data.toList.drop (i + 1) := by rw [ext_list, ← drop_at s i hi]; rw [List.take_of_length_le (by rw [List.length_drop, list_len]; omega)]
          have hap := arrow_pre (c := s[i]) (l := s.data.toList.drop (i + 1))
          rw [hex] at C6a
          clear hex C1a C4a
          by_cases h62 : (s.data.toList.drop (i + 1)).head?.any (fun d => d.toNat == 62) = true
          · have hpt : Lib.hasPrefix (s[i] :: s.data.toList.drop (i + 1)) [45, 62] = true := hap.2 ⟨h45, h62⟩
            have C6 : Hid (∀ w, Calls Tryd.prog 16 #[.string (s.extract i s.size), .string ⟨#[45, 62]⟩] w fun e w' => e = .returned (.bool true) ∧ w' = w) := by
              intro w; have := C6a w; rw [show (⟨#[45, 62]⟩ : ByteArray).data.toList = [45, 62] from rfl, hpt] at this; exact this
            have hV0 := tok_arrow (l := s.data.toList.drop (i + 1)) hlet h45 h62
            rw [← drop_at s i hi] at hV0
            have hV : Hid ((tok (s.data.toList.drop i)).val i (s.data.toList.drop i) = .tuple #[.agg #[.int .i64 i, .string (str ((s.data.toList.drop i).take 2)), .bool false, .int .i64 0], .int .i64 0]) := by show _ = _; rw [hV0]; rfl
            have hi2 : i + 2 ≤ s.size := by
              rcases Nat.lt_or_ge (i + 1) s.size with h | h
              · exact h
              · rw [drop_end s (i + 1) (by omega)] at h62; simp at h62
            have C3 : Hid (∀ w, Calls Tryd.prog 12 #[.string s, .int .i64 i, .int .i64 ((i : Int) + 2)] w fun e w' => e = .returned (.agg #[.int .i64 i, .string (str ((s.data.toList.drop i).take 2)), .bool false, .int .i64 0]) ∧ Below w.heap.size w w') := fun w => by
              have := tokenTo_any s i (i + 2) w (by omega) hi2 hs
              rwa [Nat.add_sub_cancel_left] at this
            generalize (s.data.toList.drop i).take 2 = l at hV C3
            clear hlet hd hd2 h45 h62 hpt hap C6a hV0
            go_enter Tryd.func7, Tryd.ntmps7
            go_wp2_with fail
            have T : Hid _ := TB.start hw.out
            generalize w.alloc (.cells Z4 29) = w1 at T ⊢
            go_wp2_with (first
              | (go_at_call 11; refine (C1.out _).mono ?_; rintro e w' ⟨rfl, rfl⟩)
              | (go_at_call 13; refine (C4.out _ _ (by omega)).mono ?_; rintro e w' ⟨rfl, rfl⟩)
              | (go_at_call 16; refine (C6.out _).mono ?_; rintro e w' ⟨rfl, rfl⟩)
              | (go_at_call 12; refine (C3.out _).mono ?_; rintro e w5 ⟨rfl, b5⟩; have N5 : Hid (TB w w5) := T.out.below b5; clear b5; have r0 := cellOf N5.out.res 0 _ rfl; have r1 := cellOf N5.out.res 1 _ rfl; have r2 := cellOf N5.out.res 2 _ rfl; have r3 := cellOf N5.out.res 3 _ rfl; have q0 := freeOf N5.out.res 0; have q1 := freeOf N5.out.res 1; have q2 := freeOf N5.out.res 2; have q3 := freeOf N5.out.res 3))
            have D := stored4 N5.out.res N5.out.bel (Nat.le_refl _) (.int .i64 i) (.string (str l)) (.bool false) (.int .i64 0)
            have x0 := cellOf D.1 0 _ rfl
            have x1 := cellOf D.1 1 _ rfl
            have x2 := cellOf D.1 2 _ rfl
            have x3 := cellOf D.1 3 _ rfl
            have DD : Hid _ := D.2
            clear D N5 r0 r1 r2 r3 q0 q1 q2 q3
            generalize (((World.setCell _ ⟨w.heap.size, 0, none⟩ (.int .i64 i)).setCell ⟨w.heap.size, 1, none⟩ (.string (str l))).setCell ⟨w.heap.size, 2, none⟩ (.bool false)).setCell ⟨w.heap.size, 3, none⟩ (.int .i64 0) = w9 at DD x0 x1 x2 x3 ⊢
            exact bodyPost_ret (v := .tuple #[.agg #[.int .i64 i, .string (str l), .bool false, .int .i64 0], .int .i64 0]) (by simp [results, Tryd.results7, go_sem, x0, x1, x2, x3]) rfl ⟨by rw [hV.out], DD.out⟩
          · have hpt : Lib.hasPrefix (s[i] :: s.data.toList.drop (i + 1)) [45, 62] = false := by
              cases e : Lib.hasPrefix (s[i] :: s.data.toList.drop (i + 1)) [45, 62] with
              | false => rfl
              | true => exact absurd (hap.1 e).2 h62
            have C6 : Hid (∀ w, Calls Tryd.prog 16 #[.string (s.extract i s.size), .string ⟨#[45, 62]⟩] w fun e w' => e = .returned (.bool false) ∧ w' = w) := by
              intro w; have := C6a w; rw [show (⟨#[45, 62]⟩ : ByteArray).data.toList = [45, 62] from rfl, hpt] at this; exact this
            have hsg : sigB s[i] = false := not_sign h45 rfl
            have C7a := kind_at isSign_any hsg
            rw [h45'] at C7a
            have C7 : Hid _ := C7a
            have hV0 := tok_bad (l := s.data.toList.drop (i + 1)) hlet hsg (fun h => h62 h.2) (fun h => h.elim (fun a => by rw [hd] at a; cases a) (fun a => by rw [hd2] at a; cases a.2))
            rw [← drop_at s i hi] at hV0
            have hV : Hid ((tok (s.data.toList.drop i)).val i (s.data.toList.drop i) = .tuple #[.agg #[.int .i64 0, .string ⟨#[]⟩, .bool false, .int .i64 0], .int .i64 6]) := by show _ = _; rw [hV0]; rfl
            clear hlet hd hd2 h45 h62 hpt hap C6a hV0 hsg C7a
            go_enter Tryd.func7, Tryd.ntmps7
            go_wp2_with fail
            have T : Hid _ := TB.start hw.out
            generalize w.alloc (.cells Z4 29) = w1 at T ⊢
            have N5 : Hid (TB w w1) := T.out
            have r0 := cellOf N5.out.res 0 _ rfl
            have r1 := cellOf N5.out.res 1 _ rfl
            have r2 := cellOf N5.out.res 2 _ rfl
            have r3 := cellOf N5.out.res 3 _ rfl
            have q0 := freeOf N5.out.res 0
            have q1 := freeOf N5.out.res 1
            have q2 := freeOf N5.out.res 2
            have q3 := freeOf N5.out.res 3
            go_wp2_with (first
              | (go_at_call 11; refine (C1.out _).mono ?_; rintro e w' ⟨rfl, rfl⟩)
              | (go_at_call 13; refine (C4.out _ _ (by omega)).mono ?_; rintro e w' ⟨rfl, rfl⟩)
              | (go_at_call 16; refine (C6.out _).mono ?_; rintro e w' ⟨rfl, rfl⟩)
              | (go_at_call 17; refine (C7.out _).mono ?_; rintro e w' ⟨rfl, rfl⟩))
            have D := stored4 N5.out.res N5.out.bel (Nat.le_refl _) (.int .i64 0) (.string ⟨#[]⟩) (.bool false) (.int .i64 0)
            have x0 := cellOf D.1 0 _ rfl
            have x1 := cellOf D.1 1 _ rfl
            have x2 := cellOf D.1 2 _ rfl
            have x3 := cellOf D.1 3 _ rfl
            have DD : Hid _ := D.2
            clear D N5 r0 r1 r2 r3 q0 q1 q2 q3
            generalize (((World.setCell _ ⟨w.heap.size, 0, none⟩ (.int .i64 0)).setCell ⟨w.heap.size, 1, none⟩ (.string ⟨#[]⟩)).setCell ⟨w.heap.size, 2, none⟩ (.bool false)).setCell ⟨w.heap.size, 3, none⟩ (.int .i64 0) = w9 at DD x0 x1 x2 x3 ⊢
            exact bodyPost_ret (v := .tuple #[.agg #[.int .i64 0, .string ⟨#[]⟩, .bool false, .int .i64 0], .int .i64 6]) (by simp [results, Tryd.results7, go_sem, x0, x1, x2, x3]) rfl ⟨by rw [hV.out], DD.out⟩
      · have h45' : ¬ (s[i].toNat : Int) = 45 := by omega
        have C1 : Hid _ := C1a
        rw [hd] at C4a
        have C4 : Hid _ := C4a
        have C6a := fun w => prefix_any (s.extract i s.size) ⟨#[45, 62]⟩ w
        have hex : (s.extract i s.size).data.toList = s[i] :: s.data.toList.drop (i + 1) := by rw [ext_list, ← drop_at s i hi]; rw [List.take_of_length_le (by rw [List.length_drop, list_len]; omega)]
        have hap := arrow_pre (c := s[i]) (l := s.data.toList.drop (i + 1))
        rw [hex] at C6a
        have hpt : Lib.hasPrefix (s[i] :: s.data.toList.drop (i + 1)) [45, 62] = false := by
          cases e : Lib.hasPrefix (s[i] :: s.data.toList.drop (i + 1)) [45, 62] with
          | false => rfl
          | true => exact absurd (hap.1 e).1 h45
        have C6 : Hid (∀ w, Calls Tryd.prog 16 #[.string (s.extract i s.size), .string ⟨#[45, 62]⟩] w fun e w' => e = .returned (.bool false) ∧ w' = w) := by
          intro w; have := C6a w; rw [show (⟨#[45, 62]⟩ : ByteArray).data.toList = [45, 62] from rfl, hpt] at this; exact this
        clear hex C1a C4a hap hpt C6a
        cases hsg : sigB s[i] with
        | true =>
          have C7 : Hid _ := kind_at isSign_any hsg
          have hV0 := tok_sign (l := s.data.toList.drop (i + 1)) hlet hsg
          rw [← drop_at s i hi] at hV0
          have hV : Hid ((tok (s.data.toList.drop i)).val i (s.data.toList.drop i) = .tuple #[.agg #[.int .i64 i, .string (str ((s.data.toList.drop i).take 1)), .bool false, .int .i64 0], .int .i64 0]) := by show _ = _; rw [hV0]; rfl
          have C3 : Hid (∀ w, Calls Tryd.prog 12 #[.string s, .int .i64 i, .int .i64 ((i : Int) + 1)] w fun e w' => e = .returned (.agg #[.int .i64 i, .string (str ((s.data.toList.drop i).take 1)), .bool false, .int .i64 0]) ∧ Below w.heap.size w w') := fun w => by
            have := tokenTo_any s i (i + 1) w (by omega) hi hs
            rwa [Nat.add_sub_cancel_left] at this
          generalize (s.data.toList.drop i).take 1 = l at hV C3
          clear hlet hd h45 hsg hV0
          go_enter Tryd.func7, Tryd.ntmps7
          go_wp2_with fail
          have T : Hid _ := TB.start hw.out
          generalize w.alloc (.cells Z4 29) = w1 at T ⊢
          go_wp2_with (first
            | (go_at_call 11; refine (C1.out _).mono ?_; rintro e w' ⟨rfl, rfl⟩)
            | (go_at_call 13; refine (C4.out _).mono ?_; rintro e w' ⟨rfl, rfl⟩)
            | (go_at_call 16; refine (C6.out _).mono ?_; rintro e w' ⟨rfl, rfl⟩)
            | (go_at_call 17; refine (C7.out _).mono ?_; rintro e w' ⟨rfl, rfl⟩)
            | (go_at_call 12; refine (C3.out _).mono ?_; rintro e w5 ⟨rfl, b5⟩; have N5 : Hid (TB w w5) := T.out.below b5; clear b5; have r0 := cellOf N5.out.res 0 _ rfl; have r1 := cellOf N5.out.res 1 _ rfl; have r2 := cellOf N5.out.res 2 _ rfl; have r3 := cellOf N5.out.res 3 _ rfl; have q0 := freeOf N5.out.res 0; have q1 := freeOf N5.out.res 1; have q2 := freeOf N5.out.res 2; have q3 := freeOf N5.out.res 3))
          have D := stored4 N5.out.res N5.out.bel (Nat.le_refl _) (.int .i64 i) (.string (str l)) (.bool false) (.int .i64 0)
          have x0 := cellOf D.1 0 _ rfl
          have x1 := cellOf D.1 1 _ rfl
          have x2 := cellOf D.1 2 _ rfl
          have x3 := cellOf D.1 3 _ rfl
          have DD : Hid _ := D.2
          clear D N5 r0 r1 r2 r3 q0 q1 q2 q3
          generalize (((World.setCell _ ⟨w.heap.size, 0, none⟩ (.int .i64 i)).setCell ⟨w.heap.size, 1, none⟩ (.string (str l))).setCell ⟨w.heap.size, 2, none⟩ (.bool false)).setCell ⟨w.heap.size, 3, none⟩ (.int .i64 0) = w9 at DD x0 x1 x2 x3 ⊢
          exact bodyPost_ret (v := .tuple #[.agg #[.int .i64 i, .string (str l), .bool false, .int .i64 0], .int .i64 0]) (by simp [results, Tryd.results7, go_sem, x0, x1, x2, x3]) rfl ⟨by rw [hV.out], DD.out⟩
        | false =>
          have C7 : Hid _ := kind_at isSign_any hsg
          have hV0 := tok_bad (l := s.data.toList.drop (i + 1)) hlet hsg (fun h => h45 h.1) (fun h => h.elim (fun a => by rw [hd] at a; cases a) (fun a => h45 a.1))
          rw [← drop_at s i hi] at hV0
          have hV : Hid ((tok (s.data.toList.drop i)).val i (s.data.toList.drop i) = .tuple #[.agg #[.int .i64 0, .string ⟨#[]⟩, .bool false, .int .i64 0], .int .i64 6]) := by show _ = _; rw [hV0]; rfl
          clear hlet hd h45 hsg hV0
          go_enter Tryd.func7, Tryd.ntmps7
          go_wp2_with fail
          have T : Hid _ := TB.start hw.out
          generalize w.alloc (.cells Z4 29) = w1 at T ⊢
          have N5 : Hid (TB w w1) := T.out
          have r0 := cellOf N5.out.res 0 _ rfl
          have r1 := cellOf N5.out.res 1 _ rfl
          have r2 := cellOf N5.out.res 2 _ rfl
          have r3 := cellOf N5.out.res 3 _ rfl
          have q0 := freeOf N5.out.res 0
          have q1 := freeOf N5.out.res 1
          have q2 := freeOf N5.out.res 2
          have q3 := freeOf N5.out.res 3
          go_wp2_with (first
            | (go_at_call 11; refine (C1.out _).mono ?_; rintro e w' ⟨rfl, rfl⟩)
            | (go_at_call 13; refine (C4.out _).mono ?_; rintro e w' ⟨rfl, rfl⟩)
            | (go_at_call 16; refine (C6.out _).mono ?_; rintro e w' ⟨rfl, rfl⟩)
            | (go_at_call 17; refine (C7.out _).mono ?_; rintro e w' ⟨rfl, rfl⟩))
          have D := stored4 N5.out.res N5.out.bel (Nat.le_refl _) (.int .i64 0) (.string ⟨#[]⟩) (.bool false) (.int .i64 0)
          have x0 := cellOf D.1 0 _ rfl
          have x1 := cellOf D.1 1 _ rfl
          have x2 := cellOf D.1 2 _ rfl
          have x3 := cellOf D.1 3 _ rfl
          have DD : Hid _ := D.2
          clear D N5 r0 r1 r2 r3 q0 q1 q2 q3
          generalize (((World.setCell _ ⟨w.heap.size, 0, none⟩ (.int .i64 0)).setCell ⟨w.heap.size, 1, none⟩ (.string ⟨#[]⟩)).setCell ⟨w.heap.size, 2, none⟩ (.bool false)).setCell ⟨w.heap.size, 3, none⟩ (.int .i64 0) = w9 at DD x0 x1 x2 x3 ⊢
          exact bodyPost_ret (v := .tuple #[.agg #[.int .i64 0, .string ⟨#[]⟩, .bool false, .int .i64 0], .int .i64 6]) (by simp [results, Tryd.results7, go_sem, x0, x1, x2, x3]) rfl ⟨by rw [hV.out], DD.out⟩
end Go.Proofs.YtlahoehngnebnacDoor
