/-
  The reference's Scan.
-/
import Derived.Test.YtlahoehngnebnabDoorTokRef
import Derived.Test.YtlahoehngnebnabDoorTokScan
import Derived.Deep.DeepCutAuto
import Derived.Deep.CutBlock
namespace Go.Proofs.YtlahoehngnebnabDoor
open Go.ChangeShapes Go.WideShapes Go.ChangeAt Go.RowKit Go.Shelf
set_option linter.unusedVariables false
set_option linter.unusedSimpArgs false

theorem underTr : Tryd.prog.underlying 42 = some (.slice 47) := by kernel_rfl
theorem infoTr : (Tryd.prog.info? 47).map (fun i => (i.zero, i.size, i.bytes)) = some (some (.agg #[.int .i64 0, .string ⟨#[]⟩, .bool false, .int .i64 0]), 4, 40) := by kernel_rfl
theorem infoTr_parts : ∃ i, Tryd.prog.info? 47 = some i ∧ i.zero = some (.agg #[.int .i64 0, .string ⟨#[]⟩, .bool false, .int .i64 0]) ∧ i.size = 4 ∧ i.bytes = 40 := by
  have h := infoTr
  cases e : Tryd.prog.info? 47 with
  | none => rw [e] at h; cases h
  | some i =>
    rw [e] at h
    simp only [Option.map_some, Option.some.injEq, Prod.mk.injEq] at h
    exact ⟨i, rfl, h.1, h.2.1, h.2.2⟩
/-- A number's token, or none. -/
theorem tok_num2 {c : UInt8} {l : List UInt8} (h0 : letB c = false) (h : digB c = true ∨ (c.toNat = 45 ∧ l.head?.any digB = true)) : tok (c :: l) = (match numOf ((c :: l).take (pre digB l + 1)) with | some v => .ok (pre digB l + 1) true v | none => .bad 8) := by
  have hs : sigB c = false := by
    rcases h with h | ⟨h, _⟩
    · simp only [digB, Bool.and_eq_true, decide_eq_true_eq] at h
      simp [sigB]; omega
    · exact not_sign h rfl
  have ha : ¬ (c.toNat = 45 ∧ l.head?.any (fun d => d.toNat == 62) = true) := by
    rintro ⟨a, b⟩
    rcases h with h | ⟨_, h⟩
    · simp [digB, a] at h
    · cases l with
      | nil => simp at h
      | cons d l =>
        simp at b h
        simp [digB, b] at h
  have h1 : tokLen (c :: l) = (pre digB l + 1, true) := by simp only [tokLen, h0, hs, if_neg ha, if_pos h]; simp
  simp only [tok, h1]
  rw [if_neg (by omega)]
  simp only [if_true]
  cases numOf ((c :: l).take (pre digB l + 1)) <;> rfl

/-- A digit, by its number. -/
def dgI (x : Int) : Bool := decide (48 ≤ x.toNat) && decide (x.toNat ≤ 57)
set_option maxHeartbeats 16000000 in
set_option maxRecDepth 100000 in
theorem rScan_any (s : ByteArray) (w : World) (hw0 : Laid w) (hs : s.size ≤ maxLen) :
    Calls Tryd.prog 19 #[.string s] w fun e w' => ScOut w w' (scanL s.data.toList) e := by
  unfold maxLen at hs
  by_cases hbig : 40000 < s.size
  · have hV : Hid (scanL s.data.toList = .fault 2 40000) := by
      show _ = _
      rw [scanL, if_pos (by rw [list_len]; exact hbig)]
    generalize s.data.toList = l at hV
    have hbig' : (40000 : Int) < s.size := by omega
    go_enter Tryd.func19, Tryd.ntmps19
    go_wp2_with fail
    have hF0 : Hid (Blk (w.alloc (.cells #[.int .i64 0, .int .i64 0] 39)) w.heap.size #[.int .i64 0, .int .i64 0] 39) := Blk.new w _ _
    have hB0 : Hid _ := bel1 w (.cells #[.int .i64 0, .int .i64 0] 39)
    refine (rF_any 2 40000 _).mono ?_
    rintro e w3 ⟨rfl, b3⟩
    have hF : Hid (Blk w3 w.heap.size #[.int .i64 0, .int .i64 0] 39) := hF0.out.below b3
    have hB : Hid (Below w.heap.size w w3) := Below.andThen hB0.out b3
    have y0 := cellOf hF.out 0 _ rfl
    have y1 := cellOf hF.out 1 _ rfl
    have z0 := freeOf hF.out 0
    have z1 := freeOf hF.out 1
    clear b3 hF0 hB0
    go_wp2
    have D := stored2 hF.out hB.out (Nat.le_refl _) (.int .i64 2) (.int .i64 40000)
    have DD : Hid _ := D.2
    have x0 := cellOf D.1 0 _ rfl
    have x1 := cellOf D.1 1 _ rfl
    clear D y0 y1 z0 z1 hF hB
    generalize (w3.setCell ⟨w.heap.size, 0, none⟩ (.int .i64 2)).setCell ⟨w.heap.size, 1, none⟩ (.int .i64 40000) = w9 at DD x0 x1 ⊢
    exact bodyPost_ret (v := .tuple #[.slice none 0 0, .agg #[.int .i64 2, .int .i64 40000]]) (by simp [results, Tryd.results19, go_sem, x0, x1]) rfl (scOut_fault hV.out DD.out)
  · have hw : Hid (Laid w) := hw0
    have hbig' : ¬ (40000 : Int) < s.size := by omega
    have hs2 : s.size ≤ 40000 := by omega
    have hll : s.data.toList.length = s.size := list_len s
    have HL : Hid (s.data.toList.length = s.size) := hll
    obtain ⟨i0, hi, hz0, hz1, hz2⟩ := infoTr_parts
    clear hw0 hll
    go_enter Tryd.func19, Tryd.ntmps19
    go_wp2_with fail
    have S0 : Hid _ := SB.start (T := 47) (w := w) (l := s.data.toList) (by rw [HL.out]; exact hbig)
    have C0 : Hid (∀ w, Calls Tryd.prog 36 #[.string s, .int .i64 0] w fun e w' => e = .returned (.int .i64 ((blk false s.data.toList : Nat) : Int)) ∧ w' = w) := fun w => by
      have := begins_any s 0 w (Nat.zero_le _) (by omega)
      rw [List.drop_zero, Nat.zero_add] at this
      exact this
    generalize w.alloc (.cells #[.int .i64 0, .int .i64 0] 39) = w1 at S0 ⊢
    go_wp2_with (go_at_call 36; refine (C0.out _).mono ?_; rintro e w' ⟨rfl, h'⟩; obtain rfl := h'.symm)
    clear C0
    go_loopw [4, 5] (fun v i wr => ∃ (pos : Nat) (acc : List Tk) (xs : List Value), i = .int .i64 pos ∧ SB 47 w wr s.data.toList pos v acc xs) (fun _ i _ => s.size - (intOf i).toNat)
    case atStart => exact ⟨_, _, _, rfl, S0.out⟩
    case round =>
      obtain ⟨pos, acc, xs, rfl, hrel⟩ := hrel
      have R : Hid (SB 47 w wr s.data.toList pos u4 acc xs) := hrel
      have hp1 : pos ≤ s.size := by have := hrel.pos_le; rwa [HL.out] at this
      have hacc : acc.length ≤ pos := hrel.len
      have hsz : w.heap.size < wr.heap.size := hrel.flt.lt
      clear hrel S0
      by_cases hlt : pos < s.size
      · have hlt' : (pos : Int) < s.size := by omega
        cases hlet : letB s[pos] with
        | true =>
          have hT0 := tok_let (l := s.data.toList.drop (pos + 1)) hlet
          rw [← drop_at s pos hlt] at hT0
          have hT : Hid (tok (s.data.toList.drop pos) = .ok (pre letB (s.data.toList.drop pos)) false 0) := hT0
          have C1 : Hid _ := kind_at rLetter_any hlet
          obtain ⟨hk1, hk2, hk3⟩ := tok_pos hT.out
          rw [List.length_drop, HL.out] at hk2
          clear hk3
          have C2 : Hid (∀ w, Calls Tryd.prog 36 #[.string s, .int .i64 ((pos + pre letB (s.data.toList.drop pos) : Nat) : Int)] w fun e w' => e = .returned (.int .i64 ((pos + pre letB (s.data.toList.drop pos) + blk false (s.data.toList.drop (pos + pre letB (s.data.toList.drop pos))) : Nat) : Int)) ∧ w' = w) := fun w => begins_any s (pos + pre letB (s.data.toList.drop pos)) w (by omega) (by omega)
          have PU : Hid (∀ g cap w4 w9, Below wr.heap.size wr w4 → w9.ownsRow (w.heap.size + 1) 47 4 (.slice (some ⟨g, 0, none⟩) (acc.length + 1) cap) (acc.length + 1) (xs ++ [.int .i64 pos, .string (s.extract pos (pos + pre letB (s.data.toList.drop pos))), .bool false, .int .i64 0]) → w4.grownBy w9 u4.ownBlock → (u4.ownBlock = some g ∨ g = w4.heap.size) →
              ∃ acc' xs', SB 47 w w9 s.data.toList (pos + pre letB (s.data.toList.drop pos) + blk false (s.data.toList.drop (pos + pre letB (s.data.toList.drop pos)))) (.slice (some ⟨g, 0, none⟩) (acc.length + 1) cap) acc' xs') := fun g cap w4 w9 h0 h1 h2 h3 => ⟨_, _, R.out.push h0 (by rw [HL.out]; exact hlt) hT.out (by rw [ext_str, Nat.add_sub_cancel_left] at h1; exact h1) h2 h3⟩
          generalize hnp : pos + pre letB (s.data.toList.drop pos) + blk false (s.data.toList.drop (pos + pre letB (s.data.toList.drop pos))) = np at C2 PU
          have hnp' : Hid (pos < np) := by show _ < _; omega
          generalize hj0 : pos + pre letB (s.data.toList.drop pos) = j at C2 PU
          have hj : Hid (pos + pre letB (s.data.toList.drop pos) = j) := hj0
          have hj1 : pos ≤ j := by omega
          have hj2 : j ≤ s.size := by omega
          have hj1' : (pos : Int) ≤ j := by omega
          have hj2' : (j : Int) ≤ s.size := by omega
          clear hnp hj0
          have B2 : Hid (Below wr.heap.size wr wr) := Below.refl _ _
          have hz : wr.heap.size ≤ wr.heap.size := Nat.le_refl _
          have ho2 : Hid (wr.ownsRow (w.heap.size + 1) 47 4 u4 acc.length xs) := R.out.row.own
          clear R hT hT0 hlet
          go_wp2_with (go_at_call 37; refine (C1.out _).mono ?_; rintro e w' ⟨rfl, h'⟩; obtain rfl := h'.symm)
          clear C1
          go_loop [5] (fun t => ∃ m : Nat, m ≤ s.size ∧ t = .int .i64 m ∧ m + pre letB (s.data.toList.drop m) = pos + pre letB (s.data.toList.drop pos)) (fun t => s.size - (intOf t).toNat)
          case atStart => exact ⟨pos, hp1, rfl, rfl⟩
          case round =>
            obtain ⟨m, hm1, rfl, hrel⟩ := hrel
            have RR : Hid (m + pre letB (s.data.toList.drop m) = pos + pre letB (s.data.toList.drop pos)) := hrel
            clear hrel
            by_cases hmt : m < s.size
            · have hmt' : (m : Int) < s.size := by omega
              cases hc : letB s[m] with
              | true =>
                have RR2 : Hid (m + 1 + pre letB (s.data.toList.drop (m + 1)) = pos + pre letB (s.data.toList.drop pos)) := by
                  show _ = _
                  rw [← RR.out, drop_at s m hmt, pre_yes hc]; omega
                have C1 : Hid _ := kind_at rLetter_any hc
                clear hc RR
                go_wp2_with (go_at_call 37; refine (C1.out _).mono ?_; rintro e w' ⟨rfl, h'⟩; obtain rfl := h'.symm)
                go_round
                case rel => exact ⟨m + 1, by omega, by go_num, RR2.out⟩
                case measure => simp [intOf]; omega
              | false =>
                have hm : m = j := by
                  rw [← hj.out, ← RR.out, drop_at s m hmt, pre_no hc]; omega
                have C1 : Hid _ := kind_at rLetter_any hc
                clear hc RR hj
                subst hm
                go_upto_region 10 with (go_at_call 37; refine (C1.out _).mono ?_; rintro e w' ⟨rfl, h'⟩; obtain rfl := h'.symm)
                clear C1
                go_wp2_with (at_builtin; refine wpList_append_lies _ rfl (.tmp 36) (.tmp 43) 42 rfl (w.heap.size + 1) 47 i0 (.agg #[.int .i64 0, .string ⟨#[]⟩, .bool false, .int .i64 0]) 4 40 underTr hi hz0 hz1 hz2 rfl (by decide) _ _ _ rfl (ho2.out.alloc _) ⟨wr.heap.size, 0, none⟩ 1 1 [.int .i64 pos, .string (s.extract pos m), .bool false, .int .i64 0] rfl rfl (news4 _ _ _ _ _ _) (one4 _ _ _ _) (by decide) (by unfold maxLen; omega) (by omega) (by simp; omega) (wr.heap.size + 1) (by simp) ?_)
                intro g2 cap2 w9 h1 hgrow hat hlt1
                have U2 : Hid _ := PU.out g2 cap2 _ w9 (B2.out.alloc hz _) h1 hgrow (by simpa using hat)
                clear h1 hgrow hat hlt1 PU B2 ho2
                go_wp2_with (go_at_call 36; refine (C2.out _).mono ?_; rintro e w' ⟨rfl, h'⟩; obtain rfl := h'.symm)
                go_roundw
                case rel =>
                  obtain ⟨acc', xs', h⟩ := U2.out
                  exact ⟨np, acc', xs', rfl, h⟩
                case measure => have := hnp'.out; simp [intOf]; omega
            · have hmt' : ¬ (m : Int) < s.size := by omega
              have hm : m = j := by
                rw [← hj.out, ← RR.out, drop_end s m hmt]; simp [pre]
              clear RR hj
              subst hm
              go_upto_region 10 with fail
              go_wp2_with (at_builtin; refine wpList_append_lies _ rfl (.tmp 36) (.tmp 43) 42 rfl (w.heap.size + 1) 47 i0 (.agg #[.int .i64 0, .string ⟨#[]⟩, .bool false, .int .i64 0]) 4 40 underTr hi hz0 hz1 hz2 rfl (by decide) _ _ _ rfl (ho2.out.alloc _) ⟨wr.heap.size, 0, none⟩ 1 1 [.int .i64 pos, .string (s.extract pos m), .bool false, .int .i64 0] rfl rfl (news4 _ _ _ _ _ _) (one4 _ _ _ _) (by decide) (by unfold maxLen; omega) (by omega) (by simp; omega) (wr.heap.size + 1) (by simp) ?_)
              intro g2 cap2 w9 h1 hgrow hat hlt1
              have U2 : Hid _ := PU.out g2 cap2 _ w9 (B2.out.alloc hz _) h1 hgrow (by simpa using hat)
              clear h1 hgrow hat hlt1 PU B2 ho2
              go_wp2_with (go_at_call 36; refine (C2.out _).mono ?_; rintro e w' ⟨rfl, h'⟩; obtain rfl := h'.symm)
              go_roundw
              case rel =>
                obtain ⟨acc', xs', h⟩ := U2.out
                exact ⟨np, acc', xs', rfl, h⟩
              case measure => have := hnp'.out; simp [intOf]; omega
        | false =>
          have C1a := kind_at rLetter_any hlet
          cases hsg : sigB s[pos] with
          | true =>
            have hT0 := tok_sign (l := s.data.toList.drop (pos + 1)) hlet hsg
            rw [← drop_at s pos hlt] at hT0
            have hT : Hid (tok (s.data.toList.drop pos) = .ok 1 false 0) := hT0
            have C1 : Hid _ := C1a
            have C3 : Hid _ := kind_at rSign_any hsg
            obtain ⟨hk1, hk2, hk3⟩ := tok_pos hT.out
            rw [List.length_drop, HL.out] at hk2
            clear hk3
            have C2 : Hid (∀ w, Calls Tryd.prog 36 #[.string s, .int .i64 ((pos + 1 : Nat) : Int)] w fun e w' => e = .returned (.int .i64 ((pos + 1 + blk false (s.data.toList.drop (pos + 1)) : Nat) : Int)) ∧ w' = w) := fun w => begins_any s (pos + 1) w (by omega) (by omega)
            have PU : Hid (∀ g cap w4 w9, Below wr.heap.size wr w4 → w9.ownsRow (w.heap.size + 1) 47 4 (.slice (some ⟨g, 0, none⟩) (acc.length + 1) cap) (acc.length + 1) (xs ++ [.int .i64 pos, .string (s.extract pos (pos + 1)), .bool false, .int .i64 0]) → w4.grownBy w9 u4.ownBlock → (u4.ownBlock = some g ∨ g = w4.heap.size) →
                ∃ acc' xs', SB 47 w w9 s.data.toList (pos + 1 + blk false (s.data.toList.drop (pos + 1))) (.slice (some ⟨g, 0, none⟩) (acc.length + 1) cap) acc' xs') := fun g cap w4 w9 h0 h1 h2 h3 => ⟨_, _, R.out.push h0 (by rw [HL.out]; exact hlt) hT.out (by rw [ext_str, Nat.add_sub_cancel_left] at h1; exact h1) h2 h3⟩
            generalize hnp : pos + 1 + blk false (s.data.toList.drop (pos + 1)) = np at C2 PU
            have hnp' : Hid (pos < np) := by show _ < _; omega
            have B2 : Hid (Below wr.heap.size wr wr) := Below.refl _ _
            have hz : wr.heap.size ≤ wr.heap.size := Nat.le_refl _
            have ho2 : Hid (wr.ownsRow (w.heap.size + 1) 47 4 u4 acc.length xs) := R.out.row.own
            have hj2' : (pos : Int) + 1 ≤ s.size := by omega
            have hsl : ∀ wx, (Instr.slice 9 (.string s) (some (.int .i64 (pos : Int))) (some (.int .i64 ((pos : Int) + 1))) none).run Tryd.prog wx = .ok (.string (s.extract pos (pos + 1))) wx := fun wx => by
              have h := run_slice_string (P := Tryd.prog) wx 9 s .i64 .i64 (pos : Int) ((pos + 1 : Nat) : Int) Tryd.underlying9 (by omega) (by omega) (by omega)
              rw [Int.toNat_natCast, Int.toNat_natCast] at h
              exact h
            have C2b : Hid (∀ w, Calls Tryd.prog 36 #[.string s, .int .i64 ((pos : Int) + 1)] w fun e w' => e = .returned (.int .i64 ((np : Nat) : Int)) ∧ w' = w) := C2.out
            clear C2
            have C2 : Hid _ := C2b.out
            clear R hT hT0 hlet hsg C1a hnp C2b
            go_upto_region 13 with (first | (go_at_call 37; refine (C1.out _).mono ?_; rintro e w' ⟨rfl, h'⟩; obtain rfl := h'.symm) | (go_at_call 38; refine (C3.out _).mono ?_; rintro e w' ⟨rfl, h'⟩; obtain rfl := h'.symm))
            go_wp2_with (at_builtin; refine wpList_append_lies _ rfl (.tmp 51) (.tmp 58) 42 rfl (w.heap.size + 1) 47 i0 (.agg #[.int .i64 0, .string ⟨#[]⟩, .bool false, .int .i64 0]) 4 40 underTr hi hz0 hz1 hz2 rfl (by decide) _ _ _ rfl (ho2.out.alloc _) ⟨wr.heap.size, 0, none⟩ 1 1 [.int .i64 pos, .string (s.extract pos (pos + 1)), .bool false, .int .i64 0] rfl rfl (news4 _ _ _ _ _ _) (one4 _ _ _ _) (by decide) (by unfold maxLen; omega) (by omega) (by simp; omega) (wr.heap.size + 1) (by simp) ?_)
            intro g2 cap2 w9 h1 hgrow hat hlt1
            have U2 : Hid _ := PU.out g2 cap2 _ w9 (B2.out.alloc hz _) h1 hgrow (by simpa using hat)
            clear h1 hgrow hat hlt1 PU B2 ho2
            go_wp2_with (go_at_call 36; refine (C2.out _).mono ?_; rintro e w' ⟨rfl, h'⟩; obtain rfl := h'.symm)
            go_roundw
            case rel =>
              obtain ⟨acc', xs', h⟩ := U2.out
              exact ⟨np, acc', xs', rfl, h⟩
            case measure => have := hnp'.out; simp [intOf]; omega
          | false =>
            have C3a := kind_at rSign_any hsg
            by_cases h45 : s[pos].toNat = 45
            · have h45' : (s[pos].toNat : Int) = 45 := by omega
              rw [h45'] at C1a C3a
              have C1 : Hid _ := C1a
              have C3 : Hid _ := C3a
              have hd45 : digB s[pos] = false := by simp [digB, h45]
              by_cases hn : pos + 1 < s.size
              · have hn' : (pos : Int) + 1 < s.size := by omega
                have hhd : ∀ f : UInt8 → Bool, (s.data.toList.drop (pos + 1)).head?.any f = f s[pos + 1] := fun f => by rw [drop_at s (pos + 1) hn]; simp
                have C5 : Hid (∀ (x : Int) w, x = 45 ∨ x = (s[pos + 1].toNat : Int) → Calls Tryd.prog 39 #[.int .u8 x] w fun e w' => e = .returned (.bool (dgI x)) ∧ w' = w) := by
                  rintro x w (rfl | rfl)
                  · exact rDigit_any 45 w
                  · exact rDigit_any _ w
                have g0 : dgI 45 = false := rfl
                by_cases h62 : s[pos + 1].toNat = 62
                · have h62' : (s[pos + 1].toNat : Int) = 62 := by omega
                  have hT0 := tok_arrow (l := s.data.toList.drop (pos + 1)) hlet h45 (by rw [hhd]; simp [h62])
                  rw [← drop_at s pos hlt] at hT0
                  have hT : Hid (tok (s.data.toList.drop pos) = .ok 2 false 0) := hT0
                  clear hhd C5
                  obtain ⟨hk1, hk2, hk3⟩ := tok_pos hT.out
                  rw [List.length_drop, HL.out] at hk2
                  clear hk3
                  have C2 : Hid (∀ w, Calls Tryd.prog 36 #[.string s, .int .i64 ((pos + 2 : Nat) : Int)] w fun e w' => e = .returned (.int .i64 ((pos + 2 + blk false (s.data.toList.drop (pos + 2)) : Nat) : Int)) ∧ w' = w) := fun w => begins_any s (pos + 2) w (by omega) (by omega)
                  have PU : Hid (∀ g cap w4 w9, Below wr.heap.size wr w4 → w9.ownsRow (w.heap.size + 1) 47 4 (.slice (some ⟨g, 0, none⟩) (acc.length + 1) cap) (acc.length + 1) (xs ++ [.int .i64 pos, .string (s.extract pos (pos + 2)), .bool false, .int .i64 0]) → w4.grownBy w9 u4.ownBlock → (u4.ownBlock = some g ∨ g = w4.heap.size) →
                      ∃ acc' xs', SB 47 w w9 s.data.toList (pos + 2 + blk false (s.data.toList.drop (pos + 2))) (.slice (some ⟨g, 0, none⟩) (acc.length + 1) cap) acc' xs') := fun g cap w4 w9 h0 h1 h2 h3 => ⟨_, _, R.out.push h0 (by rw [HL.out]; exact hlt) hT.out (by rw [ext_str, Nat.add_sub_cancel_left] at h1; exact h1) h2 h3⟩
                  generalize hnp : pos + 2 + blk false (s.data.toList.drop (pos + 2)) = np at C2 PU
                  have hnp' : Hid (pos < np) := by show _ < _; omega
                  have B2 : Hid (Below wr.heap.size wr wr) := Below.refl _ _
                  have hz : wr.heap.size ≤ wr.heap.size := Nat.le_refl _
                  have ho2 : Hid (wr.ownsRow (w.heap.size + 1) 47 4 u4 acc.length xs) := R.out.row.own
                  have hj2' : (pos : Int) + 2 ≤ s.size := by omega
                  have hsl : ∀ wx, (Instr.slice 9 (.string s) (some (.int .i64 (pos : Int))) (some (.int .i64 ((pos : Int) + 2))) none).run Tryd.prog wx = .ok (.string (s.extract pos (pos + 2))) wx := fun wx => by
                    have h := run_slice_string (P := Tryd.prog) wx 9 s .i64 .i64 (pos : Int) ((pos + 2 : Nat) : Int) Tryd.underlying9 (by omega) (by omega) (by omega)
                    rw [Int.toNat_natCast, Int.toNat_natCast] at h
                    exact h
                  have C2b : Hid (∀ w, Calls Tryd.prog 36 #[.string s, .int .i64 ((pos : Int) + 2)] w fun e w' => e = .returned (.int .i64 ((np : Nat) : Int)) ∧ w' = w) := C2.out
                  clear C2
                  have C2 : Hid _ := C2b.out
                  clear R hT hT0 hlet hsg C1a C3a h45 h62 hd45 hnp C2b
                  go_upto_region 16 with (first | (go_at_call 37; refine (C1.out _).mono ?_; rintro e w' ⟨rfl, h'⟩; obtain rfl := h'.symm) | (go_at_call 38; refine (C3.out _).mono ?_; rintro e w' ⟨rfl, h'⟩; obtain rfl := h'.symm))
                  go_wp2_with (at_builtin; refine wpList_append_lies _ rfl (.tmp 80) (.tmp 87) 42 rfl (w.heap.size + 1) 47 i0 (.agg #[.int .i64 0, .string ⟨#[]⟩, .bool false, .int .i64 0]) 4 40 underTr hi hz0 hz1 hz2 rfl (by decide) _ _ _ rfl (ho2.out.alloc _) ⟨wr.heap.size, 0, none⟩ 1 1 [.int .i64 pos, .string (s.extract pos (pos + 2)), .bool false, .int .i64 0] rfl rfl (news4 _ _ _ _ _ _) (one4 _ _ _ _) (by decide) (by unfold maxLen; omega) (by omega) (by simp; omega) (wr.heap.size + 1) (by simp) ?_)
                  intro g2 cap2 w9 h1 hgrow hat hlt1
                  have U2 : Hid _ := PU.out g2 cap2 _ w9 (B2.out.alloc hz _) h1 hgrow (by simpa using hat)
                  clear h1 hgrow hat hlt1 PU B2 ho2
                  go_wp2_with (go_at_call 36; refine (C2.out _).mono ?_; rintro e w' ⟨rfl, h'⟩; obtain rfl := h'.symm)
                  go_roundw
                  case rel =>
                    obtain ⟨acc', xs', h⟩ := U2.out
                    exact ⟨np, acc', xs', rfl, h⟩
                  case measure => have := hnp'.out; simp [intOf]; omega
                · have h62' : ¬ (s[pos + 1].toNat : Int) = 62 := by omega
                  have h62b : ((s[pos + 1].toNat : Int) == 62) = false := by simpa using h62'
                  cases hd2 : digB s[pos + 1] with
                  | true =>
                    have g1 : dgI (s[pos + 1].toNat : Int) = true := hd2
                    have hT1 := tok_num2 (l := s.data.toList.drop (pos + 1)) hlet (.inr ⟨h45, by rw [hhd]; exact hd2⟩)
                    rw [← drop_at s pos hlt] at hT1
                    have hd0 := pre_le digB (s.data.toList.drop (pos + 1))
                    rw [List.length_drop, list_len] at hd0
                    have hx1 : s.extract pos (pos + (pre digB (s.data.toList.drop (pos + 1)) + 1)) = str ((s.data.toList.drop pos).take (pre digB (s.data.toList.drop (pos + 1)) + 1)) := by rw [ext_str, Nat.add_sub_cancel_left]
                    have C4a := rLong_any ((s.data.toList.drop pos).take (pre digB (s.data.toList.drop (pos + 1)) + 1)) wr (hw.out.below R.out.bel) (by rw [List.length_take, List.length_drop, list_len]; omega)
                    rw [← hx1, longVal] at C4a
                    cases hnum : numOf ((s.data.toList.drop pos).take (pre digB (s.data.toList.drop (pos + 1)) + 1)) with
                    | none =>
                      rw [hnum] at hT1 C4a
                      have hV : Hid (scanL s.data.toList = .fault 8 pos) := sc_bad R.out.sofar (by rw [HL.out]; exact hlt) hT1
                      have C4 : Hid (Calls Tryd.prog 40 #[.string (s.extract pos (pos + (pre digB (s.data.toList.drop (pos + 1)) + 1)))] wr fun e w' => e = .returned (.tuple #[.int .i64 0, .bool false]) ∧ Below wr.heap.size wr w') := C4a
                      generalize hj0 : pos + (pre digB (s.data.toList.drop (pos + 1)) + 1) = j at C4
                      have hj : Hid (pos + 1 + pre digB (s.data.toList.drop (pos + 1)) = j) := by show _ = _; omega
                      have hj1' : (pos : Int) ≤ j := by omega
                      have hj2' : (j : Int) ≤ s.size := by omega
                      have hR : Hid _ := And.intro R.out.flt R.out.bel
                      clear R hlet hsg C1a C3a h45 h62 hd45 hhd hd2 C4a hx1 hnum hT1 hj0 hd0
                      go_upto_region 18 with (first | (go_at_call 37; refine (C1.out _).mono ?_; rintro e w' ⟨rfl, h'⟩; obtain rfl := h'.symm) | (go_at_call 38; refine (C3.out _).mono ?_; rintro e w' ⟨rfl, h'⟩; obtain rfl := h'.symm) | (go_at_call 39; refine (C5.out _ _ (by first | exact Or.inl rfl | exact Or.inr rfl)).mono ?_; rintro e w' ⟨rfl, h'⟩; obtain rfl := h'.symm))
                      go_wp2_with fail
                      go_loop [5] (fun t => ∃ m : Nat, m ≤ s.size ∧ t = .int .i64 m ∧ m + pre digB (s.data.toList.drop m) = pos + 1 + pre digB (s.data.toList.drop (pos + 1))) (fun t => s.size - (intOf t).toNat)
                      case atStart => exact ⟨pos + 1, hlt, by go_num, rfl⟩
                      case round =>
                        obtain ⟨m, hm1, rfl, hrel⟩ := hrel
                        have RR : Hid (m + pre digB (s.data.toList.drop m) = pos + 1 + pre digB (s.data.toList.drop (pos + 1))) := hrel
                        clear hrel
                        by_cases hmt : m < s.size
                        · have hmt' : (m : Int) < s.size := by omega
                          cases hc : digB s[m] with
                          | true =>
                            have RR2 : Hid (m + 1 + pre digB (s.data.toList.drop (m + 1)) = pos + 1 + pre digB (s.data.toList.drop (pos + 1))) := by
                              show _ = _
                              rw [← RR.out, drop_at s m hmt, pre_yes hc]; omega
                            have C6 : Hid _ := kind_at rDigit_any hc
                            clear hc RR
                            go_wp2_with (go_at_call 39; refine (C6.out _).mono ?_; rintro e w' ⟨rfl, h'⟩; obtain rfl := h'.symm)
                            go_round
                            case rel => exact ⟨m + 1, by omega, by go_num, RR2.out⟩
                            case measure => simp [intOf]; omega
                          | false =>
                            have hm : m = j := by
                              rw [← hj.out, ← RR.out, drop_at s m hmt, pre_no hc]; omega
                            have C6 : Hid _ := kind_at rDigit_any hc
                            clear hc RR hj
                            subst hm
                            go_upto_region 21 with (go_at_call 39; refine (C6.out _).mono ?_; rintro e w' ⟨rfl, h'⟩; obtain rfl := h'.symm)
                            clear C6
                            go_wp2_with fail
                            refine C4.out.mono ?_
                            rintro e w2 ⟨rfl, b2⟩
                            have hF0 : Hid (Blk w2 w.heap.size #[.int .i64 0, .int .i64 0] 39) := hR.out.1.below b2
                            have hB0 : Hid (Below w.heap.size w w2) := Below.andThen hR.out.2 b2
                            clear C4 hR b2
                            go_wp2_with fail
                            refine (rF_any 8 pos _).mono ?_
                            rintro e w3 ⟨rfl, b3⟩
                            have hF : Hid (Blk w3 w.heap.size #[.int .i64 0, .int .i64 0] 39) := hF0.out.below b3
                            have hB : Hid (Below w.heap.size w w3) := Below.andThen hB0.out b3
                            have y0 := cellOf hF.out 0 _ rfl
                            have y1 := cellOf hF.out 1 _ rfl
                            have z0 := freeOf hF.out 0
                            have z1 := freeOf hF.out 1
                            clear b3 hF0 hB0
                            go_wp2
                            have D := stored2 hF.out hB.out (Nat.le_refl _) (.int .i64 8) (.int .i64 pos)
                            have DD : Hid _ := D.2
                            have x0 := cellOf D.1 0 _ rfl
                            have x1 := cellOf D.1 1 _ rfl
                            clear D y0 y1 z0 z1 hF hB
                            generalize (w3.setCell ⟨w.heap.size, 0, none⟩ (.int .i64 8)).setCell ⟨w.heap.size, 1, none⟩ (.int .i64 pos) = w9 at DD x0 x1 ⊢
                            exact bodyPost_ret (v := .tuple #[.slice none 0 0, .agg #[.int .i64 8, .int .i64 pos]]) (by simp [results, Tryd.results19, go_sem, x0, x1]) rfl (scOut_fault hV.out DD.out)
                        · have hmt' : ¬ (m : Int) < s.size := by omega
                          have hm : m = j := by
                            rw [← hj.out, ← RR.out, drop_end s m hmt]; simp [pre]
                          clear RR hj
                          subst hm
                          go_upto_region 21 with fail
                          go_wp2_with fail
                          refine C4.out.mono ?_
                          rintro e w2 ⟨rfl, b2⟩
                          have hF0 : Hid (Blk w2 w.heap.size #[.int .i64 0, .int .i64 0] 39) := hR.out.1.below b2
                          have hB0 : Hid (Below w.heap.size w w2) := Below.andThen hR.out.2 b2
                          clear C4 hR b2
                          go_wp2_with fail
                          refine (rF_any 8 pos _).mono ?_
                          rintro e w3 ⟨rfl, b3⟩
                          have hF : Hid (Blk w3 w.heap.size #[.int .i64 0, .int .i64 0] 39) := hF0.out.below b3
                          have hB : Hid (Below w.heap.size w w3) := Below.andThen hB0.out b3
                          have y0 := cellOf hF.out 0 _ rfl
                          have y1 := cellOf hF.out 1 _ rfl
                          have z0 := freeOf hF.out 0
                          have z1 := freeOf hF.out 1
                          clear b3 hF0 hB0
                          go_wp2
                          have D := stored2 hF.out hB.out (Nat.le_refl _) (.int .i64 8) (.int .i64 pos)
                          have DD : Hid _ := D.2
                          have x0 := cellOf D.1 0 _ rfl
                          have x1 := cellOf D.1 1 _ rfl
                          clear D y0 y1 z0 z1 hF hB
                          generalize (w3.setCell ⟨w.heap.size, 0, none⟩ (.int .i64 8)).setCell ⟨w.heap.size, 1, none⟩ (.int .i64 pos) = w9 at DD x0 x1 ⊢
                          exact bodyPost_ret (v := .tuple #[.slice none 0 0, .agg #[.int .i64 8, .int .i64 pos]]) (by simp [results, Tryd.results19, go_sem, x0, x1]) rfl (scOut_fault hV.out DD.out)
                    | some v =>
                      rw [hnum] at hT1 C4a
                      have hT : Hid (tok (s.data.toList.drop pos) = .ok (pre digB (s.data.toList.drop (pos + 1)) + 1) true v) := hT1
                      have C4 : Hid (Calls Tryd.prog 40 #[.string (s.extract pos (pos + (pre digB (s.data.toList.drop (pos + 1)) + 1)))] wr fun e w' => e = .returned (.tuple #[.int .i64 v, .bool true]) ∧ Below wr.heap.size wr w') := C4a
                      obtain ⟨hk1, hk2, hk3⟩ := tok_pos hT.out
                      rw [List.length_drop, HL.out] at hk2
                      clear hk3
                      have C2 : Hid (∀ w, Calls Tryd.prog 36 #[.string s, .int .i64 ((pos + (pre digB (s.data.toList.drop (pos + 1)) + 1) : Nat) : Int)] w fun e w' => e = .returned (.int .i64 ((pos + (pre digB (s.data.toList.drop (pos + 1)) + 1) + blk false (s.data.toList.drop (pos + (pre digB (s.data.toList.drop (pos + 1)) + 1))) : Nat) : Int)) ∧ w' = w) := fun w => begins_any s (pos + (pre digB (s.data.toList.drop (pos + 1)) + 1)) w (by omega) (by omega)
                      have PU : Hid (∀ g cap w4 w9, Below wr.heap.size wr w4 → w9.ownsRow (w.heap.size + 1) 47 4 (.slice (some ⟨g, 0, none⟩) (acc.length + 1) cap) (acc.length + 1) (xs ++ [.int .i64 pos, .string (s.extract pos (pos + (pre digB (s.data.toList.drop (pos + 1)) + 1))), .bool true, .int .i64 v]) → w4.grownBy w9 u4.ownBlock → (u4.ownBlock = some g ∨ g = w4.heap.size) →
                          ∃ acc' xs', SB 47 w w9 s.data.toList (pos + (pre digB (s.data.toList.drop (pos + 1)) + 1) + blk false (s.data.toList.drop (pos + (pre digB (s.data.toList.drop (pos + 1)) + 1)))) (.slice (some ⟨g, 0, none⟩) (acc.length + 1) cap) acc' xs') := fun g cap w4 w9 h0 h1 h2 h3 => ⟨_, _, R.out.push h0 (by rw [HL.out]; exact hlt) hT.out (by rw [ext_str, Nat.add_sub_cancel_left] at h1; exact h1) h2 h3⟩
                      generalize hnp : pos + (pre digB (s.data.toList.drop (pos + 1)) + 1) + blk false (s.data.toList.drop (pos + (pre digB (s.data.toList.drop (pos + 1)) + 1))) = np at C2 PU
                      have hnp' : Hid (pos < np) := by show _ < _; omega
                      generalize hj0 : pos + (pre digB (s.data.toList.drop (pos + 1)) + 1) = j at C2 PU C4
                      have hj : Hid (pos + 1 + pre digB (s.data.toList.drop (pos + 1)) = j) := by show _ = _; omega
                      have hj1' : (pos : Int) ≤ j := by omega
                      have hj2' : (j : Int) ≤ s.size := by omega
                      have hR : Hid (∀ w2, Below wr.heap.size wr w2 → w2.ownsRow (w.heap.size + 1) 47 4 u4 acc.length xs) := fun w2 b => (R.out.row.below b).own
                      clear R hlet hsg C1a C3a h45 h62 hd45 hhd hd2 C4a hx1 hnum hT1 hT hj0 hd0 hnp
                      go_upto_region 18 with (first | (go_at_call 37; refine (C1.out _).mono ?_; rintro e w' ⟨rfl, h'⟩; obtain rfl := h'.symm) | (go_at_call 38; refine (C3.out _).mono ?_; rintro e w' ⟨rfl, h'⟩; obtain rfl := h'.symm) | (go_at_call 39; refine (C5.out _ _ (by first | exact Or.inl rfl | exact Or.inr rfl)).mono ?_; rintro e w' ⟨rfl, h'⟩; obtain rfl := h'.symm))
                      go_wp2_with fail
                      go_loop [5] (fun t => ∃ m : Nat, m ≤ s.size ∧ t = .int .i64 m ∧ m + pre digB (s.data.toList.drop m) = pos + 1 + pre digB (s.data.toList.drop (pos + 1))) (fun t => s.size - (intOf t).toNat)
                      case atStart => exact ⟨pos + 1, hlt, by go_num, rfl⟩
                      case round =>
                        obtain ⟨m, hm1, rfl, hrel⟩ := hrel
                        have RR : Hid (m + pre digB (s.data.toList.drop m) = pos + 1 + pre digB (s.data.toList.drop (pos + 1))) := hrel
                        clear hrel
                        by_cases hmt : m < s.size
                        · have hmt' : (m : Int) < s.size := by omega
                          cases hc : digB s[m] with
                          | true =>
                            have RR2 : Hid (m + 1 + pre digB (s.data.toList.drop (m + 1)) = pos + 1 + pre digB (s.data.toList.drop (pos + 1))) := by
                              show _ = _
                              rw [← RR.out, drop_at s m hmt, pre_yes hc]; omega
                            have C6 : Hid _ := kind_at rDigit_any hc
                            clear hc RR
                            go_wp2_with (go_at_call 39; refine (C6.out _).mono ?_; rintro e w' ⟨rfl, h'⟩; obtain rfl := h'.symm)
                            go_round
                            case rel => exact ⟨m + 1, by omega, by go_num, RR2.out⟩
                            case measure => simp [intOf]; omega
                          | false =>
                            have hm : m = j := by
                              rw [← hj.out, ← RR.out, drop_at s m hmt, pre_no hc]; omega
                            have C6 : Hid _ := kind_at rDigit_any hc
                            clear hc RR hj
                            subst hm
                            go_upto_region 21 with (go_at_call 39; refine (C6.out _).mono ?_; rintro e w' ⟨rfl, h'⟩; obtain rfl := h'.symm)
                            clear C6
                            go_wp2_with fail
                            refine C4.out.mono ?_
                            rintro e w2 ⟨rfl, b2⟩
                            have B2 : Hid (Below wr.heap.size wr w2) := b2
                            have hz : wr.heap.size ≤ w2.heap.size := b2.size
                            have ho2 : Hid (w2.ownsRow (w.heap.size + 1) 47 4 u4 acc.length xs) := hR.out w2 b2
                            clear C4 hR b2
                            go_upto_region 24 with fail
                            go_wp2_with (at_builtin; refine wpList_append_lies _ rfl (.tmp 139) (.tmp 147) 42 rfl (w.heap.size + 1) 47 i0 (.agg #[.int .i64 0, .string ⟨#[]⟩, .bool false, .int .i64 0]) 4 40 underTr hi hz0 hz1 hz2 rfl (by decide) _ _ _ rfl (ho2.out.alloc _) ⟨w2.heap.size, 0, none⟩ 1 1 [.int .i64 pos, .string (s.extract pos m), .bool true, .int .i64 v] rfl rfl (news4 _ _ _ _ _ _) (one4 _ _ _ _) (by decide) (by unfold maxLen; omega) (by omega) (by simp; omega) (w2.heap.size + 1) (by simp) ?_)
                            intro g2 cap2 w9 h1 hgrow hat hlt1
                            have U2 : Hid _ := PU.out g2 cap2 _ w9 (B2.out.alloc hz _) h1 hgrow (by simpa using hat)
                            clear h1 hgrow hat hlt1 PU B2 ho2
                            go_wp2_with (go_at_call 36; refine (C2.out _).mono ?_; rintro e w' ⟨rfl, h'⟩; obtain rfl := h'.symm)
                            go_roundw
                            case rel =>
                              obtain ⟨acc', xs', h⟩ := U2.out
                              exact ⟨np, acc', xs', rfl, h⟩
                            case measure => have := hnp'.out; simp [intOf]; omega
                        · have hmt' : ¬ (m : Int) < s.size := by omega
                          have hm : m = j := by
                            rw [← hj.out, ← RR.out, drop_end s m hmt]; simp [pre]
                          clear RR hj
                          subst hm
                          go_upto_region 21 with fail
                          go_wp2_with fail
                          refine C4.out.mono ?_
                          rintro e w2 ⟨rfl, b2⟩
                          have B2 : Hid (Below wr.heap.size wr w2) := b2
                          have hz : wr.heap.size ≤ w2.heap.size := b2.size
                          have ho2 : Hid (w2.ownsRow (w.heap.size + 1) 47 4 u4 acc.length xs) := hR.out w2 b2
                          clear C4 hR b2
                          go_upto_region 24 with fail
                          go_wp2_with (at_builtin; refine wpList_append_lies _ rfl (.tmp 139) (.tmp 147) 42 rfl (w.heap.size + 1) 47 i0 (.agg #[.int .i64 0, .string ⟨#[]⟩, .bool false, .int .i64 0]) 4 40 underTr hi hz0 hz1 hz2 rfl (by decide) _ _ _ rfl (ho2.out.alloc _) ⟨w2.heap.size, 0, none⟩ 1 1 [.int .i64 pos, .string (s.extract pos m), .bool true, .int .i64 v] rfl rfl (news4 _ _ _ _ _ _) (one4 _ _ _ _) (by decide) (by unfold maxLen; omega) (by omega) (by simp; omega) (w2.heap.size + 1) (by simp) ?_)
                          intro g2 cap2 w9 h1 hgrow hat hlt1
                          have U2 : Hid _ := PU.out g2 cap2 _ w9 (B2.out.alloc hz _) h1 hgrow (by simpa using hat)
                          clear h1 hgrow hat hlt1 PU B2 ho2
                          go_wp2_with (go_at_call 36; refine (C2.out _).mono ?_; rintro e w' ⟨rfl, h'⟩; obtain rfl := h'.symm)
                          go_roundw
                          case rel =>
                            obtain ⟨acc', xs', h⟩ := U2.out
                            exact ⟨np, acc', xs', rfl, h⟩
                          case measure => have := hnp'.out; simp [intOf]; omega
                  | false =>
                    have g1 : dgI (s[pos + 1].toNat : Int) = false := hd2
                    have hT0 := tok_bad (l := s.data.toList.drop (pos + 1)) hlet hsg (fun h => h62 (by have := h.2; rw [hhd] at this; simpa using this)) (fun h => h.elim (fun a => by rw [hd45] at a; cases a) (fun a => by have := a.2; rw [hhd, hd2] at this; cases this))
                    rw [← drop_at s pos hlt] at hT0
                    have hV : Hid (scanL s.data.toList = .fault 6 pos) := sc_bad R.out.sofar (by rw [HL.out]; exact hlt) hT0
                    have hF0 : Hid (Blk wr w.heap.size #[.int .i64 0, .int .i64 0] 39) := R.out.flt
                    have hB0 : Hid (Below w.heap.size w wr) := R.out.bel
                    clear R hlet hsg C1a C3a h45 h62 hd45 hhd hd2 hT0
                    go_upto_region 25 with (first | (go_at_call 37; refine (C1.out _).mono ?_; rintro e w' ⟨rfl, h'⟩; obtain rfl := h'.symm) | (go_at_call 38; refine (C3.out _).mono ?_; rintro e w' ⟨rfl, h'⟩; obtain rfl := h'.symm) | (go_at_call 39; refine (C5.out _ _ (by first | exact Or.inl rfl | exact Or.inr rfl)).mono ?_; rintro e w' ⟨rfl, h'⟩; obtain rfl := h'.symm))
                    go_wp2_with fail
                    refine (rF_any 6 pos _).mono ?_
                    rintro e w3 ⟨rfl, b3⟩
                    have hF : Hid (Blk w3 w.heap.size #[.int .i64 0, .int .i64 0] 39) := hF0.out.below b3
                    have hB : Hid (Below w.heap.size w w3) := Below.andThen hB0.out b3
                    have y0 := cellOf hF.out 0 _ rfl
                    have y1 := cellOf hF.out 1 _ rfl
                    have z0 := freeOf hF.out 0
                    have z1 := freeOf hF.out 1
                    clear b3 hF0 hB0
                    go_wp2
                    have D := stored2 hF.out hB.out (Nat.le_refl _) (.int .i64 6) (.int .i64 pos)
                    have DD : Hid _ := D.2
                    have x0 := cellOf D.1 0 _ rfl
                    have x1 := cellOf D.1 1 _ rfl
                    clear D y0 y1 z0 z1 hF hB
                    generalize (w3.setCell ⟨w.heap.size, 0, none⟩ (.int .i64 6)).setCell ⟨w.heap.size, 1, none⟩ (.int .i64 pos) = w9 at DD x0 x1 ⊢
                    exact bodyPost_ret (v := .tuple #[.slice none 0 0, .agg #[.int .i64 6, .int .i64 pos]]) (by simp [results, Tryd.results19, go_sem, x0, x1]) rfl (scOut_fault hV.out DD.out)
              · have hn' : ¬ (pos : Int) + 1 < s.size := by omega
                have hhd : (s.data.toList.drop (pos + 1)) = [] := drop_end s (pos + 1) hn
                have C5 : Hid (∀ w, Calls Tryd.prog 39 #[.int .u8 45] w fun e w' => e = .returned (.bool false) ∧ w' = w) := fun w => rDigit_any 45 w
                have hT0 := tok_bad (l := s.data.toList.drop (pos + 1)) hlet hsg (fun h => by have := h.2; rw [hhd] at this; simp at this) (fun h => h.elim (fun a => by rw [hd45] at a; cases a) (fun a => by have := a.2; rw [hhd] at this; simp at this))
                rw [← drop_at s pos hlt] at hT0
                have hV : Hid (scanL s.data.toList = .fault 6 pos) := sc_bad R.out.sofar (by rw [HL.out]; exact hlt) hT0
                have hF0 : Hid (Blk wr w.heap.size #[.int .i64 0, .int .i64 0] 39) := R.out.flt
                have hB0 : Hid (Below w.heap.size w wr) := R.out.bel
                clear R hlet hsg C1a C3a h45 hd45 hhd hT0
                go_upto_region 25 with (first | (go_at_call 37; refine (C1.out _).mono ?_; rintro e w' ⟨rfl, h'⟩; obtain rfl := h'.symm) | (go_at_call 38; refine (C3.out _).mono ?_; rintro e w' ⟨rfl, h'⟩; obtain rfl := h'.symm) | (go_at_call 39; refine (C5.out _).mono ?_; rintro e w' ⟨rfl, h'⟩; obtain rfl := h'.symm))
                go_wp2_with fail
                refine (rF_any 6 pos _).mono ?_
                rintro e w3 ⟨rfl, b3⟩
                have hF : Hid (Blk w3 w.heap.size #[.int .i64 0, .int .i64 0] 39) := hF0.out.below b3
                have hB : Hid (Below w.heap.size w w3) := Below.andThen hB0.out b3
                have y0 := cellOf hF.out 0 _ rfl
                have y1 := cellOf hF.out 1 _ rfl
                have z0 := freeOf hF.out 0
                have z1 := freeOf hF.out 1
                clear b3 hF0 hB0
                go_wp2
                have D := stored2 hF.out hB.out (Nat.le_refl _) (.int .i64 6) (.int .i64 pos)
                have DD : Hid _ := D.2
                have x0 := cellOf D.1 0 _ rfl
                have x1 := cellOf D.1 1 _ rfl
                clear D y0 y1 z0 z1 hF hB
                generalize (w3.setCell ⟨w.heap.size, 0, none⟩ (.int .i64 6)).setCell ⟨w.heap.size, 1, none⟩ (.int .i64 pos) = w9 at DD x0 x1 ⊢
                exact bodyPost_ret (v := .tuple #[.slice none 0 0, .agg #[.int .i64 6, .int .i64 pos]]) (by simp [results, Tryd.results19, go_sem, x0, x1]) rfl (scOut_fault hV.out DD.out)
            · have h45' : ¬ (s[pos].toNat : Int) = 45 := by omega
              have h45b : ((s[pos].toNat : Int) == 45) = false := by simpa using h45'
              have C1 : Hid _ := C1a
              have C3 : Hid _ := C3a
              cases hd : digB s[pos] with
              | true =>
                have C5 : Hid _ := kind_at rDigit_any hd
                have hT1 := tok_num2 (l := s.data.toList.drop (pos + 1)) hlet (.inl hd)
                rw [← drop_at s pos hlt] at hT1
                have hd0 := pre_le digB (s.data.toList.drop (pos + 1))
                rw [List.length_drop, list_len] at hd0
                have hx1 : s.extract pos (pos + (pre digB (s.data.toList.drop (pos + 1)) + 1)) = str ((s.data.toList.drop pos).take (pre digB (s.data.toList.drop (pos + 1)) + 1)) := by rw [ext_str, Nat.add_sub_cancel_left]
                have C4a := rLong_any ((s.data.toList.drop pos).take (pre digB (s.data.toList.drop (pos + 1)) + 1)) wr (hw.out.below R.out.bel) (by rw [List.length_take, List.length_drop, list_len]; omega)
                rw [← hx1, longVal] at C4a
                cases hnum : numOf ((s.data.toList.drop pos).take (pre digB (s.data.toList.drop (pos + 1)) + 1)) with
                | none =>
                  rw [hnum] at hT1 C4a
                  have hV : Hid (scanL s.data.toList = .fault 8 pos) := sc_bad R.out.sofar (by rw [HL.out]; exact hlt) hT1
                  have C4 : Hid (Calls Tryd.prog 40 #[.string (s.extract pos (pos + (pre digB (s.data.toList.drop (pos + 1)) + 1)))] wr fun e w' => e = .returned (.tuple #[.int .i64 0, .bool false]) ∧ Below wr.heap.size wr w') := C4a
                  generalize hj0 : pos + (pre digB (s.data.toList.drop (pos + 1)) + 1) = j at C4
                  have hj : Hid (pos + 1 + pre digB (s.data.toList.drop (pos + 1)) = j) := by show _ = _; omega
                  have hj1' : (pos : Int) ≤ j := by omega
                  have hj2' : (j : Int) ≤ s.size := by omega
                  have hR : Hid _ := And.intro R.out.flt R.out.bel
                  clear R hlet hsg C1a C3a h45 hd C4a hx1 hnum hT1 hj0 hd0
                  go_upto_region 18 with (first | (go_at_call 37; refine (C1.out _).mono ?_; rintro e w' ⟨rfl, h'⟩; obtain rfl := h'.symm) | (go_at_call 38; refine (C3.out _).mono ?_; rintro e w' ⟨rfl, h'⟩; obtain rfl := h'.symm) | (go_at_call 39; refine (C5.out _).mono ?_; rintro e w' ⟨rfl, h'⟩; obtain rfl := h'.symm))
                  go_wp2_with fail
                  go_loop [5] (fun t => ∃ m : Nat, m ≤ s.size ∧ t = .int .i64 m ∧ m + pre digB (s.data.toList.drop m) = pos + 1 + pre digB (s.data.toList.drop (pos + 1))) (fun t => s.size - (intOf t).toNat)
                  case atStart => exact ⟨pos + 1, hlt, by go_num, rfl⟩
                  case round =>
                    obtain ⟨m, hm1, rfl, hrel⟩ := hrel
                    have RR : Hid (m + pre digB (s.data.toList.drop m) = pos + 1 + pre digB (s.data.toList.drop (pos + 1))) := hrel
                    clear hrel
                    by_cases hmt : m < s.size
                    · have hmt' : (m : Int) < s.size := by omega
                      cases hc : digB s[m] with
                      | true =>
                        have RR2 : Hid (m + 1 + pre digB (s.data.toList.drop (m + 1)) = pos + 1 + pre digB (s.data.toList.drop (pos + 1))) := by
                          show _ = _
                          rw [← RR.out, drop_at s m hmt, pre_yes hc]; omega
                        have C6 : Hid _ := kind_at rDigit_any hc
                        clear hc RR
                        go_wp2_with (go_at_call 39; refine (C6.out _).mono ?_; rintro e w' ⟨rfl, h'⟩; obtain rfl := h'.symm)
                        go_round
                        case rel => exact ⟨m + 1, by omega, by go_num, RR2.out⟩
                        case measure => simp [intOf]; omega
                      | false =>
                        have hm : m = j := by
                          rw [← hj.out, ← RR.out, drop_at s m hmt, pre_no hc]; omega
                        have C6 : Hid _ := kind_at rDigit_any hc
                        clear hc RR hj
                        subst hm
                        go_upto_region 21 with (go_at_call 39; refine (C6.out _).mono ?_; rintro e w' ⟨rfl, h'⟩; obtain rfl := h'.symm)
                        clear C6
                        go_wp2_with fail
                        refine C4.out.mono ?_
                        rintro e w2 ⟨rfl, b2⟩
                        have hF0 : Hid (Blk w2 w.heap.size #[.int .i64 0, .int .i64 0] 39) := hR.out.1.below b2
                        have hB0 : Hid (Below w.heap.size w w2) := Below.andThen hR.out.2 b2
                        clear C4 hR b2
                        go_wp2_with fail
                        refine (rF_any 8 pos _).mono ?_
                        rintro e w3 ⟨rfl, b3⟩
                        have hF : Hid (Blk w3 w.heap.size #[.int .i64 0, .int .i64 0] 39) := hF0.out.below b3
                        have hB : Hid (Below w.heap.size w w3) := Below.andThen hB0.out b3
                        have y0 := cellOf hF.out 0 _ rfl
                        have y1 := cellOf hF.out 1 _ rfl
                        have z0 := freeOf hF.out 0
                        have z1 := freeOf hF.out 1
                        clear b3 hF0 hB0
                        go_wp2
                        have D := stored2 hF.out hB.out (Nat.le_refl _) (.int .i64 8) (.int .i64 pos)
                        have DD : Hid _ := D.2
                        have x0 := cellOf D.1 0 _ rfl
                        have x1 := cellOf D.1 1 _ rfl
                        clear D y0 y1 z0 z1 hF hB
                        generalize (w3.setCell ⟨w.heap.size, 0, none⟩ (.int .i64 8)).setCell ⟨w.heap.size, 1, none⟩ (.int .i64 pos) = w9 at DD x0 x1 ⊢
                        exact bodyPost_ret (v := .tuple #[.slice none 0 0, .agg #[.int .i64 8, .int .i64 pos]]) (by simp [results, Tryd.results19, go_sem, x0, x1]) rfl (scOut_fault hV.out DD.out)
                    · have hmt' : ¬ (m : Int) < s.size := by omega
                      have hm : m = j := by
                        rw [← hj.out, ← RR.out, drop_end s m hmt]; simp [pre]
                      clear RR hj
                      subst hm
                      go_upto_region 21 with fail
                      go_wp2_with fail
                      refine C4.out.mono ?_
                      rintro e w2 ⟨rfl, b2⟩
                      have hF0 : Hid (Blk w2 w.heap.size #[.int .i64 0, .int .i64 0] 39) := hR.out.1.below b2
                      have hB0 : Hid (Below w.heap.size w w2) := Below.andThen hR.out.2 b2
                      clear C4 hR b2
                      go_wp2_with fail
                      refine (rF_any 8 pos _).mono ?_
                      rintro e w3 ⟨rfl, b3⟩
                      have hF : Hid (Blk w3 w.heap.size #[.int .i64 0, .int .i64 0] 39) := hF0.out.below b3
                      have hB : Hid (Below w.heap.size w w3) := Below.andThen hB0.out b3
                      have y0 := cellOf hF.out 0 _ rfl
                      have y1 := cellOf hF.out 1 _ rfl
                      have z0 := freeOf hF.out 0
                      have z1 := freeOf hF.out 1
                      clear b3 hF0 hB0
                      go_wp2
                      have D := stored2 hF.out hB.out (Nat.le_refl _) (.int .i64 8) (.int .i64 pos)
                      have DD : Hid _ := D.2
                      have x0 := cellOf D.1 0 _ rfl
                      have x1 := cellOf D.1 1 _ rfl
                      clear D y0 y1 z0 z1 hF hB
                      generalize (w3.setCell ⟨w.heap.size, 0, none⟩ (.int .i64 8)).setCell ⟨w.heap.size, 1, none⟩ (.int .i64 pos) = w9 at DD x0 x1 ⊢
                      exact bodyPost_ret (v := .tuple #[.slice none 0 0, .agg #[.int .i64 8, .int .i64 pos]]) (by simp [results, Tryd.results19, go_sem, x0, x1]) rfl (scOut_fault hV.out DD.out)
                | some v =>
                  rw [hnum] at hT1 C4a
                  have hT : Hid (tok (s.data.toList.drop pos) = .ok (pre digB (s.data.toList.drop (pos + 1)) + 1) true v) := hT1
                  have C4 : Hid (Calls Tryd.prog 40 #[.string (s.extract pos (pos + (pre digB (s.data.toList.drop (pos + 1)) + 1)))] wr fun e w' => e = .returned (.tuple #[.int .i64 v, .bool true]) ∧ Below wr.heap.size wr w') := C4a
                  obtain ⟨hk1, hk2, hk3⟩ := tok_pos hT.out
                  rw [List.length_drop, HL.out] at hk2
                  clear hk3
                  have C2 : Hid (∀ w, Calls Tryd.prog 36 #[.string s, .int .i64 ((pos + (pre digB (s.data.toList.drop (pos + 1)) + 1) : Nat) : Int)] w fun e w' => e = .returned (.int .i64 ((pos + (pre digB (s.data.toList.drop (pos + 1)) + 1) + blk false (s.data.toList.drop (pos + (pre digB (s.data.toList.drop (pos + 1)) + 1))) : Nat) : Int)) ∧ w' = w) := fun w => begins_any s (pos + (pre digB (s.data.toList.drop (pos + 1)) + 1)) w (by omega) (by omega)
                  have PU : Hid (∀ g cap w4 w9, Below wr.heap.size wr w4 → w9.ownsRow (w.heap.size + 1) 47 4 (.slice (some ⟨g, 0, none⟩) (acc.length + 1) cap) (acc.length + 1) (xs ++ [.int .i64 pos, .string (s.extract pos (pos + (pre digB (s.data.toList.drop (pos + 1)) + 1))), .bool true, .int .i64 v]) → w4.grownBy w9 u4.ownBlock → (u4.ownBlock = some g ∨ g = w4.heap.size) →
                      ∃ acc' xs', SB 47 w w9 s.data.toList (pos + (pre digB (s.data.toList.drop (pos + 1)) + 1) + blk false (s.data.toList.drop (pos + (pre digB (s.data.toList.drop (pos + 1)) + 1)))) (.slice (some ⟨g, 0, none⟩) (acc.length + 1) cap) acc' xs') := fun g cap w4 w9 h0 h1 h2 h3 => ⟨_, _, R.out.push h0 (by rw [HL.out]; exact hlt) hT.out (by rw [ext_str, Nat.add_sub_cancel_left] at h1; exact h1) h2 h3⟩
                  generalize hnp : pos + (pre digB (s.data.toList.drop (pos + 1)) + 1) + blk false (s.data.toList.drop (pos + (pre digB (s.data.toList.drop (pos + 1)) + 1))) = np at C2 PU
                  have hnp' : Hid (pos < np) := by show _ < _; omega
                  generalize hj0 : pos + (pre digB (s.data.toList.drop (pos + 1)) + 1) = j at C2 PU C4
                  have hj : Hid (pos + 1 + pre digB (s.data.toList.drop (pos + 1)) = j) := by show _ = _; omega
                  have hj1' : (pos : Int) ≤ j := by omega
                  have hj2' : (j : Int) ≤ s.size := by omega
                  have hR : Hid (∀ w2, Below wr.heap.size wr w2 → w2.ownsRow (w.heap.size + 1) 47 4 u4 acc.length xs) := fun w2 b => (R.out.row.below b).own
                  clear R hlet hsg C1a C3a h45 hd C4a hx1 hnum hT1 hT hj0 hd0 hnp
                  go_upto_region 18 with (first | (go_at_call 37; refine (C1.out _).mono ?_; rintro e w' ⟨rfl, h'⟩; obtain rfl := h'.symm) | (go_at_call 38; refine (C3.out _).mono ?_; rintro e w' ⟨rfl, h'⟩; obtain rfl := h'.symm) | (go_at_call 39; refine (C5.out _).mono ?_; rintro e w' ⟨rfl, h'⟩; obtain rfl := h'.symm))
                  go_wp2_with fail
                  go_loop [5] (fun t => ∃ m : Nat, m ≤ s.size ∧ t = .int .i64 m ∧ m + pre digB (s.data.toList.drop m) = pos + 1 + pre digB (s.data.toList.drop (pos + 1))) (fun t => s.size - (intOf t).toNat)
                  case atStart => exact ⟨pos + 1, hlt, by go_num, rfl⟩
                  case round =>
                    obtain ⟨m, hm1, rfl, hrel⟩ := hrel
                    have RR : Hid (m + pre digB (s.data.toList.drop m) = pos + 1 + pre digB (s.data.toList.drop (pos + 1))) := hrel
                    clear hrel
                    by_cases hmt : m < s.size
                    · have hmt' : (m : Int) < s.size := by omega
                      cases hc : digB s[m] with
                      | true =>
                        have RR2 : Hid (m + 1 + pre digB (s.data.toList.drop (m + 1)) = pos + 1 + pre digB (s.data.toList.drop (pos + 1))) := by
                          show _ = _
                          rw [← RR.out, drop_at s m hmt, pre_yes hc]; omega
                        have C6 : Hid _ := kind_at rDigit_any hc
                        clear hc RR
                        go_wp2_with (go_at_call 39; refine (C6.out _).mono ?_; rintro e w' ⟨rfl, h'⟩; obtain rfl := h'.symm)
                        go_round
                        case rel => exact ⟨m + 1, by omega, by go_num, RR2.out⟩
                        case measure => simp [intOf]; omega
                      | false =>
                        have hm : m = j := by
                          rw [← hj.out, ← RR.out, drop_at s m hmt, pre_no hc]; omega
                        have C6 : Hid _ := kind_at rDigit_any hc
                        clear hc RR hj
                        subst hm
                        go_upto_region 21 with (go_at_call 39; refine (C6.out _).mono ?_; rintro e w' ⟨rfl, h'⟩; obtain rfl := h'.symm)
                        clear C6
                        go_wp2_with fail
                        refine C4.out.mono ?_
                        rintro e w2 ⟨rfl, b2⟩
                        have B2 : Hid (Below wr.heap.size wr w2) := b2
                        have hz : wr.heap.size ≤ w2.heap.size := b2.size
                        have ho2 : Hid (w2.ownsRow (w.heap.size + 1) 47 4 u4 acc.length xs) := hR.out w2 b2
                        clear C4 hR b2
                        go_upto_region 24 with fail
                        go_wp2_with (at_builtin; refine wpList_append_lies _ rfl (.tmp 139) (.tmp 147) 42 rfl (w.heap.size + 1) 47 i0 (.agg #[.int .i64 0, .string ⟨#[]⟩, .bool false, .int .i64 0]) 4 40 underTr hi hz0 hz1 hz2 rfl (by decide) _ _ _ rfl (ho2.out.alloc _) ⟨w2.heap.size, 0, none⟩ 1 1 [.int .i64 pos, .string (s.extract pos m), .bool true, .int .i64 v] rfl rfl (news4 _ _ _ _ _ _) (one4 _ _ _ _) (by decide) (by unfold maxLen; omega) (by omega) (by simp; omega) (w2.heap.size + 1) (by simp) ?_)
                        intro g2 cap2 w9 h1 hgrow hat hlt1
                        have U2 : Hid _ := PU.out g2 cap2 _ w9 (B2.out.alloc hz _) h1 hgrow (by simpa using hat)
                        clear h1 hgrow hat hlt1 PU B2 ho2
                        go_wp2_with (go_at_call 36; refine (C2.out _).mono ?_; rintro e w' ⟨rfl, h'⟩; obtain rfl := h'.symm)
                        go_roundw
                        case rel =>
                          obtain ⟨acc', xs', h⟩ := U2.out
                          exact ⟨np, acc', xs', rfl, h⟩
                        case measure => have := hnp'.out; simp [intOf]; omega
                    · have hmt' : ¬ (m : Int) < s.size := by omega
                      have hm : m = j := by
                        rw [← hj.out, ← RR.out, drop_end s m hmt]; simp [pre]
                      clear RR hj
                      subst hm
                      go_upto_region 21 with fail
                      go_wp2_with fail
                      refine C4.out.mono ?_
                      rintro e w2 ⟨rfl, b2⟩
                      have B2 : Hid (Below wr.heap.size wr w2) := b2
                      have hz : wr.heap.size ≤ w2.heap.size := b2.size
                      have ho2 : Hid (w2.ownsRow (w.heap.size + 1) 47 4 u4 acc.length xs) := hR.out w2 b2
                      clear C4 hR b2
                      go_upto_region 24 with fail
                      go_wp2_with (at_builtin; refine wpList_append_lies _ rfl (.tmp 139) (.tmp 147) 42 rfl (w.heap.size + 1) 47 i0 (.agg #[.int .i64 0, .string ⟨#[]⟩, .bool false, .int .i64 0]) 4 40 underTr hi hz0 hz1 hz2 rfl (by decide) _ _ _ rfl (ho2.out.alloc _) ⟨w2.heap.size, 0, none⟩ 1 1 [.int .i64 pos, .string (s.extract pos m), .bool true, .int .i64 v] rfl rfl (news4 _ _ _ _ _ _) (one4 _ _ _ _) (by decide) (by unfold maxLen; omega) (by omega) (by simp; omega) (w2.heap.size + 1) (by simp) ?_)
                      intro g2 cap2 w9 h1 hgrow hat hlt1
                      have U2 : Hid _ := PU.out g2 cap2 _ w9 (B2.out.alloc hz _) h1 hgrow (by simpa using hat)
                      clear h1 hgrow hat hlt1 PU B2 ho2
                      go_wp2_with (go_at_call 36; refine (C2.out _).mono ?_; rintro e w' ⟨rfl, h'⟩; obtain rfl := h'.symm)
                      go_roundw
                      case rel =>
                        obtain ⟨acc', xs', h⟩ := U2.out
                        exact ⟨np, acc', xs', rfl, h⟩
                      case measure => have := hnp'.out; simp [intOf]; omega
              | false =>
                have C5 : Hid _ := kind_at rDigit_any hd
                have hT0 := tok_bad (l := s.data.toList.drop (pos + 1)) hlet hsg (fun h => h45 h.1) (fun h => h.elim (fun a => by rw [hd] at a; cases a) (fun a => h45 a.1))
                rw [← drop_at s pos hlt] at hT0
                have hV : Hid (scanL s.data.toList = .fault 6 pos) := sc_bad R.out.sofar (by rw [HL.out]; exact hlt) hT0
                have hF0 : Hid (Blk wr w.heap.size #[.int .i64 0, .int .i64 0] 39) := R.out.flt
                have hB0 : Hid (Below w.heap.size w wr) := R.out.bel
                clear R hlet hsg C1a C3a h45 hd hT0
                go_upto_region 25 with (first | (go_at_call 37; refine (C1.out _).mono ?_; rintro e w' ⟨rfl, h'⟩; obtain rfl := h'.symm) | (go_at_call 38; refine (C3.out _).mono ?_; rintro e w' ⟨rfl, h'⟩; obtain rfl := h'.symm) | (go_at_call 39; refine (C5.out _).mono ?_; rintro e w' ⟨rfl, h'⟩; obtain rfl := h'.symm))
                go_wp2_with fail
                refine (rF_any 6 pos _).mono ?_
                rintro e w3 ⟨rfl, b3⟩
                have hF : Hid (Blk w3 w.heap.size #[.int .i64 0, .int .i64 0] 39) := hF0.out.below b3
                have hB : Hid (Below w.heap.size w w3) := Below.andThen hB0.out b3
                have y0 := cellOf hF.out 0 _ rfl
                have y1 := cellOf hF.out 1 _ rfl
                have z0 := freeOf hF.out 0
                have z1 := freeOf hF.out 1
                clear b3 hF0 hB0
                go_wp2
                have D := stored2 hF.out hB.out (Nat.le_refl _) (.int .i64 6) (.int .i64 pos)
                have DD : Hid _ := D.2
                have x0 := cellOf D.1 0 _ rfl
                have x1 := cellOf D.1 1 _ rfl
                clear D y0 y1 z0 z1 hF hB
                generalize (w3.setCell ⟨w.heap.size, 0, none⟩ (.int .i64 6)).setCell ⟨w.heap.size, 1, none⟩ (.int .i64 pos) = w9 at DD x0 x1 ⊢
                exact bodyPost_ret (v := .tuple #[.slice none 0 0, .agg #[.int .i64 6, .int .i64 pos]]) (by simp [results, Tryd.results19, go_sem, x0, x1]) rfl (scOut_fault hV.out DD.out)
      · have hlt' : ¬ (pos : Int) < s.size := by omega
        have hV : Hid (scanL s.data.toList = .ok acc) := sc_end R.out.sofar (by rw [HL.out]; exact hlt)
        obtain ⟨a, c, hv, hl⟩ := R.out.cell
        subst hv
        have hF : Hid (Blk wr w.heap.size #[.int .i64 0, .int .i64 0] 39) := R.out.flt
        have hB : Hid (Below w.heap.size w wr) := R.out.bel
        have hL : Hid (tkL.list.In wr (fun g => w.heap.size + 1 ≤ g) acc [.slice a acc.length c]) := hl
        have y0 := cellOf hF.out 0 _ rfl
        have y1 := cellOf hF.out 1 _ rfl
        have z0 := freeOf hF.out 0
        have z1 := freeOf hF.out 1
        clear R hl
        go_wp2
        have D := stored2 hF.out hB.out (Nat.le_refl _) (.int .i64 0) (.int .i64 0)
        have DL : Hid (tkL.list.In ((wr.setCell ⟨w.heap.size, 0, none⟩ (.int .i64 0)).setCell ⟨w.heap.size, 1, none⟩ (.int .i64 0)) (fun g => w.heap.size ≤ g) acc [.slice a acc.length c]) :=
          Lay.mono (Lay.setCell (Lay.setCell hL.out (p := ⟨w.heap.size, 0, none⟩) (by simp) _) (p := ⟨w.heap.size, 1, none⟩) (by simp) _) (fun k hk _ => Nat.le_of_succ_le hk)
        have DD : Hid _ := D.2
        have x0 := cellOf D.1 0 _ rfl
        have x1 := cellOf D.1 1 _ rfl
        clear D y0 y1 z0 z1 hF hB hL
        generalize (wr.setCell ⟨w.heap.size, 0, none⟩ (.int .i64 0)).setCell ⟨w.heap.size, 1, none⟩ (.int .i64 0) = w9 at DD DL x0 x1 ⊢
        exact bodyPost_ret (v := .tuple #[.slice a acc.length c, .agg #[.int .i64 0, .int .i64 0]]) (by simp [results, Tryd.results19, go_sem, x0, x1]) rfl (scOut_ok hV.out DL.out DD.out)
end Go.Proofs.YtlahoehngnebnabDoor
