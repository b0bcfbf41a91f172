/-
  The reference's isLetter, isDigit, isSign, LongOf, begins, F.
-/
import Derived.Test.YtlahoehngnebnabDoorTokScanM
namespace Go.Proofs.YtlahoehngnebnabDoor
open Go.ChangeShapes Go.WideShapes Go.ChangeAt Go.RowKit Go.Shelf
set_option linter.unusedVariables false
set_option linter.unusedSimpArgs false

theorem rLetter_any : Kind1 37 letB := by
  intro c w
  go_enter Tryd.func37, Tryd.ntmps37
  go_wp2
  all_goals
    go_ret
    refine ⟨ret_bool ?_, rfl⟩
    rw [Bool.eq_iff_iff]
    simp [letB] <;> omega
theorem rDigit_any : Kind1 39 digB := by
  intro c w
  go_enter Tryd.func39, Tryd.ntmps39
  go_wp2
  all_goals
    go_ret
    refine ⟨ret_bool ?_, rfl⟩
    rw [Bool.eq_iff_iff]
    simp [digB] <;> omega
def sgl : List UInt8 := [40, 41, 123, 125, 60, 62, 44, 59]
theorem sgl_sig (c : UInt8) : sgl.contains c = sigB c := by
  rw [Bool.eq_iff_iff, ← sign_mem c]
  simp [sgl]
theorem sgl_next {c : UInt8} {k : Nat} {s : ByteArray} (hs : s.data.toList = sgl) (hk : k < s.size) (h : (sgl.take k).contains c = false) (hne : ¬ (s[k].toNat : Int) = c.toNat) : (sgl.take (k + 1)).contains c = false := by
  have e : sgl[k]? = some s[k] := by
    rw [← hs, Array.getElem?_toList]
    exact Array.getElem?_eq_getElem hk
  rw [List.take_add_one, e]
  have : ¬ c = s[k] := fun h => hne (by rw [h])
  simp at h ⊢
  exact ⟨h, this⟩
theorem sgl_hit {c : UInt8} {k : Nat} {s : ByteArray} (hs : s.data.toList = sgl) (hk : k < s.size) (h : (s[k].toNat : Int) = c.toNat) : sigB c = true := by
  have e : sgl[k]? = some s[k] := by
    rw [← hs, Array.getElem?_toList]
    exact Array.getElem?_eq_getElem hk
  have : s[k] = c := UInt8.toNat_inj.1 (by omega)
  rw [← sgl_sig]
  simp
  rw [← this]
  exact List.mem_of_getElem? e
theorem rSign_any : Kind1 38 sigB := by
  intro c w
  go_enter Tryd.func38, Tryd.ntmps38
  go_wp2_with fail
  generalize hs0 : (⟨#[40, 41, 123, 125, 60, 62, 44, 59]⟩ : ByteArray) = s
  have hs : Hid (s.data.toList = sgl) := by show _ = _; rw [← hs0]; rfl
  have hz : s.size = 8 := by rw [← hs0]; rfl
  clear hs0
  go_loop [4] (fun t => ∃ k : Nat, k ≤ 8 ∧ t = .int .i64 k ∧ (sgl.take k).contains c = false) (fun t => 8 - (intOf t).toNat)
  case atStart => exact ⟨0, by omega, rfl, rfl⟩
  case round =>
    obtain ⟨k, hk, rfl, hr⟩ := hrel
    have R : Hid ((sgl.take k).contains c = false) := hr
    clear hr
    by_cases hlt : k < 8
    · have hlt' : (k : Int) < 8 := by omega
      have hlt2 : k < s.size := by omega
      by_cases he : (s[k].toNat : Int) = c.toNat
      · have V : Hid (sigB c = true) := sgl_hit hs.out hlt2 he
        go_wp2
        go_ret
        exact ⟨ret_bool V.out.symm, rfl⟩
      · have R2 : Hid ((sgl.take (k + 1)).contains c = false) := sgl_next hs.out hlt2 R.out he
        go_wp2
        go_round
        case rel => exact ⟨k + 1, by omega, by go_num, R2.out⟩
        case measure => simp [intOf]; omega
    · have hlt' : ¬ (k : Int) < 8 := by omega
      have V : Hid (sigB c = false) := by
        show _ = _
        have := R.out
        rw [List.take_of_length_le (by simp [sgl]; omega), sgl_sig] at this
        exact this
      go_wp2
      go_ret
      exact ⟨ret_bool V.out.symm, rfl⟩
/-- What LongOf answers. -/
def longVal (l : List UInt8) : Value :=
  match numOf l with
  | some v => .tuple #[.int .i64 v, .bool true]
  | none => .tuple #[.int .i64 0, .bool false]
theorem num_bad {l : List UInt8} (h : ∀ v, Lib.parseIntB 64 l ≠ .ok v) : numOf l = none := by
  unfold numOf
  split
  · exact absurd (by assumption) (h _)
  · rfl
  · rfl
theorem num_ok {l : List UInt8} {v : Int} (h : Lib.parseIntB 64 l = .ok v) : numOf l = if Lib.itoa v = l then some v else none := by
  unfold numOf
  rw [h]
set_option maxHeartbeats 1000000 in
theorem rLong_any (l : List UInt8) (w : World) (hw0 : Laid w) (hl : l.length ≤ 1000000) :
    Calls Tryd.prog 40 #[.string (str l)] w fun e w' => e = .returned (longVal l) ∧ Below w.heap.size w w' := by
  have hw : Hid (Laid w) := hw0
  have hs' : (str l).size ≤ 1000000 := by rw [str_size]; exact hl
  clear hw0
  by_cases hp : ∃ v, Lib.parseIntB 64 l = .ok v
  · obtain ⟨v, hv⟩ := hp
    have hr := parse_range hv
    have C1 : Hid (Calls Tryd.prog 55 #[.string (str l), .int .i64 10, .int .i64 64] w fun e w' => e = .returned (.tuple #[.int .i64 v, .nilIface]) ∧ Below w.heap.size w w') := parse_ok (str l) v w hs' hv
    have C2 : Hid (∀ w', Below w.heap.size w w' → Calls Tryd.prog 56 #[.int .i64 v, .int .i64 10] w' fun e w'' => e = .returned (.string (str (Lib.itoa v))) ∧ Below w'.heap.size w' w'') := fun w' hb => format_any v hr w' (hw.out.below hb)
    have hn := num_ok hv
    by_cases he : Lib.itoa v = l
    · have hq : ((str (Lib.itoa v)).toList == (str l).toList) = true := by rw [str_beq]; simpa using he
      have V : Hid (longVal l = .tuple #[.int .i64 v, .bool true]) := by show _ = _; rw [longVal, hn, if_pos he]
      clear hn he hv hs' hl
      go_enter Tryd.func40, Tryd.ntmps40
      go_wp2_with (first
        | (go_at_call 55; refine C1.out.mono ?_; rintro e w1 ⟨rfl, b1⟩; have B1 : Hid _ := b1; clear b1)
        | (go_at_call 56; refine (C2.out _ B1.out).mono ?_; rintro e w2 ⟨rfl, b2⟩; have B2 : Hid _ := b2; clear b2))
      exact bodyPost_ret (v := .tuple #[.int .i64 v, .bool true]) (by simp [results, Tryd.results40, go_sem]) rfl ⟨by rw [V.out], Below.andThen B1.out B2.out⟩
    · have hq : ((str (Lib.itoa v)).toList == (str l).toList) = false := by rw [str_beq]; simpa using he
      have V : Hid (longVal l = .tuple #[.int .i64 0, .bool false]) := by show _ = _; rw [longVal, hn, if_neg he]
      clear hn he hv hs' hl
      go_enter Tryd.func40, Tryd.ntmps40
      go_wp2_with (first
        | (go_at_call 55; refine C1.out.mono ?_; rintro e w1 ⟨rfl, b1⟩; have B1 : Hid _ := b1; clear b1)
        | (go_at_call 56; refine (C2.out _ B1.out).mono ?_; rintro e w2 ⟨rfl, b2⟩; have B2 : Hid _ := b2; clear b2))
      exact bodyPost_ret (v := .tuple #[.int .i64 0, .bool false]) (by simp [results, Tryd.results40, go_sem]) rfl ⟨by rw [V.out], Below.andThen B1.out B2.out⟩
  · have V : Hid (longVal l = .tuple #[.int .i64 0, .bool false]) := by show _ = _; rw [longVal, num_bad (fun v h => hp ⟨v, h⟩)]
    have C1 : Hid (Calls Tryd.prog 55 #[.string (str l), .int .i64 10, .int .i64 64] w fun e w' => (∃ x N, e = .returned (.tuple #[.int .i64 x, .iface 98 (.pointer (some ⟨N, 0, none⟩))])) ∧ Below w.heap.size w w') := parse_bad (str l) w hw.out hs' (fun v h => hp ⟨v, h⟩)
    clear hp hs' hl
    go_enter Tryd.func40, Tryd.ntmps40
    go_wp2_with (first
      | (go_at_call 55; refine C1.out.mono ?_; rintro e w1 ⟨⟨x, N, rfl⟩, b1⟩; have B1 : Hid _ := b1; clear b1))
    exact bodyPost_ret (v := .tuple #[.int .i64 0, .bool false]) (by simp [results, Tryd.results40, go_sem]) rfl ⟨by rw [V.out], B1.out⟩
theorem rF_any (c a : Int) (w : World) : Calls Tryd.prog 35 #[.int .i64 c, .int .i64 a] w fun e w' => e = .returned (.agg #[.int .i64 c, .int .i64 a]) ∧ Below w.heap.size w w' := by
  go_enter Tryd.func35, Tryd.ntmps35
  go_wp2
  exact bodyPost_ret (v := .agg #[.int .i64 c, .int .i64 a]) (by simp [results, Tryd.results35, go_sem]) rfl ⟨rfl, bel1 w _⟩
set_option maxHeartbeats 1000000 in
theorem begins_any (s : ByteArray) (i : Nat) (w : World) (hi : i ≤ s.size) (hs : s.size ≤ 1000000) :
    Calls Tryd.prog 36 #[.string s, .int .i64 i] w fun e w' => e = .returned (.int .i64 ((i + blk false (s.data.toList.drop i) : Nat) : Int)) ∧ w' = w := by
  go_enter Tryd.func36, Tryd.ntmps36
  go_wp2_with fail
  go_loop [1] (fun t => ∃ k : Nat, k ≤ s.size ∧ t = .int .i64 k ∧ k + blk false (s.data.toList.drop k) = i + blk false (s.data.toList.drop i)) (fun t => s.size - (intOf t).toNat)
  case atStart => exact ⟨i, hi, rfl, rfl⟩
  case round =>
    obtain ⟨k, hk1, rfl, hrel⟩ := hrel
    have R : Hid (k + blk false (s.data.toList.drop k) = i + blk false (s.data.toList.drop i)) := hrel
    clear hrel
    by_cases hlt : k < s.size
    · have hlt' : (k : Int) < s.size := by omega
      cases hp : blB s[k] with
      | true =>
        have R2 : Hid (k + 1 + blk false (s.data.toList.drop (k + 1)) = i + blk false (s.data.toList.drop i)) := by
          show _ = _
          rw [← R.out, drop_at s k hlt, blk_blank hp]; omega
        have hb : (s[k].toNat : Int) = 32 ∨ (s[k].toNat : Int) = 9 ∨ (s[k].toNat : Int) = 13 ∨ (s[k].toNat : Int) = 10 := by
          simp [blB] at hp; omega
        clear hp R
        rcases hb with hb | hb | hb | hb
        all_goals
          go_wp2
          go_round
          case rel => exact ⟨k + 1, by omega, by go_num, R2.out⟩
          case measure => simp [intOf]; omega
      | false =>
        have hb : ¬ (s[k].toNat : Int) = 32 ∧ ¬ (s[k].toNat : Int) = 9 ∧ ¬ (s[k].toNat : Int) = 13 ∧ ¬ (s[k].toNat : Int) = 10 := by
          simp [blB] at hp; omega
        obtain ⟨b1, b2, b3, b4⟩ := hb
        by_cases h35 : s[k].toNat = 35
        · have h35' : (s[k].toNat : Int) = 35 := by omega
          have R2 : Hid (k + pre rmB (s.data.toList.drop k) + blk false (s.data.toList.drop (k + pre rmB (s.data.toList.drop k))) = i + blk false (s.data.toList.drop i)) := by
            show _ = _
            have hd := drop_at s k hlt
            have hb := blk_remark (l := s.data.toList.drop (k + 1)) h35
            rw [← hd] at hb
            rw [← R.out, hb, List.drop_drop]; omega
          have hy : Hid (1 ≤ pre rmB (s.data.toList.drop k)) := by
            show _ ≤ _
            rw [drop_at s k hlt, pre_yes (by simp [rmB, h35])]; omega
          clear hp R h35
          go_wp2_with fail
          go_loop [1] (fun t => ∃ m : Nat, m ≤ s.size ∧ t = .int .i64 m ∧ m + pre rmB (s.data.toList.drop m) = k + pre rmB (s.data.toList.drop k)) (fun t => s.size - (intOf t).toNat)
          case atStart => exact ⟨k, hk1, rfl, rfl⟩
          case round =>
            obtain ⟨m, hm1, rfl, hrel⟩ := hrel
            have RR : Hid (m + pre rmB (s.data.toList.drop m) = k + pre rmB (s.data.toList.drop k)) := hrel
            clear hrel b1 b2 b3 b4 h35'
            by_cases hmt : m < s.size
            · have hmt' : (m : Int) < s.size := by omega
              by_cases h10 : s[m].toNat = 10
              · have h10' : (s[m].toNat : Int) = 10 := by omega
                have hm : Hid (m = k + pre rmB (s.data.toList.drop k)) := by
                  show _ = _
                  rw [← RR.out, drop_at s m hmt, pre_no (by simp [rmB, h10])]; omega
                clear h10
                go_wp2_with fail
                go_round
                case rel => exact ⟨m, hm1, rfl, by have := R2.out; rw [← hm.out] at this; exact this⟩
                case measure => have := hy.out; have := hm.out; simp [intOf]; omega
              · have h10' : ¬ (s[m].toNat : Int) = 10 := by omega
                have RR2 : Hid (m + 1 + pre rmB (s.data.toList.drop (m + 1)) = k + pre rmB (s.data.toList.drop k)) := by
                  show _ = _
                  rw [← RR.out, drop_at s m hmt, pre_yes (by simp [rmB, h10])]; omega
                clear h10
                go_wp2_with fail
                go_round
                case rel => exact ⟨m + 1, by omega, by go_num, RR2.out⟩
                case measure => simp [intOf]; omega
            · have hmt' : ¬ (m : Int) < s.size := by omega
              have hm : Hid (m = k + pre rmB (s.data.toList.drop k)) := by
                show _ = _
                rw [← RR.out, drop_end s m hmt]; simp [pre]
              go_wp2_with fail
              go_round
              case rel => exact ⟨m, hm1, rfl, by have := R2.out; rw [← hm.out] at this; exact this⟩
              case measure => have := hy.out; have := hm.out; simp [intOf]; omega
        · have R2 : Hid (k = i + blk false (s.data.toList.drop i)) := by
            show _ = _
            rw [← R.out, drop_at s k hlt, blk_none hp h35]; omega
          have h35' : ¬ (s[k].toNat : Int) = 35 := by omega
          have d1 : ((s[k].toNat : Int) == 32) = false := by simpa using b1
          have d2 : ((s[k].toNat : Int) == 9) = false := by simpa using b2
          have d3 : ((s[k].toNat : Int) == 13) = false := by simpa using b3
          have d4 : ((s[k].toNat : Int) == 10) = false := by simpa using b4
          have d5 : ((s[k].toNat : Int) == 35) = false := by simpa using h35'
          clear hp R h35
          go_wp2_with fail
          go_ret
          exact ⟨ret_int (by have := R2.out; omega), rfl⟩
    · have hlt' : ¬ (k : Int) < s.size := by omega
      have R2 : Hid (k = i + blk false (s.data.toList.drop i)) := by
        show _ = _
        rw [← R.out, drop_end s k hlt]; simp [blk]
      clear R
      go_wp2_with fail
      go_ret
      exact ⟨ret_int (by have := R2.out; omega), rfl⟩
end Go.Proofs.YtlahoehngnebnabDoor
