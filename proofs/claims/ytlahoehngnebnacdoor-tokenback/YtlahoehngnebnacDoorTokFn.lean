/-
  Package token's small functions: isBlank, isRemark, isLetter, isDigit, isSign, isDigitAt, past, pastBlanks.
-/
import Derived.Test.YtlahoehngnebnacDoorTokMem
import Derived.Test.YtlahoehngnebnacDoorProg
import Derived.Lib.Bytealg
import Derived.Lib.Strings
import Derived.Lib.Slices
import Derived.Lib.Walk
import Derived.Shelf.Abstract
namespace Go.Proofs.YtlahoehngnebnacDoor
open Go.ChangeShapes Go.WideShapes Go.ChangeAt Go.RowKit Go.Shelf
set_option linter.unusedVariables false
set_option linter.unusedSimpArgs false

theorem ret_bool {a b : Bool} (h : a = b) : Ending.returned (.bool a) = .returned (.bool b) := by rw [h]
theorem ret_int {k : IntKind} {a b : Int} (h : a = b) : Ending.returned (.int k a) = .returned (.int k b) := by rw [h]

/-- A function that tells of a byte whether it is of a kind. -/
def Kind1 (f : FuncId) (p : UInt8 → Bool) : Prop := ∀ (c : UInt8) (w : World), Calls Tryd.prog f #[.int .u8 (c.toNat : Int)] w fun e w' => e = .returned (.bool (p c)) ∧ w' = w

theorem isBlank_any : Kind1 8 blB := by
  intro c w
  go_enter Tryd.func8, Tryd.ntmps8
  go_wp2
  all_goals
    go_ret
    refine ⟨ret_bool ?_, rfl⟩
    rw [Bool.eq_iff_iff]
    simp [blB] <;> omega
theorem isRemark_any : Kind1 10 rmB := by
  intro c w
  go_enter Tryd.func10, Tryd.ntmps10
  go_wp2
  all_goals
    go_ret
    refine ⟨ret_bool ?_, rfl⟩
    rw [Bool.eq_iff_iff]
    simp [rmB] <;> omega
theorem isLetter_any : Kind1 11 letB := by
  intro c w
  go_enter Tryd.func11, Tryd.ntmps11
  go_wp2
  all_goals
    go_ret
    refine ⟨ret_bool ?_, rfl⟩
    rw [Bool.eq_iff_iff]
    simp [letB] <;> omega
theorem isDigit_any : Kind1 15 digB := by
  intro c w
  go_enter Tryd.func15, Tryd.ntmps15
  go_wp2
  all_goals
    go_ret
    refine ⟨ret_bool ?_, rfl⟩
    rw [Bool.eq_iff_iff]
    simp [digB] <;> omega

/-! ### signs -/
theorem indexByte_mem (c : UInt8) : ∀ l : List UInt8, 0 ≤ Lib.indexByte l c ↔ c ∈ l
  | [] => by simp [Lib.indexByte]
  | b :: l => by
    have ih := indexByte_mem c l
    have hge := Lib.indexByte_ge l c
    simp only [Lib.indexByte, List.mem_cons]
    by_cases h : b = c
    · subst h; simp
    · have h' : ¬ c = b := fun e => h e.symm
      simp only [beq_iff_eq, h, h', if_false, false_or]
      rw [← ih]
      split <;> omega
theorem sign_mem (c : UInt8) : c ∈ ([40, 41, 123, 125, 60, 62, 44, 59] : List UInt8) ↔ sigB c = true := by
  simp [sigB, ← UInt8.toNat_inj]

set_option maxHeartbeats 1000000 in
set_option maxRecDepth 100000 in
theorem sliteIndexByte (s : ByteArray) (c : Int) (w : World) :
    Calls Tryd.prog 27 #[.string s, .int .u8 c] w fun e w' => e = .returned (.int .i64 (Lib.indexByte s.data.toList c.toNat.toUInt8)) ∧ w' = w := by
  go_enter Tryd.func27, Tryd.ntmps27
  go_wp2
  rw [run_callFunc_extern Tryd.func37 (by kernel_rfl) (by kernel_rfl) (by kernel_rfl) (e := Extern.BytealgIndexByte.indexByte) (by kernel_rfl), Lib.run_indexByteString]
  simp only [Result.andThen]
  rw [Oper.upon_value]
  go_wp2
  go_ret
  exact ⟨rfl, rfl⟩
theorem sIndexByte (s : ByteArray) (c : Int) (w : World) :
    Calls Tryd.prog 22 #[.string s, .int .u8 c] w fun e w' => e = .returned (.int .i64 (Lib.indexByte s.data.toList c.toNat.toUInt8)) ∧ w' = w := by
  go_enter Tryd.func22, Tryd.ntmps22
  go_wp2_with (go_at_call 27; refine (sliteIndexByte _ _ _).mono ?_; rintro e w' ⟨rfl, rfl⟩)
  go_ret
  exact ⟨rfl, rfl⟩
theorem isSign_any : Kind1 17 sigB := by
  intro c w
  have h1 := indexByte_mem c [40, 41, 123, 125, 60, 62, 44, 59]
  rw [sign_mem] at h1
  have hc : ((c.toNat : Int)).toNat.toUInt8 = c := by simp
  have C : Hid (∀ w, Calls Tryd.prog 22 #[.string ⟨#[40, 41, 123, 125, 60, 62, 44, 59]⟩, .int .u8 (c.toNat : Int)] w fun e w' => e = .returned (.int .i64 (Lib.indexByte [40, 41, 123, 125, 60, 62, 44, 59] c)) ∧ w' = w) := by
    intro w
    have := sIndexByte ⟨#[40, 41, 123, 125, 60, 62, 44, 59]⟩ (c.toNat : Int) w
    rw [hc] at this
    exact this
  clear hc
  generalize Lib.indexByte [40, 41, 123, 125, 60, 62, 44, 59] c = x at h1 C
  have H : Hid (0 ≤ x ↔ sigB c = true) := h1
  clear h1
  go_enter Tryd.func17, Tryd.ntmps17
  go_wp2_with (go_at_call 22; refine (C.out _).mono ?_; rintro e w' ⟨rfl, rfl⟩)
  all_goals
    go_ret
    refine ⟨ret_bool ?_, rfl⟩
    rw [Bool.eq_iff_iff, ← H.out]
    simp
/-- Is there a digit? -/
theorem isDigitAt_any (s : ByteArray) (i : Nat) (w : World) (hi : i ≤ 1000000) (hs : s.size ≤ maxLen) :
    Calls Tryd.prog 13 #[.string s, .int .i64 i] w fun e w' => e = .returned (.bool ((s.data.toList.drop i).head?.any digB)) ∧ w' = w := by
  unfold maxLen at hs
  by_cases hlt : i < s.size
  · rw [drop_at s i hlt]
    have hlt' : (i : Int) < s.size := by omega
    go_enter Tryd.func13, Tryd.ntmps13
    go_wp2_with (go_at_call 15; refine (isDigit_any _ _).mono ?_; rintro e w' ⟨rfl, rfl⟩)
    all_goals
      go_ret
      exact ⟨ret_bool (by simp), rfl⟩
  · rw [drop_end s i hlt]
    have hlt' : ¬ (i : Int) < s.size := by omega
    go_enter Tryd.func13, Tryd.ntmps13
    go_wp2_with (go_at_call 15; refine (isDigit_any _ _).mono ?_; rintro e w' ⟨rfl, rfl⟩)
    go_ret
    exact ⟨ret_bool (by simp), rfl⟩

/-! ### how far a kind goes, and blanks -/
set_option maxHeartbeats 1000000 in
/-- past, with a function that tells a kind. -/
theorem past_any {f : FuncId} {p : UInt8 → Bool} (hk0 : Kind1 f p) (hE0 : Enters Tryd.prog f) (s : ByteArray) (i : Nat) (w : World) (hi : i ≤ s.size) (hs : s.size ≤ 1000000) :
    Calls Tryd.prog 9 #[.string s, .int .i64 i, .func (.func f) #[] #[]] w fun e w' => e = .returned (.int .i64 ((i + pre p (s.data.toList.drop i) : Nat) : Int)) ∧ w' = w := by
  have hk : Hid (Kind1 f p) := hk0
  have hE : ∀ args w, (callFunc f args).run Tryd.prog w = .ok (.enter f args) w := hE0
  clear hk0 hE0
  go_enter Tryd.func9, Tryd.ntmps9
  go_wp2_with fail
  go_loop [1] (fun t => ∃ k : Nat, k ≤ s.size ∧ t = .int .i64 k ∧ k + pre p (s.data.toList.drop k) = i + pre p (s.data.toList.drop i)) (fun t => s.size - (intOf t).toNat)
  case atStart => exact ⟨i, hi, rfl, rfl⟩
  case round =>
    obtain ⟨k, hk1, rfl, hrel⟩ := hrel
    have R : Hid (k + pre p (s.data.toList.drop k) = i + pre p (s.data.toList.drop i)) := hrel
    clear hrel
    by_cases hlt : k < s.size
    · have hlt' : (k : Int) < s.size := by omega
      cases hp : p s[k] with
      | true =>
        have R2 : Hid (k + 1 + pre p (s.data.toList.drop (k + 1)) = i + pre p (s.data.toList.drop i)) := by
          show _ = _
          rw [← R.out, drop_at s k hlt, pre_yes hp]; omega
        have C : ∀ w, Calls Tryd.prog f #[.int .u8 (s[k].toNat : Int)] w fun e w' => e = .returned (.bool true) ∧ w' = w := fun w => by rw [← hp]; exact hk.out _ w
        have HC : Hid _ := C
        clear C hp R
        go_wp2_with (go_at_fn f; refine (HC.out _).mono ?_; rintro e w' ⟨rfl, rfl⟩)
        go_round
        case rel => exact ⟨k + 1, by omega, by go_num, R2.out⟩
        case measure => simp [intOf]; omega
      | false =>
        have R2 : Hid (k = i + pre p (s.data.toList.drop i)) := by
          show _ = _
          rw [← R.out, drop_at s k hlt, pre_no hp]; omega
        have C : ∀ w, Calls Tryd.prog f #[.int .u8 (s[k].toNat : Int)] w fun e w' => e = .returned (.bool false) ∧ w' = w := fun w => by rw [← hp]; exact hk.out _ w
        have HC : Hid _ := C
        clear C hp R
        go_wp2_with (go_at_fn f; refine (HC.out _).mono ?_; rintro e w' ⟨rfl, rfl⟩)
        go_ret
        exact ⟨ret_int (by have := R2.out; omega), rfl⟩
    · have hlt' : ¬ (k : Int) < s.size := by omega
      have R2 : Hid (k = i + pre p (s.data.toList.drop i)) := by
        show _ = _
        rw [← R.out, drop_end s k hlt]; simp [pre]
      clear R
      go_wp2_with (go_at_fn f; fail)
      go_ret
      exact ⟨ret_int (by have := R2.out; omega), rfl⟩

theorem ent_remark : Enters Tryd.prog 10 := enters_of Tryd.func10 (by kernel_rfl) rfl
theorem ent_letter : Enters Tryd.prog 11 := enters_of Tryd.func11 (by kernel_rfl) rfl
theorem ent_digit : Enters Tryd.prog 15 := enters_of Tryd.func15 (by kernel_rfl) rfl

/-- What stands at a place. -/
theorem kind_at {f : FuncId} {p : UInt8 → Bool} (h : Kind1 f p) {c : UInt8} {b : Bool} (hp : p c = b) : ∀ w, Calls Tryd.prog f #[.int .u8 (c.toNat : Int)] w fun e w' => e = .returned (.bool b) ∧ w' = w := fun w => by rw [← hp]; exact h _ w
set_option maxHeartbeats 1000000 in
theorem pastBlanks_any (s : ByteArray) (i : Nat) (w : World) (hi : i ≤ s.size) (hs : s.size ≤ 1000000) :
    Calls Tryd.prog 6 #[.string s, .int .i64 i] w fun e w' => e = .returned (.int .i64 ((i + blk false (s.data.toList.drop i) : Nat) : Int)) ∧ w' = w := by
  go_enter Tryd.func6, Tryd.ntmps6
  go_wp2_with fail
  go_loop [1] (fun t => ∃ k : Nat, k ≤ s.size ∧ t = .int .i64 k ∧ k + blk false (s.data.toList.drop k) = i + blk false (s.data.toList.drop i)) (fun t => s.size - (intOf t).toNat)
  case atStart => exact ⟨i, hi, rfl, rfl⟩
  case round =>
    obtain ⟨k, hk1, rfl, hrel⟩ := hrel
    have R : Hid (k + blk false (s.data.toList.drop k) = i + blk false (s.data.toList.drop i)) := hrel
    clear hrel
    by_cases hlt : k < s.size
    · have hlt' : (k : Int) < s.size := by omega
      cases hp : blB s[k] with
      | true =>
        have R2 : Hid (k + 1 + blk false (s.data.toList.drop (k + 1)) = i + blk false (s.data.toList.drop i)) := by
          show _ = _
          rw [← R.out, drop_at s k hlt, blk_blank hp]; omega
        have C : Hid _ := kind_at isBlank_any hp
        clear hp R
        go_wp2_with (go_at_call 8; refine (C.out _).mono ?_; rintro e w' ⟨rfl, rfl⟩)
        go_round
        case rel => exact ⟨k + 1, by omega, by go_num, R2.out⟩
        case measure => simp [intOf]; omega
      | false =>
        have C : Hid _ := kind_at isBlank_any hp
        by_cases h35 : s[k].toNat = 35
        · have hn := pre_le rmB (s.data.toList.drop k)
          rw [List.length_drop, list_len] at hn
          have hy : 1 ≤ pre rmB (s.data.toList.drop k) := by
            rw [drop_at s k hlt, pre_yes (by simp [rmB, h35])]; omega
          have R2 : Hid (k + pre rmB (s.data.toList.drop k) + blk false (s.data.toList.drop (k + pre rmB (s.data.toList.drop k))) = i + blk false (s.data.toList.drop i)) := by
            show _ = _
            have hd := drop_at s k hlt
            have hb := blk_remark (l := s.data.toList.drop (k + 1)) h35
            rw [← hd] at hb
            rw [← R.out, hb, List.drop_drop]; omega
          have D : Hid _ := past_any isRemark_any ent_remark s k
          generalize pre rmB (s.data.toList.drop k) = m at hn hy R2 D
          have h35' : (s[k].toNat : Int) = 35 := by omega
          have hkm : Hid (k + m ≤ s.size) := by show _ ≤ _; omega
          have hms : Hid (s.size - (k + m) < s.size - k) := by show _ < _; omega
          have C' := C.out
          rw [h35'] at C'
          have C2 : Hid _ := C'
          clear hp R h35 hn hy C C'
          go_wp2_with (first
            | (go_at_call 8; refine (C2.out _).mono ?_; rintro e w' ⟨rfl, rfl⟩)
            | (go_at_call 9; refine (D.out _ hk1 hs).mono ?_; rintro e w' ⟨rfl, rfl⟩))
          go_round
          case rel => exact ⟨k + m, hkm.out, by refine congrArg (Value.int IntKind.i64) ?_; exact (Int.natCast_add k m).symm, R2.out⟩
          case measure => have := hms.out; simp [intOf]; omega
        · have R2 : Hid (k = i + blk false (s.data.toList.drop i)) := by
            show _ = _
            rw [← R.out, drop_at s k hlt, blk_none hp h35]; omega
          have h35' : ¬ (s[k].toNat : Int) = 35 := by omega
          clear hp R h35
          go_wp2_with (first
            | (go_at_call 8; refine (C.out _).mono ?_; rintro e w' ⟨rfl, rfl⟩))
          go_ret
          exact ⟨ret_int (by have := R2.out; omega), rfl⟩
    · have hlt' : ¬ (k : Int) < s.size := by omega
      have R2 : Hid (k = i + blk false (s.data.toList.drop i)) := by
        show _ = _
        rw [← R.out, drop_end s k hlt]; simp [blk]
      clear R
      go_wp2_with fail
      go_ret
      exact ⟨ret_int (by have := R2.out; omega), rfl⟩
end Go.Proofs.YtlahoehngnebnacDoor
