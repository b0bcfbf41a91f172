/-
  The first code of a type: typeFault.
-/
import Derived.Test.YtmnmnokkojcodabTypRead
namespace Go.Proofs.Ytmnmnokkojcodab
open Go.ChangeShapes Go.WideShapes Go.ChangeAt Go.RowKit
set_option linter.unusedVariables false

set_option maxHeartbeats 8000000 in
set_option maxRecDepth 100000 in
theorem typeFault_any : ∀ n, FaultAt 99 n := by
  intro n
  induction n with
  | zero => intro t; exact Empty.elim t
  | succ n ih =>
    intro t a c regs w ht hct
    have IH : Hid (FaultAt 99 n) := ih
    clear ih
    have hT : Hid (LIn w All t.2.2 a) := ht.list
    have hco : Hid (∀ x ∈ t.2.2, x.count ≤ 2000) := fun x hx => by have := t.count_kid hx; omega
    have hlen : t.2.2.length ≤ 2000 := by have := t.len_lt_count; rw [t.len_eq] at this; omega
    have hF : Hid (t.fault regs = if ownC t.kind t.r t.2.2.length regs ≠ 0 then ownC t.kind t.r t.2.2.length regs else firstL (TT.fault regs) t.2.2) := rfl
    generalize t.fault regs = res at hF ⊢
    simp only [Tv, TT.len_eq]
    generalize t.2.2 = l at hT hco hF hlen ⊢
    generalize t.kind = k at hF ⊢
    generalize t.r = r at hF ⊢
    clear ht hct t
    generalize hln : l.length = len at hF hlen ⊢
    have HL : Hid (l.length = len) := hln
    clear hln
    rcases (show k < 1 ∨ (¬ k < 1 ∧ 4 < k) ∨ k = 1 ∨ k = 2 ∨ k = 4 ∨ k = 3 by omega) with h1 | ⟨h1, h2⟩ | rfl | rfl | rfl | rfl
    · have hR := hF.out
      rw [show ownC _ _ len regs = 3 by unfold ownC; repeat' split; all_goals omega] at hR
      clear hF
      replace hR : Hid (res = 3) := by show res = 3; simpa using hR
      go_enter Try.func99, Try.ntmps99
      go_wp2_with fail
      go_ret
      exact ⟨by rw [hR.out]; rfl, (Below.refl _ w).alloc (Nat.le_refl _) _⟩
    · have hR := hF.out
      rw [show ownC _ _ len regs = 3 by unfold ownC; repeat' split; all_goals omega] at hR
      clear hF
      replace hR : Hid (res = 3) := by show res = 3; simpa using hR
      go_enter Try.func99, Try.ntmps99
      go_wp2_with fail
      go_ret
      exact ⟨by rw [hR.out]; rfl, (Below.refl _ w).alloc (Nat.le_refl _) _⟩
    · rcases (show r ≠ 0 ∨ (r = 0 ∧ 0 < len) ∨ (r = 0 ∧ len = 0) by omega) with h1 | ⟨rfl, h1⟩ | ⟨rfl, h1⟩
      · have g1 : (r != 0) = true := by simpa using h1
        have hR := hF.out
        rw [show ownC _ _ len regs = 4 by unfold ownC; repeat' split; all_goals omega] at hR
        clear hF
        replace hR : Hid (res = 4) := by show res = 4; simpa using hR
        go_enter Try.func99, Try.ntmps99
        go_wp2_with fail
        go_ret
        exact ⟨by rw [hR.out]; rfl, (Below.refl _ w).alloc (Nat.le_refl _) _⟩
      · have g1 : (0 : Int) < (len : Int) := by omega
        have hR := hF.out
        rw [show ownC _ _ len regs = 4 by unfold ownC; repeat' split; all_goals omega] at hR
        clear hF
        replace hR : Hid (res = 4) := by show res = 4; simpa using hR
        go_enter Try.func99, Try.ntmps99
        go_wp2_with fail
        go_ret
        exact ⟨by rw [hR.out]; rfl, (Below.refl _ w).alloc (Nat.le_refl _) _⟩
      · have g1 : ¬ (0 : Int) < (len : Int) := by omega
        have g2 : ¬ (8 : Int) < (len : Int) := by omega
        have hR := hF.out
        rw [show ownC _ _ len regs = 0 by unfold ownC; repeat' split; all_goals omega] at hR
        clear hF
        have R : Hid (res = firstL (TT.fault regs) l) := by show res = firstL (TT.fault regs) l; simpa using hR
        clear hR
        have R0 : Hid (res = 0) := by
          have hl0 : l = [] := List.length_eq_zero_iff.1 (HL.out.trans h1)
          have := R.out
          rw [hl0] at this
          exact this
        subst h1
        clear R g1 g2
        go_enter Try.func99, Try.ntmps99
        go_wp2_with fail
        have X0 := Bx.start w 1 0 a 0 c
        generalize w.alloc (.cells #[.int .i64 1, .int .i64 0, .slice a 0 c] 90) = w1 at X0 ⊢
        have X1 : Hid (Bx w w1 1 0 a 0 c) := X0
        clear X0
        go_loopw [5] (fun i wr => i = .int .i64 0 ∧ Bx w wr 1 0 a 0 c) (fun _ _ => 0)
        case atStart => exact ⟨rfl, X1.out⟩
        case round =>
          clear X1
          obtain ⟨rfl, hX⟩ := hrel
          have X1 : Hid (Bx w wr 1 0 a 0 c) := hX
          have e2 : wr.cell? ⟨w.heap.size, 2, none⟩ = some (.slice a 0 c) := cellOf hX.box 2 _ rfl
          clear hX
          go_wp2
          go_ret
          exact ⟨by rw [R0.out]; rfl, X1.out.bel⟩
    · rcases (show 0 < len ∨ (len = 0 ∧ r < 0) ∨ (len = 0 ∧ 0 ≤ r ∧ regs ≤ r) ∨ (len = 0 ∧ 0 ≤ r ∧ r < regs) by omega) with h1 | ⟨h1, h2⟩ | ⟨h1, h2, h3⟩ | ⟨h1, h2, h3⟩
      · have g1 : (0 : Int) < (len : Int) := by omega
        have hR := hF.out
        rw [show ownC _ _ len regs = 4 by unfold ownC; repeat' split; all_goals omega] at hR
        clear hF
        replace hR : Hid (res = 4) := by show res = 4; simpa using hR
        go_enter Try.func99, Try.ntmps99
        go_wp2_with fail
        go_ret
        exact ⟨by rw [hR.out]; rfl, (Below.refl _ w).alloc (Nat.le_refl _) _⟩
      · have g1 : ¬ (0 : Int) < (len : Int) := by omega
        have g2 : ¬ (8 : Int) < (len : Int) := by omega
        have hR := hF.out
        rw [show ownC _ _ len regs = 1 by unfold ownC; repeat' split; all_goals omega] at hR
        clear hF
        replace hR : Hid (res = 1) := by show res = 1; simpa using hR
        go_enter Try.func99, Try.ntmps99
        go_wp2_with fail
        go_ret
        exact ⟨by rw [hR.out]; rfl, (Below.refl _ w).alloc (Nat.le_refl _) _⟩
      · have g1 : ¬ (0 : Int) < (len : Int) := by omega
        have g2 : ¬ (8 : Int) < (len : Int) := by omega
        have hR := hF.out
        rw [show ownC _ _ len regs = 1 by unfold ownC; repeat' split; all_goals omega] at hR
        clear hF
        replace hR : Hid (res = 1) := by show res = 1; simpa using hR
        go_enter Try.func99, Try.ntmps99
        go_wp2_with fail
        go_ret
        exact ⟨by rw [hR.out]; rfl, (Below.refl _ w).alloc (Nat.le_refl _) _⟩
      · have g1 : ¬ (0 : Int) < (len : Int) := by omega
        have g2 : ¬ (8 : Int) < (len : Int) := by omega
        have hR := hF.out
        rw [show ownC _ _ len regs = 0 by unfold ownC; repeat' split; all_goals omega] at hR
        clear hF
        have R : Hid (res = firstL (TT.fault regs) l) := by show res = firstL (TT.fault regs) l; simpa using hR
        clear hR
        have R0 : Hid (res = 0) := by
          have hl0 : l = [] := List.length_eq_zero_iff.1 (HL.out.trans h1)
          have := R.out
          rw [hl0] at this
          exact this
        subst h1
        clear R g1 g2
        go_enter Try.func99, Try.ntmps99
        go_wp2_with fail
        have X0 := Bx.start w 2 r a 0 c
        generalize w.alloc (.cells #[.int .i64 2, .int .i64 r, .slice a 0 c] 90) = w1 at X0 ⊢
        have X1 : Hid (Bx w w1 2 r a 0 c) := X0
        clear X0
        go_loopw [5] (fun i wr => i = .int .i64 0 ∧ Bx w wr 2 r a 0 c) (fun _ _ => 0)
        case atStart => exact ⟨rfl, X1.out⟩
        case round =>
          clear X1
          obtain ⟨rfl, hX⟩ := hrel
          have X1 : Hid (Bx w wr 2 r a 0 c) := hX
          have e2 : wr.cell? ⟨w.heap.size, 2, none⟩ = some (.slice a 0 c) := cellOf hX.box 2 _ rfl
          clear hX
          go_wp2
          go_ret
          exact ⟨by rw [R0.out]; rfl, X1.out.bel⟩
    · rcases (show 0 < len ∨ (len = 0 ∧ r < 0) ∨ (len = 0 ∧ 0 ≤ r ∧ regs ≤ r) ∨ (len = 0 ∧ 0 ≤ r ∧ r < regs) by omega) with h1 | ⟨h1, h2⟩ | ⟨h1, h2, h3⟩ | ⟨h1, h2, h3⟩
      · have g1 : (0 : Int) < (len : Int) := by omega
        have hR := hF.out
        rw [show ownC _ _ len regs = 4 by unfold ownC; repeat' split; all_goals omega] at hR
        clear hF
        replace hR : Hid (res = 4) := by show res = 4; simpa using hR
        go_enter Try.func99, Try.ntmps99
        go_wp2_with fail
        go_ret
        exact ⟨by rw [hR.out]; rfl, (Below.refl _ w).alloc (Nat.le_refl _) _⟩
      · have g1 : ¬ (0 : Int) < (len : Int) := by omega
        have g2 : ¬ (8 : Int) < (len : Int) := by omega
        have hR := hF.out
        rw [show ownC _ _ len regs = 1 by unfold ownC; repeat' split; all_goals omega] at hR
        clear hF
        replace hR : Hid (res = 1) := by show res = 1; simpa using hR
        go_enter Try.func99, Try.ntmps99
        go_wp2_with fail
        go_ret
        exact ⟨by rw [hR.out]; rfl, (Below.refl _ w).alloc (Nat.le_refl _) _⟩
      · have g1 : ¬ (0 : Int) < (len : Int) := by omega
        have g2 : ¬ (8 : Int) < (len : Int) := by omega
        have hR := hF.out
        rw [show ownC _ _ len regs = 1 by unfold ownC; repeat' split; all_goals omega] at hR
        clear hF
        replace hR : Hid (res = 1) := by show res = 1; simpa using hR
        go_enter Try.func99, Try.ntmps99
        go_wp2_with fail
        go_ret
        exact ⟨by rw [hR.out]; rfl, (Below.refl _ w).alloc (Nat.le_refl _) _⟩
      · have g1 : ¬ (0 : Int) < (len : Int) := by omega
        have g2 : ¬ (8 : Int) < (len : Int) := by omega
        have hR := hF.out
        rw [show ownC _ _ len regs = 0 by unfold ownC; repeat' split; all_goals omega] at hR
        clear hF
        have R : Hid (res = firstL (TT.fault regs) l) := by show res = firstL (TT.fault regs) l; simpa using hR
        clear hR
        have R0 : Hid (res = 0) := by
          have hl0 : l = [] := List.length_eq_zero_iff.1 (HL.out.trans h1)
          have := R.out
          rw [hl0] at this
          exact this
        subst h1
        clear R g1 g2
        go_enter Try.func99, Try.ntmps99
        go_wp2_with fail
        have X0 := Bx.start w 4 r a 0 c
        generalize w.alloc (.cells #[.int .i64 4, .int .i64 r, .slice a 0 c] 90) = w1 at X0 ⊢
        have X1 : Hid (Bx w w1 4 r a 0 c) := X0
        clear X0
        go_loopw [5] (fun i wr => i = .int .i64 0 ∧ Bx w wr 4 r a 0 c) (fun _ _ => 0)
        case atStart => exact ⟨rfl, X1.out⟩
        case round =>
          clear X1
          obtain ⟨rfl, hX⟩ := hrel
          have X1 : Hid (Bx w wr 4 r a 0 c) := hX
          have e2 : wr.cell? ⟨w.heap.size, 2, none⟩ = some (.slice a 0 c) := cellOf hX.box 2 _ rfl
          clear hX
          go_wp2
          go_ret
          exact ⟨by rw [R0.out]; rfl, X1.out.bel⟩
    · rcases (show 8 < len ∨ (len ≤ 8 ∧ r < 0) ∨ (len ≤ 8 ∧ 0 ≤ r ∧ regs ≤ r) ∨ (len ≤ 8 ∧ 0 ≤ r ∧ r < regs) by omega) with h1 | ⟨h1, h2⟩ | ⟨h1, h2, h3⟩ | ⟨h1, h2, h3⟩
      · have g1 : (8 : Int) < (len : Int) := by omega
        have hR := hF.out
        rw [show ownC _ _ len regs = 2 by unfold ownC; repeat' split; all_goals omega] at hR
        clear hF
        replace hR : Hid (res = 2) := by show res = 2; simpa using hR
        go_enter Try.func99, Try.ntmps99
        go_wp2_with fail
        go_ret
        exact ⟨by rw [hR.out]; rfl, (Below.refl _ w).alloc (Nat.le_refl _) _⟩
      · have g1 : ¬ (8 : Int) < (len : Int) := by omega
        have hR := hF.out
        rw [show ownC _ _ len regs = 1 by unfold ownC; repeat' split; all_goals omega] at hR
        clear hF
        replace hR : Hid (res = 1) := by show res = 1; simpa using hR
        go_enter Try.func99, Try.ntmps99
        go_wp2_with fail
        go_ret
        exact ⟨by rw [hR.out]; rfl, (Below.refl _ w).alloc (Nat.le_refl _) _⟩
      · have g1 : ¬ (8 : Int) < (len : Int) := by omega
        have hR := hF.out
        rw [show ownC _ _ len regs = 1 by unfold ownC; repeat' split; all_goals omega] at hR
        clear hF
        replace hR : Hid (res = 1) := by show res = 1; simpa using hR
        go_enter Try.func99, Try.ntmps99
        go_wp2_with fail
        go_ret
        exact ⟨by rw [hR.out]; rfl, (Below.refl _ w).alloc (Nat.le_refl _) _⟩
      · have g1 : ¬ (8 : Int) < (len : Int) := by omega
        have hR := hF.out
        rw [show ownC _ _ len regs = 0 by unfold ownC; repeat' split; all_goals omega] at hR
        clear hF
        have R : Hid (res = firstL (TT.fault regs) l) := by show res = firstL (TT.fault regs) l; simpa using hR
        clear hR
        go_enter Try.func99, Try.ntmps99
        go_wp2_with fail
        have X0 := Bx.start w 3 r a len c
        generalize w.alloc (.cells #[.int .i64 3, .int .i64 r, .slice a len c] 90) = w1 at X0 ⊢
        have X1 : Hid (Bx w w1 3 r a len c) := X0
        clear X0
        go_loopw [5] (fun i wr => ∃ q : Nat, q ≤ len ∧ i = .int .i64 q ∧ (∀ (j : Nat) x, j < q → l[j]? = some x → x.fault regs = 0) ∧ Bx w wr 3 r a len c) (fun i _ => len - (intOf i).toNat)
        case atStart => exact ⟨0, Nat.zero_le _, rfl, fun j x hj => by omega, X1.out⟩
        case round =>
          clear X1
          obtain ⟨q, hq, rfl, hall, hX⟩ := hrel
          have A : Hid (∀ (j : Nat) x, j < q → l[j]? = some x → x.fault regs = 0) := hall
          have X1 : Hid (Bx w wr 3 r a len c) := hX
          have e2 : wr.cell? ⟨w.heap.size, 2, none⟩ = some (.slice a len c) := cellOf hX.box 2 _ rfl
          clear hall
          by_cases hlt : q < len
          · have hql : q < l.length := by have := HL.out; omega
            have hx : l[q]? = some l[q] := List.getElem?_eq_getElem hql
            generalize l[q] = x at hx
            clear hql
            obtain ⟨g, o, a', c', rfl, _, d0, d1, d2, hk⟩ := LIn.at (hT.out.below hX.bel) hx
            have hx' : Hid (l[q]? = some x) := hx
            have hk0 : (0 : Int) ≤ q := by omega
            have hk1 : (q : Int) < len := by omega
            have hk2 : (q : Int) < 2000 := by omega
            have C : Hid (∀ wx, Below wr.heap.size wr wx → Calls Try.prog 99 #[Tv x a' c', .int .i64 regs] wx fun e w' => e = .returned (.int .i64 (x.fault regs)) ∧ Below wx.heap.size wx w') :=
              fun wx hb => IH.out x a' c' regs wx (hk.below hb) (hco.out x (List.mem_of_getElem? hx))
            clear hX hk hx
            simp only [Tv] at C
            generalize x.kind = kx at C d0
            generalize x.r = rx at C d1
            generalize x.len = lx at C d2
            go_wp2_with fail
            refine (C.out _ (Below.refl _ _)).mono ?_
            rintro e w2 ⟨rfl, b2⟩
            have X2 : Hid (Bx w w2 3 r (some ⟨g, o, none⟩) len c) := X1.out.below b2
            clear X1 b2 C d0 d1 d2 e2
            by_cases hd : x.fault regs = 0
            · have A2 : Hid (∀ (j : Nat) x, j < q + 1 → l[j]? = some x → x.fault regs = 0) := fun j y hj hy => by
                by_cases e : j = q
                · subst e
                  rw [hx'.out] at hy
                  cases hy
                  exact hd
                · exact A.out j y (by omega) hy
              rw [hd]
              clear hd A
              go_wp2
              go_roundw
              case rel => exact ⟨q + 1, by omega, by go_num, A2.out, X2.out⟩
              case measure => simp [intOf]; omega
            · have Rv : Hid (res = x.fault regs) := R.out.trans (firstL_eq hx'.out A.out hd)
              have hd' : (x.fault regs != 0) = true := by simpa using hd
              generalize x.fault regs = v at hd' Rv ⊢
              clear hd A
              go_wp2
              go_ret
              exact ⟨by rw [Rv.out]; rfl, X2.out.bel⟩
          · have Rv : Hid (res = 0) := R.out.trans (firstL_zero (fun j y hy => A.out j y (by have := (List.getElem?_eq_some_iff.1 hy).1; have := HL.out; omega) hy))
            have hk1 : ¬ (q : Int) < len := by omega
            clear hX A
            go_wp2
            go_ret
            exact ⟨by rw [Rv.out]; rfl, X1.out.bel⟩
end Go.Proofs.Ytmnmnokkojcodab
