/-
  The first code of a type: firstCode.
-/
import Derived.Test.YtmnmnokkojcodabTypOwn
namespace Go.Proofs.Ytmnmnokkojcodab
open Go.ChangeShapes Go.WideShapes Go.ChangeAt Go.RowKit
set_option linter.unusedVariables false

set_option maxHeartbeats 4000000 in
set_option maxRecDepth 100000 in
theorem firstCode_any : ∀ n, FaultAt 116 n := by
  intro n
  induction n with
  | zero => intro t; exact Empty.elim t
  | succ n ih =>
    intro t a c regs w ht hct
    have IH : Hid (FaultAt 116 n) := ih
    clear ih
    have hT : Hid (LIn w All t.2.2 a) := ht.list
    have hco : Hid (∀ x ∈ t.2.2, x.count ≤ 2000) := fun x hx => by have := t.count_kid hx; omega
    have hlen : t.2.2.length ≤ 2000 := by have := t.len_lt_count; rw [t.len_eq] at this; omega
    have hF : Hid (t.fault regs = if ownC t.kind t.r t.2.2.length regs ≠ 0 then ownC t.kind t.r t.2.2.length regs else firstL (TT.fault regs) t.2.2) := rfl
    generalize t.fault regs = res at hF ⊢
    simp only [Tv, TT.len_eq]
    generalize t.2.2 = l at hT hco hF hlen ⊢
    generalize t.kind = k at hF ⊢
    generalize t.r = r at hF ⊢
    clear ht hct t
    go_enter Try.func116, Try.ntmps116
    go_wp2_with fail
    have X0 : Hid (Bx w (w.alloc (.cells #[.int .i64 k, .int .i64 r, .slice a l.length c] 90)) k r a l.length c) := Bx.start w k r a l.length c
    refine (ownCode_any k r a l.length c regs _).mono ?_
    rintro e w1 ⟨rfl, b1⟩
    have X1 : Hid (Bx w w1 k r a l.length c) := X0.out.below b1
    clear X0 b1
    by_cases hz : ownC k r l.length regs = 0
    · have R : Hid (res = firstL (TT.fault regs) l) := by
        have := hF.out
        rw [hz] at this
        show res = firstL (TT.fault regs) l
        simpa using this
      rw [hz]
      clear hz hF
      have e2 : w1.cell? ⟨w.heap.size, 2, none⟩ = some (.slice a l.length c) := cellOf X1.out.box 2 _ rfl
      go_wp2_with fail
      clear e2
      go_loopw [18] (fun i wr => ∃ q : Nat, q ≤ l.length ∧ i = .int .i64 q ∧ (∀ (j : Nat) x, j < q → l[j]? = some x → x.fault regs = 0) ∧ Bx w wr k r a l.length c) (fun i _ => l.length - (intOf i).toNat)
      case atStart => exact ⟨0, Nat.zero_le _, rfl, fun j x hj => by omega, X1.out⟩
      case round =>
        clear X1
        obtain ⟨q, hq, rfl, hall, hX⟩ := hrel
        have A : Hid (∀ (j : Nat) x, j < q → l[j]? = some x → x.fault regs = 0) := hall
        have X1 : Hid (Bx w wr k r a l.length c) := hX
        clear hall
        by_cases hlt : q < l.length
        · have hx : l[q]? = some l[q] := List.getElem?_eq_getElem hlt
          generalize l[q] = x at hx
          obtain ⟨g, o, a', c', rfl, _, d0, d1, d2, hk⟩ := LIn.at (hT.out.below hX.bel) hx
          have hx' : Hid (l[q]? = some x) := hx
          have hk0 : (0 : Int) ≤ q := by omega
          have hk1 : (q : Int) < l.length := by omega
          have hk2 : (q : Int) < 2000 := by omega
          have C : Hid (∀ wx, Below wr.heap.size wr wx → Calls Try.prog 116 #[Tv x a' c', .int .i64 regs] wx fun e w' => e = .returned (.int .i64 (x.fault regs)) ∧ Below wx.heap.size wx w') :=
            fun wx hb => IH.out x a' c' regs wx (hk.below hb) (hco.out x (List.mem_of_getElem? hx))
          clear hX hk hx
          simp only [Tv] at C
          generalize x.kind = kx at C d0
          generalize x.r = rx at C d1
          generalize x.len = lx at C d2
          go_wp2_with fail
          have B1 : Below wr.heap.size wr (wr.alloc (.cells #[.int .i64 kx, .int .i64 rx, .slice a' lx c'] 90)) := (Below.refl _ wr).alloc (Nat.le_refl _) _
          refine (C.out _ B1).mono ?_
          rintro e w2 ⟨rfl, b2⟩
          have X2 : Hid (Bx w w2 k r (some ⟨g, o, none⟩) l.length c) := (X1.out.below B1).below b2
          clear X1 b2 B1 C d0 d1 d2
          by_cases hd : x.fault regs = 0
          · have A2 : Hid (∀ (j : Nat) x, j < q + 1 → l[j]? = some x → x.fault regs = 0) := fun j y hj hy => by
              by_cases e : j = q
              · subst e
                rw [hx'.out] at hy
                cases hy
                exact hd
              · exact A.out j y (by omega) hy
            rw [hd]
            clear hd A
            go_wp2
            go_roundw
            case rel => exact ⟨q + 1, by omega, by go_num, A2.out, X2.out⟩
            case measure => simp [intOf]; omega
          · have Rv : Hid (res = x.fault regs) := R.out.trans (firstL_eq hx'.out A.out hd)
            have hd' : (x.fault regs != 0) = true := by simpa using hd
            generalize x.fault regs = v at hd' Rv ⊢
            clear hd A
            go_wp2
            go_ret
            exact ⟨by rw [Rv.out]; rfl, X2.out.bel⟩
        · have Rv : Hid (res = 0) := R.out.trans (firstL_zero (fun j y hy => A.out j y (by have := (List.getElem?_eq_some_iff.1 hy).1; omega) hy))
          have hk1 : ¬ (q : Int) < l.length := by omega
          clear hX A
          go_wp2
          go_ret
          exact ⟨by rw [Rv.out]; rfl, X1.out.bel⟩
    · have R : Hid (res = ownC k r l.length regs) := by
        have := hF.out
        rwa [if_pos hz] at this
      have hz' : (ownC k r l.length regs != 0) = true := by simpa using hz
      generalize ownC k r l.length regs = v at hz' R ⊢
      clear hz hF
      go_wp2_with fail
      go_ret
      exact ⟨by rw [R.out]; rfl, X1.out.bel⟩
end Go.Proofs.Ytmnmnokkojcodab
