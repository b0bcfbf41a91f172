/-
  isDeeper and DeepOf: how deep types stand in a type.
-/
import Derived.Test.YtmnmnokkojcodabTypRead
namespace Go.Proofs.Ytmnmnokkojcodab
open Go.ChangeShapes Go.WideShapes Go.ChangeAt Go.RowKit
set_option linter.unusedVariables false

/-- Deeper than so much, as the lists tell it. -/
theorem lt_height {n : Nat} {l : List (TT n)} {k r : Int} {m : Nat} : m < TT.height (n := n + 1) (mkT k r l) ↔ ∃ (i : Nat) (x : TT n), l[i]? = some x ∧ m < 1 + x.height := by
  rw [← Nat.not_le, height_le]
  constructor
  · intro h
    simp only [Classical.not_forall] at h
    obtain ⟨x, hx, h2⟩ := h
    obtain ⟨i, hi, rfl⟩ := List.mem_iff_getElem.1 hx
    exact ⟨i, _, List.getElem?_eq_getElem hi, by omega⟩
  · rintro ⟨i, x, hx, h2⟩ h
    have := h x (List.mem_of_getElem? (l := l) hx)
    omega

set_option maxHeartbeats 4000000 in
set_option maxRecDepth 100000 in
/-- isDeeper. -/
theorem deeper_any : ∀ (n : Nat) (t : TT n) (a : Option Addr) (c : Nat) (w : World) (m : Nat), TIn w All t a → t.count ≤ 2000 → m ≤ 4 →
    Calls Try.prog 115 #[Tv t a c, .int .i64 m] w fun e w' => e = .returned (.bool (decide (m < t.height))) ∧ Below w.heap.size w w' := by
  intro n
  induction n with
  | zero => intro t; exact Empty.elim t
  | succ n ih =>
    intro t a c w m ht hct hm4
    have IH : Hid (∀ (t : TT n) (a : Option Addr) (c : Nat) (w : World) (m : Nat), TIn w All t a → t.count ≤ 2000 → m ≤ 4 →
      Calls Try.prog 115 #[Tv t a c, .int .i64 m] w fun e w' => e = .returned (.bool (decide (m < t.height))) ∧ Below w.heap.size w w') := ih
    clear ih
    have hT : Hid (LIn w All t.2.2 a) := ht.list
    have hco : Hid (∀ x ∈ t.2.2, x.count ≤ 2000) := fun x hx => by have := t.count_kid hx; omega
    have hlen : t.2.2.length ≤ 2000 := by have := t.len_lt_count; rw [t.len_eq] at this; omega
    have hh : Hid (m < t.height ↔ ∃ (i : Nat) (x : TT n), t.2.2[i]? = some x ∧ m < 1 + x.height) := lt_height
    generalize t.height = h at hh ⊢
    simp only [Tv, TT.len_eq]
    generalize t.2.2 = l at hT hco hh hlen ⊢
    generalize t.kind = k
    generalize t.r = r
    clear ht hct t
    go_enter Try.func115, Try.ntmps115
    go_wp2_with fail
    have X0 : Hid (Bx w (w.alloc (.cells #[.int .i64 k, .int .i64 r, .slice a l.length c] 90)) k r a l.length c) := Bx.start w k r a l.length c
    generalize w.alloc (.cells #[.int .i64 k, .int .i64 r, .slice a l.length c] 90) = w1 at X0 ⊢
    go_loopw [10] (fun i wr => ∃ q : Nat, q ≤ l.length ∧ i = .int .i64 q ∧ (∀ (j : Nat) x, j < q → l[j]? = some x → 1 + x.height ≤ m) ∧ Bx w wr k r a l.length c) (fun i _ => l.length - (intOf i).toNat)
    case atStart => exact ⟨0, Nat.zero_le _, rfl, fun j x hj => by omega, X0.out⟩
    case round =>
      clear X0
      obtain ⟨q, hq, rfl, hall, hX⟩ := hrel
      have A : Hid (∀ (j : Nat) x, j < q → l[j]? = some x → 1 + x.height ≤ m) := hall
      have X1 : Hid (Bx w wr k r a l.length c) := hX
      clear hall
      by_cases hlt : q < l.length
      · have hx : l[q]? = some l[q] := List.getElem?_eq_getElem hlt
        generalize l[q] = x at hx
        obtain ⟨g, o, a', c', rfl, _, d0, d1, d2, hk⟩ := LIn.at (hT.out.below hX.bel) hx
        have hg : g < wr.heap.size := World.block_lt_of_cell? wr ⟨g, o + q * 3, none⟩ d0
        have hx' : Hid (l[q]? = some x) := hx
        have hk0 : (0 : Int) ≤ q := by omega
        have hk1 : (q : Int) < l.length := by omega
        have hk2 : (q : Int) < 2000 := by omega
        by_cases hz : m = 0
        · have hD : Hid (m < h) := hh.out.2 ⟨q, x, hx, by omega⟩
          have hz' : ((m : Int) == 0) = true := by simp; omega
          clear hX hk hx hz
          go_wp2_with fail
          go_ret
          exact ⟨by rw [decide_eq_true hD.out]; rfl, (X1.out.alloc _).bel⟩
        · have hz' : ((m : Int) == 0) = false := by simp; omega
          have C : Hid (∀ wx, Below wr.heap.size wr wx → Calls Try.prog 115 #[Tv x a' c', .int .i64 ((m : Int) - 1)] wx fun e w' => e = .returned (.bool (decide (m - 1 < x.height))) ∧ Below wx.heap.size wx w') := fun wx hb => by
            have := IH.out x a' c' wx (m - 1) (hk.below hb) (hco.out x (List.mem_of_getElem? hx)) (by omega)
            rw [show ((m - 1 : Nat) : Int) = (m : Int) - 1 by omega] at this
            exact this
          have hm0 : (1 : Int) ≤ m := by omega
          have hm1 : (m : Int) ≤ 4 := by omega
          have hm5 : Hid (1 ≤ m) := by show 1 ≤ m; omega
          clear hX hk hx hz
          simp only [Tv] at C
          generalize x.kind = kx at C d0
          generalize x.r = rx at C d1
          generalize x.len = lx at C d2
          go_wp2_with fail
          have B1 : Below wr.heap.size wr (wr.alloc (.cells #[.int .i64 kx, .int .i64 rx, .slice a' lx c'] 90)) := (Below.refl _ wr).alloc (Nat.le_refl _) _
          refine (C.out _ B1).mono ?_
          rintro e w2 ⟨rfl, b2⟩
          have X2 : Hid (Bx w w2 k r (some ⟨g, o, none⟩) l.length c) := (X1.out.below B1).below b2
          clear X1 b2 B1 C d0 d1 d2
          by_cases hd : m - 1 < x.height
          · have hD : Hid (m < h) := hh.out.2 ⟨q, x, hx'.out, by have := hm5.out; omega⟩
            rw [decide_eq_true hd]
            clear hd
            go_wp2
            go_ret
            exact ⟨by rw [decide_eq_true hD.out]; rfl, X2.out.bel⟩
          · have A2 : Hid (∀ (j : Nat) x, j < q + 1 → l[j]? = some x → 1 + x.height ≤ m) := fun j y hj hy => by
              by_cases e : j = q
              · subst e
                rw [hx'.out] at hy
                cases hy
                have := hm5.out
                omega
              · exact A.out j y (by omega) hy
            rw [decide_eq_false hd]
            clear hd A
            go_wp2
            go_roundw
            case rel => exact ⟨q + 1, by omega, by go_num, A2.out, X2.out⟩
            case measure => simp [intOf]; omega
      · have hD : Hid (¬ m < h) := fun hc => by
          obtain ⟨i, x, hx, h3⟩ := hh.out.1 hc
          have := A.out i x (by have := (List.getElem?_eq_some_iff.1 hx).1; omega) hx
          omega
        have hk1 : ¬ (q : Int) < l.length := by omega
        clear hX A
        go_wp2
        go_ret
        exact ⟨by rw [decide_eq_false hD.out]; rfl, X1.out.bel⟩
end Go.Proofs.Ytmnmnokkojcodab
