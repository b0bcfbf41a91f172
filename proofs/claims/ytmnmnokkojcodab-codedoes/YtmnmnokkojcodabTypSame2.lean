/-
  types.Same answers whether the two trees are one.
-/
import Derived.Test.YtmnmnokkojcodabTypSame
namespace Go.Proofs.Ytmnmnokkojcodab
open Go.ChangeShapes Go.WideShapes Go.ChangeAt Go.RowKit
set_option linter.unusedVariables false

/-- The function's value that is handed on. -/
abbrev FV : Value := .func (.func 83) #[] #[]

set_option maxHeartbeats 4000000 in
set_option maxRecDepth 100000 in
theorem eqf_any (n : Nat) (IH0 : SameAt 83 n) (l m : List (TT n)) (a b : Option Addr) (c d : Nat) (w : World) (hl0 : LIn w All l a) (hm0 : LIn w All m b) (hlen : l.length ≤ 2000) (hco0 : ∀ x ∈ l, x.count ≤ 2000) :
    Calls Try.prog 82 #[.slice a l.length c, .slice b m.length d, FV] w fun e w' => SaysEq e (l = m) ∧ Below w.heap.size w w' := by
  have IH : Hid (SameAt 83 n) := IH0
  have hl : Hid (LIn w All l a) := hl0
  have hm : Hid (LIn w All m b) := hm0
  have hco : Hid (∀ x ∈ l, x.count ≤ 2000) := hco0
  clear IH0 hl0 hm0 hco0
  by_cases hne : l.length = m.length
  · have hne' : ((l.length : Int) != (m.length : Int)) = false := by simp; omega
    have E : Hid (l.length = m.length) := hne
    clear hne
    go_enter Try.func82, Try.ntmps82
    go_wp2_with fail
    go_loopw [17] (fun i wr => ∃ q : Nat, q ≤ l.length ∧ i = .int .i64 q ∧ (∀ j, j < q → l[j]? = m[j]?) ∧ Below w.heap.size w wr) (fun i _ => l.length - (intOf i).toNat)
    case atStart => exact ⟨0, Nat.zero_le _, rfl, fun j hj => by omega, Below.refl _ _⟩
    case round =>
      obtain ⟨q, hq, rfl, hall, hb⟩ := hrel
      have A : Hid (∀ j, j < q → l[j]? = m[j]?) := hall
      have B : Hid (Below w.heap.size w wr) := hb
      clear hall hb
      by_cases hlt : q < l.length
      · have hx : l[q]? = some l[q] := List.getElem?_eq_getElem hlt
        have hlm : q < m.length := by have := E.out; omega
        have hy : m[q]? = some m[q] := List.getElem?_eq_getElem hlm
        generalize l[q] = x at hx
        generalize m[q] = y at hy
        obtain ⟨g, o, a', c', rfl, _, d0, d1, d2, hk⟩ := LIn.at (hl.out.below B.out) hx
        obtain ⟨g', o', b', d', rfl, _, d3, d4, d5, hk'⟩ := LIn.at (hm.out.below B.out) hy
        have C : Hid (∀ wx, Below wr.heap.size wr wx → Calls Try.prog 83 #[Tv x a' c', Tv y b' d'] wx fun e w' => SaysEq e (x = y) ∧ Below wx.heap.size wx w') :=
          fun wx hb => IH.out x y a' b' c' d' _ (hk.below hb) (hk'.below hb) (hco.out x (List.mem_of_getElem? hx))
        have hx' : Hid (l[q]? = some x) := hx
        have hy' : Hid (m[q]? = some y) := hy
        have hg : g < wr.heap.size := World.block_lt_of_cell? wr ⟨g, o + q * 3, none⟩ d0
        have hg' : g' < wr.heap.size := World.block_lt_of_cell? wr ⟨g', o' + q * 3, none⟩ d3
        clear hk hk' hx hy
        simp only [Tv] at C
        generalize x.kind = kx at C d0
        generalize x.r = rx at C d1
        generalize x.len = lx at C d2
        generalize y.kind = ky at C d3
        generalize y.r = ry at C d4
        generalize y.len = ly at C d5
        have hk0 : (0 : Int) ≤ q := by omega
        have hk1 : (q : Int) < l.length := by omega
        have hk3 : (q : Int) < m.length := by omega
        have hk2 : (q : Int) < 2000 := by omega
        go_wp2_with fail
        have B1 : Below wr.heap.size wr ((wr.alloc (.cells #[.int .i64 kx, .int .i64 rx, .slice a' lx c'] 90)).alloc (.cells #[.int .i64 ky, .int .i64 ry, .slice b' ly d'] 90)) := ((Below.refl _ wr).alloc (Nat.le_refl _) _).alloc (by simp) _
        refine (C.out _ B1).mono ?_
        rintro r w5 ⟨⟨p, rfl, hp⟩, b5⟩
        have HB : Hid (Below w.heap.size w w5) := (B.out.trans (B1.mono B.out.size)).trans (b5.mono (Nat.le_trans B.out.size B1.size))
        clear C b5 B d0 d1 d2 d3 d4 d5 B1
        cases p with
        | true =>
          have hxy : x = y := hp.1 rfl
          have A2 : Hid (∀ j, j < q + 1 → l[j]? = m[j]?) := fun j hj => by
            by_cases e : j = q
            · subst e; rw [hx'.out, hy'.out, hxy]
            · exact A.out j (by omega)
          clear hp hxy hx' hy' A
          go_wp2
          go_roundw
          case rel => exact ⟨q + 1, by omega, by go_num, A2.out, HB.out⟩
          case measure => simp [intOf]; omega
        | false =>
          have hxy : Hid (¬ l = m) := fun h => by
            have h1 := hx'.out
            rw [h, hy'.out] at h1
            have := hp.2 (Option.some.inj h1).symm
            cases this
          clear hp hx' hy' A
          go_wp2
          go_ret
          exact ⟨SaysEq.no hxy.out, HB.out⟩
      · have R : Hid (l = m) := by
          have := E.out
          refine List.ext_getElem? (fun i => ?_)
          by_cases hi : i < q
          · exact A.out i hi
          · rw [List.getElem?_eq_none (by omega), List.getElem?_eq_none (by omega)]
        have hk1 : ¬ (q : Int) < l.length := by omega
        clear A
        go_wp2
        go_ret
        exact ⟨SaysEq.yes R.out, B.out⟩
  · have hne' : ((l.length : Int) != (m.length : Int)) = true := by simp; omega
    have E : Hid (l.length ≠ m.length) := hne
    clear hne
    go_enter Try.func82, Try.ntmps82
    go_wp2
    go_ret
    exact ⟨SaysEq.no (fun h => E.out (by rw [h])), Below.refl _ _⟩
set_option maxHeartbeats 4000000 in
set_option maxRecDepth 100000 in
/-- Same: are they one? -/
theorem same_any : ∀ n, SameAt 83 n := by
  intro n
  induction n with
  | zero => intro t; exact Empty.elim t
  | succ n ih =>
    intro t u a b c d w ht hu hc
    have hco : ∀ x ∈ t.2.2, x.count ≤ 2000 := fun x hx => by have := t.count_kid hx; omega
    have hlen : t.2.2.length ≤ 2000 := by have := t.len_lt_count; rw [t.len_eq] at this; omega
    have C : Hid (∀ wx, Below w.heap.size w wx → Calls Try.prog 82 #[.slice a t.2.2.length c, .slice b u.2.2.length d, FV] wx fun e w' => SaysEq e (t.2.2 = u.2.2) ∧ Below wx.heap.size wx w') :=
      fun wx hb => eqf_any n ih t.2.2 u.2.2 a b c d wx (ht.below hb) (hu.below hb) hlen hco
    rw [TT.eq_iff]
    simp only [Tv, TT.len_eq] at C ⊢
    generalize t.2.2.length = p at C ⊢
    generalize u.2.2.length = q at C ⊢
    generalize (t.2.2 = u.2.2) = E at C ⊢
    generalize t.kind = k
    generalize t.r = r
    generalize u.kind = k'
    generalize u.r = r'
    clear hco hlen hc ht hu ih t u
    by_cases hk : k = k'
    · subst hk
      by_cases hr : r = r'
      · subst hr
        go_enter Try.func83, Try.ntmps83
        go_wp2_with fail
        have B1 : Below w.heap.size w ((w.alloc (.cells #[.int .i64 k, .int .i64 r, .slice a p c] 90)).alloc (.cells #[.int .i64 k, .int .i64 r, .slice b q d] 90)) := ((Below.refl _ w).alloc (Nat.le_refl _) _).alloc (by simp) _
        refine (C.out _ B1).mono ?_
        rintro e w2 ⟨⟨v, rfl, hv⟩, b2⟩
        have B : Hid (Below w.heap.size w w2) := B1.trans (b2.mono B1.size)
        have V : Hid (v = true ↔ E) := hv
        clear b2 C hv B1
        cases v
        all_goals
          go_wp2
          go_ret
        · exact ⟨SaysEq.no (fun h => by have := V.out.2 h.2.2; cases this), B.out⟩
        · exact ⟨SaysEq.yes (by have := V.out; simpa using this), B.out⟩
      · have hr' : (r == r') = false := by simpa using hr
        have R : Hid (¬ r = r') := hr
        clear hr
        go_enter Try.func83, Try.ntmps83
        go_wp2_with fail
        go_ret
        exact ⟨SaysEq.no (fun h => R.out h.2.1), ((Below.refl _ w).alloc (Nat.le_refl _) _).alloc (by simp) _⟩
    · have hk' : (k == k') = false := by simpa using hk
      have R : Hid (¬ k = k') := hk
      clear hk
      go_enter Try.func83, Try.ntmps83
      go_wp2_with fail
      go_ret
      exact ⟨SaysEq.no (fun h => R.out h.1), ((Below.refl _ w).alloc (Nat.le_refl _) _).alloc (by simp) _⟩
end Go.Proofs.Ytmnmnokkojcodab
