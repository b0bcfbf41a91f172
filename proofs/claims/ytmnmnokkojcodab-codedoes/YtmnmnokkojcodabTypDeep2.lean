/-
  DeepOf: how deep types stand in a type, as far as one too many.
-/
import Derived.Test.YtmnmnokkojcodabTypRead
namespace Go.Proofs.Ytmnmnokkojcodab
open Go.ChangeShapes Go.WideShapes Go.ChangeAt Go.RowKit
set_option linter.unusedVariables false

theorem fold_take_succ {α : Type} (f : α → Nat) (l : List α) (i : Nat) (x : α) (h : l[i]? = some x) : ((l.map f).take (i + 1)).foldl max 0 = max (((l.map f).take i).foldl max 0) (f x) := by
  rw [List.take_add_one, List.getElem?_map, h]
  simp

theorem fold_take_le (l : List Nat) (i : Nat) : (l.take i).foldl max 0 ≤ l.foldl max 0 := by
  rw [foldl_max_le]
  exact ⟨Nat.zero_le _, fun x hx => (foldl_max_le.1 (Nat.le_refl (l.foldl max 0))).2 x (List.mem_of_mem_take hx)⟩

set_option maxHeartbeats 4000000 in
set_option maxRecDepth 100000 in
theorem deepOf_any : ∀ (n : Nat) (t : TT n) (a : Option Addr) (c : Nat) (w : World) (m : Nat), TIn w All t a → t.count ≤ 2000 → m ≤ 4 →
    Calls Try.prog 98 #[Tv t a c, .int .i64 m] w fun e w' => e = .returned (.int .i64 ((min t.height (m + 1) : Nat) : Int)) ∧ Below w.heap.size w w' := by
  intro n
  induction n with
  | zero => intro t; exact Empty.elim t
  | succ n ih =>
    intro t a c w m ht hct hm4
    have IH : Hid (∀ (t : TT n) (a : Option Addr) (c : Nat) (w : World) (m : Nat), TIn w All t a → t.count ≤ 2000 → m ≤ 4 →
      Calls Try.prog 98 #[Tv t a c, .int .i64 m] w fun e w' => e = .returned (.int .i64 ((min t.height (m + 1) : Nat) : Int)) ∧ Below w.heap.size w w') := ih
    clear ih
    have hT : Hid (LIn w All t.2.2 a) := ht.list
    have hco : Hid (∀ x ∈ t.2.2, x.count ≤ 2000) := fun x hx => by have := t.count_kid hx; omega
    have hlen : t.2.2.length ≤ 2000 := by have := t.len_lt_count; rw [t.len_eq] at this; omega
    have hh : Hid (t.height = (t.2.2.map (fun x => 1 + x.height)).foldl max 0) := rfl
    generalize t.height = h at hh ⊢
    simp only [Tv, TT.len_eq]
    generalize t.2.2 = l at hT hco hh hlen ⊢
    generalize t.kind = k
    generalize t.r = r
    clear ht hct t
    generalize hres : ((min h (m + 1) : Nat) : Int) = res
    have hR : Hid (((min h (m + 1) : Nat) : Int) = res) := hres
    clear hres
    go_enter Try.func98, Try.ntmps98
    go_wp2_with fail
    have X0 : Hid (Bx w (w.alloc (.cells #[.int .i64 k, .int .i64 r, .slice a l.length c] 90)) k r a l.length c) := Bx.start w k r a l.length c
    generalize w.alloc (.cells #[.int .i64 k, .int .i64 r, .slice a l.length c] 90) = w1 at X0 ⊢
    go_loopw [5, 6] (fun v i wr => ∃ q y : Nat, q ≤ l.length ∧ i = .int .i64 q ∧ v = .int .i64 y ∧ y = min (((l.map (fun x => 1 + x.height)).take q).foldl max 0) (m + 1) ∧ Bx w wr k r a l.length c) (fun _ i _ => l.length - (intOf i).toNat)
    case atStart => exact ⟨0, 0, Nat.zero_le _, rfl, rfl, by simp, X0.out⟩
    case round =>
      clear X0
      obtain ⟨q, y, hq, rfl, rfl, hy, hX⟩ := hrel
      have Y : Hid (y = min (((l.map (fun x => 1 + x.height)).take q).foldl max 0) (m + 1)) := hy
      have X1 : Hid (Bx w wr k r a l.length c) := hX
      have e2 : wr.cell? ⟨w.heap.size, 2, none⟩ = some (.slice a l.length c) := cellOf hX.box 2 _ rfl
      have hyb : (y : Int) ≤ 5 := by omega
      clear hy
      by_cases hlt : q < l.length
      · have hk0 : (0 : Int) ≤ q := by omega
        have hk1 : (q : Int) < l.length := by omega
        have hk2 : (q : Int) < 2000 := by omega
        by_cases hym : y ≤ m
        · have hx : l[q]? = some l[q] := List.getElem?_eq_getElem hlt
          generalize l[q] = x at hx
          obtain ⟨g, o, a', c', rfl, _, d0, d1, d2, hk⟩ := LIn.at (hT.out.below hX.bel) hx
          have hS := fold_take_succ (fun x : TT n => 1 + x.height) l q x hx
          have hym' : (y : Int) ≤ m := by omega
          by_cases hz : m = 0
          · have hz' : ((m : Int) == 0) = true := by simp; omega
            have F : Hid (res = 1) := by
              have h1 := fold_take_le (l.map (fun x => 1 + x.height)) (q + 1)
              have h2 := hh.out
              have h3 := hR.out
              rw [hS] at h1
              show res = 1
              omega
            clear hX hk hx hz hS hym
            go_wp2_with fail
            go_ret
            exact ⟨by rw [F.out]; rfl, X1.out.bel⟩
          · have hz' : ((m : Int) == 0) = false := by simp; omega
            have C : Hid (∀ wx, Below wr.heap.size wr wx → Calls Try.prog 98 #[Tv x a' c', .int .i64 ((m : Int) - 1)] wx fun e w' => e = .returned (.int .i64 ((min x.height m : Nat) : Int)) ∧ Below wx.heap.size wx w') := fun wx hb => by
              have := IH.out x a' c' wx (m - 1) (hk.below hb) (hco.out x (List.mem_of_getElem? hx)) (by omega)
              rw [show ((m - 1 : Nat) : Int) = (m : Int) - 1 by omega, show m - 1 + 1 = m by omega] at this
              exact this
            have hm0 : (1 : Int) ≤ m := by omega
            have hm1 : (m : Int) ≤ 4 := by omega
            generalize hz1 : min x.height m = z at C
            have hz2 : (z : Int) ≤ 4 := by omega
            have Z : Hid (max y (1 + z) = min (((l.map (fun x => 1 + x.height)).take (q + 1)).foldl max 0) (m + 1)) := by
              rw [hS]
              have := Y.out
              show _ = _
              omega
            clear hX hk hx hz hS hz1 Y hym
            simp only [Tv] at C
            generalize x.kind = kx at C d0
            generalize x.r = rx at C d1
            generalize x.len = lx at C d2
            go_wp2_with fail
            refine (C.out _ (Below.refl _ _)).mono ?_
            rintro e w2 ⟨rfl, b2⟩
            have X2 : Hid (Bx w w2 k r (some ⟨g, o, none⟩) l.length c) := X1.out.below b2
            clear X1 b2 C d0 d1 d2 e2
            by_cases hd : (y : Int) < 1 + z
            · go_wp2
              go_roundw
              case rel => exact ⟨q + 1, 1 + z, by omega, by go_num, by go_num, by rw [← Z.out]; omega, X2.out⟩
              case measure => simp [intOf]; omega
            · go_wp2
              go_roundw
              case rel => exact ⟨q + 1, y, by omega, by go_num, rfl, by rw [← Z.out]; omega, X2.out⟩
              case measure => simp [intOf]; omega
        · have F : Hid (res = y) := by
            have h1 := fold_take_le (l.map (fun x => 1 + x.height)) q
            have h2 := hh.out
            have h3 := hR.out
            have := Y.out
            show res = y
            omega
          have hym' : ¬ (y : Int) ≤ m := by omega
          clear hX hym Y
          go_wp2
          go_ret
          exact ⟨by rw [F.out]; rfl, X1.out.bel⟩
      · have F : Hid (res = y) := by
          have h2 := hh.out
          have h3 := hR.out
          have := Y.out
          rw [List.take_of_length_le (by simp; omega)] at this
          show res = y
          omega
        have hk1 : ¬ (q : Int) < l.length := by omega
        clear hX Y
        go_wp2
        go_ret
        exact ⟨by rw [F.out]; rfl, X1.out.bel⟩
end Go.Proofs.Ytmnmnokkojcodab
