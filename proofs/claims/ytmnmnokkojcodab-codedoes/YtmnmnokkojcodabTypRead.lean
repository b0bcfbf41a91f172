/-
  The functions that only read a type: what they answer is what the plain functions on trees say.
-/
import Derived.Test.YtmnmnokkojcodabTypMem
import Derived.Deep.QuietTactic
import Derived.Deep.DeepCutAuto
import Derived.Deep.CutBlock
namespace Go.Proofs.Ytmnmnokkojcodab
open Go.ChangeShapes Go.WideShapes Go.ChangeAt Go.RowKit
set_option linter.unusedVariables false

theorem undrewN_below {B m : Nat} {w w' : World} (h : Below B (w.drewN m) w') : Below B w w' := ⟨h.os, h.tape, h.output, h.size, h.block⟩
theorem drewN_below {B m : Nat} {w w' : World} (h : Below B w w') : Below B w (w'.drewN m) := ⟨h.os, h.tape, h.output, h.size, h.block⟩
/-- What a call leaves that has taken boxes alone. -/
theorem box_cells {w wr : World} {B : Nat} {c : Array Value} {ty : TypeId} (h : wr.heap[B]? = some (.cells c ty (0, 0))) (b : Below wr.heap.size wr w) : w.heap[B]? = some (.cells c ty (0, 0)) :=
  (b.block B (lt_of_block h)).trans h

/-- The one box of a type that came in, and nothing old has turned. -/
structure Bx (w wr : World) (k r : Int) (a : Option Addr) (len c : Nat) : Prop where
  bel : Below w.heap.size w wr
  box : wr.heap[w.heap.size]? = some (.cells #[.int .i64 k, .int .i64 r, .slice a len c] 90 (0, 0))
theorem Bx.start (w : World) (k r : Int) (a : Option Addr) (len c : Nat) : Bx w (w.alloc (.cells #[.int .i64 k, .int .i64 r, .slice a len c] 90)) k r a len c :=
  ⟨(Below.refl _ w).alloc (Nat.le_refl _) _, blockNew w _ _⟩
theorem Bx.lt {w wr : World} {k r : Int} {a : Option Addr} {len c : Nat} (h : Bx w wr k r a len c) : w.heap.size < wr.heap.size := lt_of_block h.box
theorem Bx.below {w wr w' : World} {k r : Int} {a : Option Addr} {len c : Nat} (h : Bx w wr k r a len c) (b : Below wr.heap.size wr w') : Bx w w' k r a len c :=
  ⟨h.bel.trans (b.mono h.bel.size), box_cells h.box b⟩
theorem Bx.alloc {w wr : World} {k r : Int} {a : Option Addr} {len c : Nat} (h : Bx w wr k r a len c) (o : Obj) : Bx w (wr.alloc o) k r a len c :=
  h.below ((Below.refl _ wr).alloc (Nat.le_refl _) _)
theorem Bx.drewN {w wr : World} {k r : Int} {a : Option Addr} {len c : Nat} (h : Bx w wr k r a len c) (m : Nat) : Bx w (wr.drewN m) k r a len c := ⟨⟨h.bel.os, h.bel.tape, h.bel.output, h.bel.size, h.bel.block⟩, h.box⟩
theorem Bx.drew {w wr : World} {k r : Int} {a : Option Addr} {len c : Nat} (h : Bx w wr k r a len c) : Bx w wr.drew k r a len c := h.drewN 1

theorem sum_take_succ {α : Type} (f : α → Nat) (l : List α) (i : Nat) (x : α) (h : l[i]? = some x) : ((l.map f).take (i + 1)).sum = ((l.map f).take i).sum + f x := by
  rw [List.take_add_one, List.getElem?_map, h]
  simp

set_option maxHeartbeats 2000000 in
set_option maxRecDepth 100000 in
/-- typeSize: what is left of so many. -/
theorem size_any : ∀ (n : Nat) (t : TT n) (a : Option Addr) (c : Nat) (w : World) (left : Int), TIn w All t a → 0 ≤ left → left ≤ 2000 →
    Calls Try.prog 92 #[Tv t a c, .int .i64 left] w fun e w' => e = .returned (.int .i64 (max (-1) (left - t.count))) ∧ Below w.heap.size w w' := by
  intro n
  induction n with
  | zero => intro t; exact Empty.elim t
  | succ n ih =>
    intro t a c w left ht h0 h1
    have IH : Hid (∀ (t : TT n) (a : Option Addr) (c : Nat) (w : World) (left : Int), TIn w All t a → 0 ≤ left → left ≤ 2000 →
      Calls Try.prog 92 #[Tv t a c, .int .i64 left] w fun e w' => e = .returned (.int .i64 (max (-1) (left - t.count))) ∧ Below w.heap.size w w') := ih
    clear ih
    have hT : Hid (LIn w All t.2.2 a) := ht.list
    have hc : t.count = 1 + (t.2.2.map TT.count).sum := rfl
    rw [hc]
    clear hc
    simp only [Tv, TT.len_eq]
    generalize t.2.2 = l at hT ⊢
    generalize t.kind = k
    generalize t.r = r
    clear ht t
    go_enter Try.func92, Try.ntmps92
    go_wp2_with fail
    have X0 : Hid (Bx w (w.alloc (.cells #[.int .i64 k, .int .i64 r, .slice a l.length c] 90)) k r a l.length c) := Bx.start w k r a l.length c
    generalize w.alloc (.cells #[.int .i64 k, .int .i64 r, .slice a l.length c] 90) = w1 at X0 ⊢
    go_loopw [1, 5] (fun lf i wr => ∃ q : Nat, q ≤ l.length ∧ i = .int .i64 q ∧ lf = .int .i64 (max (-1) (left - 1 - (((l.map TT.count).take q).sum : Nat))) ∧ Bx w wr k r a l.length c) (fun _ i _ => l.length - (intOf i).toNat)
    case atStart => exact ⟨0, Nat.zero_le _, rfl, by simp; omega, X0.out⟩
    case round =>
      clear X0
      obtain ⟨q, hq, rfl, rfl, hX⟩ := hrel
      generalize hs : (((l.map TT.count).take q).sum : Nat) = s
      have e2 : wr.cell? ⟨w.heap.size, 2, none⟩ = some (.slice a l.length c) := cellOf hX.box 2 _ rfl
      have X1 : Hid (Bx w wr k r a l.length c) := hX
      by_cases hlt : q < l.length
      · by_cases hge : 0 ≤ max (-1) (left - 1 - (s : Int))
        · have hx : l[q]? = some l[q] := List.getElem?_eq_getElem hlt
          generalize l[q] = x at hx
          obtain ⟨g, o, a', c', rfl, _, d0, d1, d2, hk⟩ := LIn.at (hT.out.below hX.bel) hx
          have H : Hid (TIn wr All x a') := hk
          have hS := sum_take_succ TT.count l q x hx
          rw [hs] at hS
          have HS : Hid (((l.map TT.count).take (q + 1)).sum = s + x.count) := hS
          have S : Hid (max (-1) (left - 1 - (s : Int)) ≤ 2000) := by show _ ≤ _; omega
          clear hX hk hx hS
          generalize hm : max (-1) (left - 1 - (s : Int)) = m at hge S
          have M : Hid (max (-1) (left - 1 - (s : Int)) = m) := hm
          clear hm
          have hk0 : (0 : Int) ≤ q := by omega
          have hk1 : (q : Int) < l.length := by omega
          have hk2 : (q : Int) < 2000 := by
            have h3 := length_le_sum ((l.map TT.count).take q) (fun y hy => by obtain ⟨z, _, rfl⟩ := List.mem_map.1 (List.mem_of_mem_take hy); exact z.count_pos)
            have h4 := M.out
            rw [List.length_take, List.length_map] at h3
            omega
          clear hs
          go_wp2_with fail
          refine (IH.out x a' c' _ m H.out hge S.out).mono ?_
          rintro e w2 ⟨rfl, b2⟩
          have X2 : Hid (Bx w w2 k r (some ⟨g, o, none⟩) l.length c) := X1.out.below b2
          clear X1
          go_wp2
          go_roundw
          case rel => exact ⟨q + 1, by omega, by go_num, by rw [HS.out]; have := M.out; have := x.count_pos; congr 1; omega, X2.out⟩
          case measure => simp [intOf]; omega
        · have F : Hid (max (-1) (left - 1 - (s : Int)) = max (-1) (left - ((1 + (l.map TT.count).sum : Nat) : Int))) := by
            have := sum_take_le (l.map TT.count) q
            show _ = _
            omega
          have hge' : max (-1) (left - 1 - (s : Int)) < 0 := by omega
          generalize max (-1) (left - 1 - (s : Int)) = m at F hge' ⊢
          clear hge hs
          have hk1 : (q : Int) < l.length := by omega
          go_wp2
          go_ret
          exact ⟨by show Ending.returned (.int .i64 m) = _; have := F.out; congr 2, X1.out.bel⟩
      · have F : Hid (max (-1) (left - 1 - (s : Int)) = max (-1) (left - ((1 + (l.map TT.count).sum : Nat) : Int))) := by
          rw [List.take_of_length_le (by simp; omega)] at hs
          show _ = _
          omega
        generalize max (-1) (left - 1 - (s : Int)) = m at F ⊢
        clear hs
        have hk1 : ¬ (q : Int) < l.length := by omega
        go_wp2
        go_ret
        exact ⟨by show Ending.returned (.int .i64 m) = _; have := F.out; congr 2, X1.out.bel⟩

/-- GreatType: more than 2000? -/
theorem great_any (n : Nat) (t : TT n) (a : Option Addr) (c : Nat) (w : World) (ht : TIn w All t a) :
    Calls Try.prog 67 #[Tv t a c] w fun e w' => e = .returned (.bool (decide (2000 < t.count))) ∧ Below w.heap.size w w' := by
  have C : Hid (∀ wx, Below w.heap.size w wx → Calls Try.prog 92 #[Tv t a c, .int .i64 2000] wx fun e w' => e = .returned (.int .i64 (max (-1) (2000 - (t.count : Int)))) ∧ Below wx.heap.size wx w') :=
    fun wx hb => size_any n t a c wx 2000 (ht.below hb) (by omega) (by omega)
  clear ht
  simp only [Tv] at C ⊢
  generalize t.kind = k at C ⊢
  generalize t.r = r at C ⊢
  generalize t.len = len at C ⊢
  generalize t.count = q at C ⊢
  go_enter Try.func67, Try.ntmps67
  go_wp2_with fail
  refine (C.out _ ((Below.refl _ w).alloc (Nat.le_refl _) _)).mono ?_
  rintro e w2 ⟨rfl, b2⟩
  have B : Hid (Below w.heap.size w w2) := ((Below.refl _ w).alloc (Nat.le_refl _) _).trans (b2.mono (by simp))
  have F : Hid (max (-1) (2000 - (q : Int)) < 0 ↔ 2000 < q) := by show _ ↔ _; omega
  generalize max (-1) (2000 - (q : Int)) = m at F ⊢
  clear b2 C
  go_wp2
  go_ret
  exact ⟨by show Ending.returned (.bool (decide (m < 0))) = _; rw [decide_eq_decide.2 F.out], B.out⟩

/-- What both say of the codes of a type. -/
def FaultAt (f : Nat) (n : Nat) : Prop := ∀ (t : TT n) (a : Option Addr) (c : Nat) (regs : Int) (w : World), TIn w All t a → t.count ≤ 2000 →
    Calls Try.prog f #[Tv t a c, .int .i64 regs] w fun e w' => e = .returned (.int .i64 (t.fault regs)) ∧ Below w.heap.size w w'
end Go.Proofs.Ytmnmnokkojcodab
