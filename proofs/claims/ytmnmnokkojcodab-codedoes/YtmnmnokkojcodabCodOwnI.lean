/-
  ownInts, of both sides: a list of numbers in new memory.
-/
import Derived.Test.YtmnmnokkojcodabCodMem
import Derived.Laws.CopyOwn
import Derived.Deep.Upon
namespace Go.Proofs.Ytmnmnokkojcodab
open Go.ChangeShapes Go.WideShapes Go.ChangeAt Go.RowKit
set_option linter.unusedVariables false

/-- A list in new memory; nothing old has turned. -/
def LyOut {α : Type} (A : Lay α) (w w' : World) (l : List α) (e : Ending) : Prop := ∃ a' c', e = .returned (.slice a' l.length c') ∧ A.list.In w' (From w.heap.size) l [.slice a' l.length c'] ∧ Below w.heap.size w w'
def iv (l : List Int) : List Value := l.map (fun x => Value.int .i64 x)
theorem ints_row {w : World} {lo : Nat} {e : TypeId} {v : Value} {l : List Int} (h : w.ownsRow lo e 1 v l.length (iv l)) (hb : ∀ x ∈ l, I64 x) : intsL.In w (From lo) l [v] :=
  ARow.lay (A := Lay.int) (e := e) (xs := iv l) ⟨h, fun i x hx => by
    have hs : Lay.int.size = 1 := rfl
    rw [hs, Nat.mul_one]
    have e1 : ((iv l).drop i).take 1 = [.int .i64 x] := by
      obtain ⟨hi, e⟩ := List.getElem?_eq_some_iff.1 hx
      unfold iv
      rw [← List.map_drop, List.drop_eq_getElem_cons hi]
      simp [e]
    rw [e1]
    exact ⟨rfl, hb x (List.mem_of_getElem? hx)⟩⟩
theorem ints_bnd {w : World} {O : Nat → Prop} {l : List Int} {a : Option Addr} {m c : Nat} (h : intsL.In w O l [.slice a m c]) : ∀ x ∈ l, I64 x := by
  intro x hx
  obtain ⟨i, hi⟩ := List.mem_iff_getElem?.1 hx
  obtain ⟨g, o, ds, _, _, _, _, h2⟩ := Lay.list_at h hi
  exact h2.2
theorem ints_src {w : World} {O : Nat → Prop} {l : List Int} {a : Option Addr} {m c : Nat} (h : intsL.In w O l [.slice a m c]) (h0 : 0 < l.length) :
    ∃ ad, a = some ad ∧ ad.block < w.heap.size ∧ ∀ j v, (iv l)[j]? = some v → w.cell? (ad.add j) = some v := by
  obtain ⟨g, o, e, _, hlt, _⟩ := ints_at h h0
  refine ⟨⟨g, o, none⟩, e, hlt, fun j v hj => ?_⟩
  have hjl : j < l.length := by have := (List.getElem?_eq_some_iff.1 hj).1; simpa [iv] using this
  obtain ⟨g2, o2, e2, _, _, h2⟩ := ints_at h hjl
  rw [e] at e2
  cases e2
  rw [show (⟨g, o, none⟩ : Addr).add j = ⟨g, o + j, none⟩ from by unfold Addr.add; split <;> simp_all, h2, ← hj]
  simp [iv, List.getD, hjl]
theorem iv_len (l : List Int) : (iv l).length = l.length := by simp [iv]
theorem iv_one (l : List Int) : ∀ v ∈ iv l, v.oneCell' = true := by
  intro v hv
  obtain ⟨x, _, rfl⟩ := List.mem_map.1 hv
  rfl
theorem underIs : Try.prog.underlying 44 = some (.slice 3) := by kernel_rfl
theorem infoI : (Try.prog.info? 3).map (fun i => (i.zero, i.size, i.bytes)) = some (some (.int .i64 0), 1, 8) := by kernel_rfl
theorem infoI1 : (Try.prog.info? 3).map (·.size) = some 1 := by kernel_rfl
theorem infoI_parts : ∃ i, Try.prog.info? 3 = some i ∧ i.zero = some (.int .i64 0) ∧ i.size = 1 ∧ i.bytes = 8 := by
  obtain ⟨i, hi, e⟩ := Option.map_eq_some_iff.1 infoI
  simp only [Prod.mk.injEq] at e
  exact ⟨i, hi, e⟩

set_option maxHeartbeats 4000000 in
set_option maxRecDepth 100000 in
theorem cOwnInts_any (l : List Int) (p : Option Addr) (c : Nat) (w : World) (hl0 : intsL.In w All l [.slice p l.length c]) (hb0 : l.length ≤ 4294967296) :
    Calls Try.prog 111 #[.slice p l.length c] w fun e w' => LyOut Lay.int w w' l e := by
  have hl : Hid _ := hl0
  have hx : Hid _ := ints_bnd hl0
  clear hl0
  have hmk := fun wx => run_make_row' (P := Try.prog) 44 3 (.int .i64 0) 8 underIs infoI rfl .i64 .i64 l.length (by omega) (by omega) wx
  have hnew : (w.alloc (.cells (madeCells #[.int .i64 0] l.length) 3)).heap[w.heap.size]? = some (.cells (madeCells #[.int .i64 0] l.length).toList.toArray 3 (0, 0)) := by
    rw [Array.toArray_toList]; exact blockNew w _ _
  have hmin : (iv l).length = Nat.min l.length l.length := by rw [iv_len]; exact (Nat.min_self _).symm
  have hpos : Hid (0 < (iv l).length → (some ⟨w.heap.size, 0, none⟩ : Option Addr) = some ⟨w.heap.size, 0, none⟩ ∧ ∃ ad, p = some ad ∧ ∀ j v, (iv l)[j]? = some v → (w.alloc (.cells (madeCells #[.int .i64 0] l.length) 3)).cell? (ad.add j) = some v) := by
    intro h0
    rw [iv_len] at h0
    obtain ⟨ad, e, hlt, h2⟩ := ints_src hl.out h0
    exact ⟨rfl, ad, e, fun j v hj => (World.cell?_of_block (w := w) (a := ad.add j) (Below.heap_alloc _ _ _ (by unfold Addr.add; split <;> exact hlt))).trans (h2 j v hj)⟩
  have hfit : 0 + (iv l).length ≤ (madeCells #[.int .i64 0] l.length).toList.length := by rw [iv_len, toList_madeCells_one]; simp
  have hbe : Hid (Below w.heap.size w (w.alloc (.cells (madeCells #[.int .i64 0] l.length) 3))) := (Below.refl _ w).alloc (Nat.le_refl _) _
  go_enter Try.func111, Try.ntmps111
  go_wp2_with (refine wpList_copy_splice rfl (.tmp 7) (.tmp 8) 44 44 rfl 3 underIs infoI1 _ _ l.length l.length l.length c rfl rfl w.heap.size 0 (madeCells #[.int .i64 0] l.length).toList 3 hnew (iv l) hmin hpos.out hfit (iv_one l) w.heap.size w hbe.out (Nat.le_refl _) ?_)
  · intro w' hg hbel
    clear hpos hfit hbe hnew hmin
    have R : Hid (LyOut Lay.int w w' l (.returned (.slice (some ⟨w.heap.size, 0, none⟩) l.length l.length))) := by
      have e1 : splice (madeCells #[.int .i64 0] l.length).toList 0 (iv l) = iv l := by
        rw [toList_madeCells_one]; simp [splice, iv_len]
      rw [e1] at hg
      refine ⟨_, _, rfl, ints_row ⟨by rw [iv_len, Nat.mul_one], Or.inr ⟨w.heap.size, l.length, (iv l).toArray, rfl, Nat.le_refl _, hg.out, Nat.le_refl _, by unfold maxLen; omega, by simp [iv_len], ?_⟩⟩ hx.out, hbel⟩
      rw [Nat.mul_one, ← iv_len l]; simp
    clear hg hbel hmk
    go_wp2
    go_ret
    exact R.out

theorem wpList_append_no {P : Program} {w : World} {ops : Array Oper} {rest : List Oper} {o : Oper} {a : Act} {Q : Exit → Act → World → Prop} (hgd : o.guard = none) (s x : Operand) (t : TypeId)
    (ho : o.op = .call { callee := .builtin .append, args := #[s, x], argTypes := #[t, t] }) (v vx : Value) (hs : a.eval s = v) (hx : a.eval x = vx) (hrun : (Builtin.append_ #[t, t] o.type #[v, vx]).run P w = .ok v w)
    (h : wpList P ops Q rest (a.put o.dst v) w) : wpList P ops Q (o :: rest) a w := by
  refine wpList_plain hgd fun K hK => ?_
  unfold Oper.wp
  simp [execOp, ho, resolve, invoke, builtin, hs, hx, hrun, Result.andThen]
  exact hK _ _ h

set_option maxHeartbeats 4000000 in
set_option maxRecDepth 100000 in
theorem rOwnInts_any (l : List Int) (p : Option Addr) (c : Nat) (w : World) (hl0 : intsL.In w All l [.slice p l.length c]) (hb0 : l.length ≤ 4294967296) :
    Calls Try.prog 43 #[.slice p l.length c] w fun e w' => LyOut Lay.int w w' l e := by
  obtain ⟨i0, hi, hz0, hz1, hz2⟩ := infoI_parts
  by_cases h0 : 0 < l.length
  · obtain ⟨ad, rfl, hlt, h2⟩ := ints_src hl0 h0
    have hsrc : Hid _ := h2
    have hx : Hid _ := ints_bnd hl0
    clear hl0 h2
    go_enter Try.func43, Try.ntmps43
    go_wp2_with (at_builtin; refine wpList_append_lies _ rfl (.tmp 4) (.tmp 5) 44 rfl w.heap.size 3 i0 (.int .i64 0) 1 8 underIs hi hz0 hz1 hz2 rfl (by decide) (.slice none 0 0) 0 [] rfl ⟨rfl, Or.inl ⟨rfl, rfl⟩⟩ ad l.length c (iv l) rfl (by rw [iv_len, Nat.mul_one]) hsrc.out (iv_one l) h0 (by unfold maxLen; omega) (by omega) (Nat.le_refl _) w.heap.size rfl ?_)
    intro g2 cap2 w9 h1 hgrow hat hlt1
    have R : Hid (LyOut Lay.int w w9 l (.returned (.slice (some ⟨g2, 0, none⟩) l.length cap2))) := by
      exact ⟨_, _, rfl, ints_row h1 hx.out, (Below.refl _ w).grown hgrow (Nat.le_refl _) (fun k hk => by simp [Value.ownBlock] at hk)⟩
    clear h1 hgrow hat hlt1 hsrc hx
    go_wp2
    go_ret
    exact R.out
  · have e0 : l = [] := List.length_eq_zero_iff.1 (by omega)
    subst e0
    have ha : Hid (∀ (t : TypeId) (wx : World), (Builtin.append_ #[44, 44] t #[.slice none 0 0, .slice p 0 c]).run Try.prog wx = .ok (.slice none 0 0) wx) := fun (t : TypeId) (wx : World) => run_append_nothing (P := Try.prog) wx 44 44 t 3 i0 underIs hi none 0 0 (Nat.le_refl _) (.slice p 0 c) (by cases p with
      | none => exact Src.ofNil wx underIs c
      | some ad => exact Src.ofSlice wx underIs ad 0 c [] (by simp) (fun j u h => by simp at h) (fun u h => by cases h))
    simp only [List.length_nil]
    have R : Hid (LyOut Lay.int w w [] (.returned (.slice none 0 0))) := ⟨_, _, rfl, Lay.list_nil _ _ _ _ _, Below.refl _ _⟩
    clear hl0
    go_enter Try.func43, Try.ntmps43
    go_wp2_with (at_builtin; refine wpList_append_no rfl (.tmp 4) (.tmp 5) 44 rfl (.slice none 0 0) (.slice p 0 c) rfl rfl (ha.out _ _) ?_)
    go_ret
    exact R.out
end Go.Proofs.Ytmnmnokkojcodab
