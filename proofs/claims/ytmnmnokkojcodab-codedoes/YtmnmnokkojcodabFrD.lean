/-
  The rule of Calm2 beside a walk over letters: a region that draws its order, its last operations apart; one predicate a slot.
-/
import Derived.Test.YtmnmnokkojcodabCalm2
import Derived.Test.YtmnmnokkojcodabFrW
namespace Go.Proofs.Ytmnmnokkojcodab
open Go.RowKit
set_option linter.unusedVariables false

abbrev PTab := List (Tmp × (Value → World → Prop))
def PTab.E (M : PTab) (t : Tmp) (v : Value) (w : World) : Prop := match M.lookup t with | some p => p v w | none => True
def Stable (R : World → World → Prop) : PTab → Prop
  | [] => True
  | x :: r => (∀ v w w', R w w' → x.2 v w → x.2 v w') ∧ Stable R r
theorem PTab_stable {R : World → World → Prop} : ∀ (M : PTab), Stable R M → ∀ t v w w', R w w' → PTab.E M t v w → PTab.E M t v w'
  | [], _, _, _, _, _, _, h => h
  | x :: r, hs, t, v, w, w', hr, h => by
    unfold PTab.E at *
    obtain ⟨s, p⟩ := x
    by_cases e : t = s
    · subst e
      simp at h ⊢
      exact hs.1 _ _ _ hr h
    · have e' : (t == s) = false := by simpa using e
      simp only [List.lookup_cons, e'] at h ⊢
      exact PTab_stable r hs.2 t v w w' hr h

theorem fr_draw {P : Program} {n id : Nat} {l l2 : List Oper} {outs : List Tmp} {gs : List (Nat × Option Bool)} {bs : List Bool} {a : Act} {w : World} {L : List (Tmp × Value)} {Q : Exit → Act → World → Prop}
    (M : PTab) (W : World → Prop) (R : World → World → Prop)
    (hm : P.follows .mixedOrders = true) (hF : Fr n a L) (hL : (L.all fun p => !(dstsOf l).contains p.1) = true) (hB : calmB l n outs gs bs = true)
    (hT : (backB 0 (l ++ l2) && (guardsB l.length l && tailB l.length l2)) = true)
    (hR : Stable R M) (hG : GuardOk (PTab.E M) W l.toArray gs) (hW : W w.drew) (hO : OutsOk (PTab.E M) a w.drew outs)
    (hA : AllOk (PTab.E M) W R P l bs)
    (hend : ∀ a' w', W w' → (∀ t, (dstsOf l).contains t = true → PTab.E M t (a'.tmps.getD t undef) w') → Fr n a' L → wpList P (l ++ l2).toArray Q l2 a' w') :
    (Code.region id (l ++ l2).toArray true).wp P Q a w := by
  simp only [Bool.and_eq_true] at hT
  obtain ⟨hT1, hT2, hT3⟩ := hT
  refine wp_region_any hm ?_
  have key : wpAny P .any l.toArray (Exit.then (fun a w => wpList P (l ++ l2).toArray Q l2 a w) Q) l.length (Array.replicate l.length false) a w.drew := by
    refine wpAny_calm (E := PTab.E M) (W := W) (R := R) (a0 := a) (outs := outs) (gs := gs) (bs := bs) (by rw [hF.size]; exact hB) (PTab_stable M hR) hG hA ?_ _ _ _ _ (by simp) ?_ ⟨hW, rfl, rfl, fun _ _ => rfl, fun t ht _ => outs_mem outs hO t ht, ?_⟩
    · intro vs w' hw' hE
      have hlt : ∀ t, (dstsOf l).contains t = true → t < a.tmps.size := fun t ht => by
        simp only [calmB, Bool.and_eq_true] at hB
        have := List.all_eq_true.1 hB.1.1.1.2 t (by simpa using ht)
        rw [hF.size]; simpa using this
      have hat : ∀ t, (dstsOf l).contains t = true → (puts a vs (dstsOf l)).tmps.getD t undef = vs t := fun t ht => by
        have := puts_at vs (dstsOf l) a t (hlt t ht)
        rw [if_pos (by simpa using ht)] at this
        rw [Array.getD_eq_getD_getElem?, this]; rfl
      refine hend _ w' hw' (fun t ht => by rw [hat t ht]; exact hE t ht) ⟨by rw [puts_size, hF.size], by rw [puts_defers, hF.defers], fun t v hl => ?_⟩
      have hm : ∃ p ∈ L, p.1 = t := by
        clear hL hO hend
        have : ∀ (L : List (Tmp × Value)), L.lookup t = some v → ∃ p ∈ L, p.1 = t := by
          intro L
          induction L with
          | nil => intro h; simp at h
          | cons x r ih =>
            intro h
            by_cases e : t = x.1
            · exact ⟨x, by simp, e.symm⟩
            · have e' : (t == x.1) = false := beq_false_of_ne e
              rw [List.lookup_cons, e'] at h
              obtain ⟨p, hp, he⟩ := ih h
              exact ⟨p, by simp [hp], he⟩
        exact this L hl
      obtain ⟨p, hp, rfl⟩ := hm
      have hn : ¬ p.1 ∈ dstsOf l := by
        have := List.all_eq_true.1 hL p hp
        simpa using this
      rw [← hF.sl p.1 v hl]
      by_cases hlt' : p.1 < a.tmps.size
      · have := puts_at vs (dstsOf l) a p.1 hlt'
        rw [if_neg hn] at this
        rw [Array.getD_eq_getD_getElem?, Array.getD_eq_getD_getElem?, this]
      · have h9 : a.tmps.size ≤ p.1 := Nat.le_of_not_lt hlt'
        rw [Array.getD_eq_getD_getElem?, Array.getD_eq_getD_getElem?, Array.getElem?_eq_none (by rw [puts_size]; exact h9), Array.getElem?_eq_none h9]
    · simp only [Array.toList_replicate]
      exact Nat.le_trans (List.length_filter_le _ _) (by simp)
    · intro j o t hj hd hl
      simp [Array.getD] at hl
  have := wpAny_tail (Q := Q) hT1 hT2 hT3 l.length (Array.replicate l.length false) a w.drew (by simp) key
  have e : (Array.replicate l.length false ++ Array.replicate l2.length false : Array Bool) = Array.replicate (l ++ l2).toArray.size false := by
    simp
  have e2 : l.length + l2.length = (l ++ l2).toArray.size := by simp
  rw [e, e2] at this
  exact this

/-- The same, cut behind the operation k. -/
theorem fr_draw_k {P : Program} {n id : Nat} {lo : List Oper} {outs : List Tmp} {gs : List (Nat × Option Bool)} {bs : List Bool} {a : Act} {w : World} {L : List (Tmp × Value)} {Q : Exit → Act → World → Prop}
    (k : Nat) (M : PTab) (W : World → Prop) (R : World → World → Prop)
    (hm : P.follows .mixedOrders = true) (hF : Fr n a L) (hL : (L.all fun p => !(dstsOf (lo.take k)).contains p.1) = true) (hB : calmB (lo.take k) n outs gs bs = true)
    (hT : (backB 0 lo && (guardsB (lo.take k).length (lo.take k) && tailB (lo.take k).length (lo.drop k))) = true)
    (hR : Stable R M) (hG : GuardOk (PTab.E M) W (lo.take k).toArray gs) (hW : W w.drew) (hO : OutsOk (PTab.E M) a w.drew outs)
    (hA : AllOk (PTab.E M) W R P (lo.take k) bs)
    (hend : ∀ ops a' w', W w' → (∀ t, (dstsOf (lo.take k)).contains t = true → PTab.E M t (a'.tmps.getD t undef) w') → Fr n a' L → wpList P ops Q (lo.drop k) a' w') :
    (Code.region id lo.toArray true).wp P Q a w := by
  have h := fr_draw (id := id) (l := lo.take k) (l2 := lo.drop k) (Q := Q) M W R hm hF hL hB (by rw [List.take_append_drop]; exact hT) hR hG hW hO hA (hend _)
  rwa [List.take_append_drop] at h

section
variable {w0 w w' w00 : World} {Bs : List (Nat × Array Value × TypeId)}
theorem Wd.add (h : Wd w0 w Bs) {B : Nat} {c : Array Value} {t : TypeId} (hb : Blk w B c t) (h0 : Wd w0 w00 Bs) (hB : w00.heap.size ≤ B) : Wd w0 w ((B, c, t) :: Bs) := by
  refine ⟨h.bel, fun i x hx => ?_, fun i x hx => ?_, fun i j x y hx hy e => ?_⟩
  · cases i with
    | zero => simp at hx; subst hx; exact hb
    | succ i => exact h.blk i x (by simpa using hx)
  · cases i with
    | zero => simp at hx; subst hx; have := h0.bel.size; simp only; omega
    | succ i => exact h.new i x (by simpa using hx)
  · cases i with
    | zero =>
      cases j with
      | zero => rfl
      | succ j =>
        simp at hx hy; subst hx
        have := (h0.blk j y hy).lt
        simp at e; omega
    | succ i =>
      cases j with
      | zero =>
        simp at hx hy; subst hy
        have := (h0.blk i x hx).lt
        simp at e; omega
      | succ j => rw [h.nd i j x y (by simpa using hx) (by simpa using hy) e]
end
end Go.Proofs.Ytmnmnokkojcodab
