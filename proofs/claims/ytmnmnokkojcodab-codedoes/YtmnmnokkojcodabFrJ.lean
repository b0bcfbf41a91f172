/-
  The rule of FrI with calls that make memory: what they made lies apart from the boxes, whatever order is drawn. No function of the program is spoken of.
-/
import Derived.Test.YtmnmnokkojcodabFrI
namespace Go.Proofs.Ytmnmnokkojcodab
open Go.RowKit
set_option linter.unusedVariables false
set_option linter.unusedSimpArgs false

theorem setCells_size (b : Nat) : ∀ (vs : List Value) (w : World) (j : Nat), (w.setCells b j vs).heap.size = w.heap.size
  | [], w, j => rfl
  | v :: vs, w, j => (setCells_size b vs _ _).trans (by simp)
/-- What was made: told of the letters z, of a world and of the blocks it lies in. -/
abbrev DTab (Z : Type) := List (Nat × (Z → World → (Nat → Prop) → Prop))
def DStable {Z : Type} (D : DTab Z) : Prop := ∀ x ∈ D, ∀ z w w' O, (∀ k, O k → k < w.heap.size → w'.heap[k]? = w.heap[k]?) → x.2 z w O → x.2 z w' O
/-- .. and apart from each box. -/
def Apart (w00 : World) (Ai : List (Nat × Tmp × Nat × TypeId)) (S : Nat → Bool) (a : Act) (w : World) (O : Nat → Prop) : Prop :=
  (∀ k, O k → w00.heap.size ≤ k ∧ k < w.heap.size) ∧ ∀ y ∈ Ai, S y.1 = true → ∀ B, a.tmps.getD y.2.1 undef = .pointer (some ⟨B, 0, none⟩) → ¬ O B
/-- .. at the letters z. -/
def DMz (n : Nat) (a0 : Act) (w00 : World) (ds : List Tmp) (Ti : List (Nat × Tmp)) (Ai Oi : List (Nat × Tmp × Nat × TypeId)) {Z : Type} (M : Z → List (Tmp × Value)) (C : Z → List (Tmp × List Value)) (D : DTab Z) (z : Z) (S : Nat → Bool) (a : Act) (w : World) : Prop :=
  DI n a0 w00 ds Ti Ai Oi (M z) (C z) S a w ∧ ∀ x ∈ D, S x.1 = true → ∃ O, x.2 z w O ∧ Apart w00 Ai S a w O
def DM (n : Nat) (a0 : Act) (w00 : World) (ds : List Tmp) (Ti : List (Nat × Tmp)) (Ai Oi : List (Nat × Tmp × Nat × TypeId)) {Z : Type} (M : Z → List (Tmp × Value)) (C : Z → List (Tmp × List Value)) (D : DTab Z) (S : Nat → Bool) (a : Act) (w : World) : Prop :=
  ∃ z, DMz n a0 w00 ds Ti Ai Oi M C D z S a w

section
variable {n i : Nat} {a0 a : Act} {w00 w w' : World} {l : List Oper} {Ti : List (Nat × Tmp)} {Ai Oi : List (Nat × Tmp × Nat × TypeId)} {Z : Type} {M : Z → List (Tmp × Value)} {C : Z → List (Tmp × List Value)} {D : DTab Z} {z z' : Z} {S : Nat → Bool} {t : Tmp} {v : Value} {s : Nat} {ty : TypeId}
theorem notin (h : ((D.map (·.1)).all fun j => j != i) = true) : ∀ x ∈ D, x.1 ≠ i := fun x hx => by
  have := List.all_eq_true.1 h x.1 (List.mem_map.2 ⟨x, hx, rfl⟩)
  simpa using this
theorem slots_ne (hB : diB l n Ti Ai Oi = true) (hi : (i, t) ∈ Ti) : ∀ x ∈ Ai, x.2.1 ≠ t := by
  simp only [diB, Bool.and_eq_true] at hB
  obtain ⟨hix, ⟨⟨hnd, hndO⟩, hall⟩, hO⟩ := hB
  exact fun x hx e => nodupB_mem hnd (List.mem_map.2 ⟨(i, t), hi, rfl⟩) (e ▸ List.mem_map.2 ⟨x, hx, rfl⟩)
theorem slot_lt (hB : diB l n Ti Ai Oi = true) (ht : t ∈ Ti.map (·.2) ++ Ai.map (·.2.1)) : t < n := by
  simp only [diB, Bool.and_eq_true] at hB
  have h9 := List.all_eq_true.1 hB.2.1.2 t ht
  simp only [Bool.and_eq_true, decide_eq_true_eq] at h9
  exact h9.1
theorem Apart.pure {O : Nat → Prop} (hne : ∀ x ∈ Ai, x.2.1 ≠ t) (htn : t < a.tmps.size) (hiA : (Ai.all fun x => x.1 != i) = true) (hb : w.heap.size ≤ w'.heap.size) (h : Apart w00 Ai S a w O) : Apart w00 Ai (plus i S) (a.put (some t) v) w' O :=
  ⟨fun k hk => ⟨(h.1 k hk).1, Nat.lt_of_lt_of_le (h.1 k hk).2 hb⟩, fun y hy hs B hB => by
    rw [put_at htn, if_neg (hne y hy)] at hB
    exact h.2 y hy (plus_of (by have := List.all_eq_true.1 hiA y hy; simpa using this) hs) B hB⟩

theorem DMz.pure (hst : DStable D) (hB : diB l n Ti Ai Oi = true) (hI : DMz n a0 w00 (dstsOf l) Ti Ai Oi M C D z S a w) (hi : (i, t) ∈ Ti) (hv : (M z).lookup t = some v) (hS : S i = false) (hb : Below w.heap.size w w')
    (hiA : (Ai.all fun x => x.1 != i) = true) (hiO : (Oi.all fun x => x.1 != i) = true) (hiD' : ((D.map (·.1)).all fun j => j != i) = true) : DM n a0 w00 (dstsOf l) Ti Ai Oi M C D (plus i S) (a.put (some t) v) w' := by
  have hiD := notin hiD'
  refine ⟨z, DI.pure hB hI.1 hi hv hS hb hiA hiO, fun x hx hs => ?_⟩
  obtain ⟨O, h1, h2⟩ := hI.2 x hx (plus_of (hiD x hx) hs)
  exact ⟨O, hst x hx z w w' O (fun k _ hk => hb.block k hk) h1, h2.pure (slots_ne hB hi) (by rw [hI.1.size]; exact slot_lt hB (List.mem_append_left _ (List.mem_map.2 ⟨(i, t), hi, rfl⟩))) hiA hb.size⟩

theorem DMz.alloc (hst : DStable D) (hB : diB l n Ti Ai Oi = true) (hI : DMz n a0 w00 (dstsOf l) Ti Ai Oi M C D z S a w) (hi : (i, t, s, ty) ∈ Ai) {c : Array Value} (hc : c.size = s) (hS : S i = false) (hcl : Closed l S)
    (hiT : (Ti.all fun x => x.1 != i) = true) (hiO : (Oi.all fun x => x.1 != i) = true) (hiD' : ((D.map (·.1)).all fun j => j != i) = true) : DM n a0 w00 (dstsOf l) Ti Ai Oi M C D (plus i S) (a.put (some t) (.pointer (some ⟨w.heap.size, 0, none⟩))) (w.alloc (.cells c ty)) := by
  have hb : Below w.heap.size w (w.alloc (.cells c ty)) := bel1 w _
  have hiD := notin hiD'
  refine ⟨z, DI.alloc hB hI.1 hi hc hS hcl hiT hiO, fun x hx hs => ?_⟩
  obtain ⟨O, h1, h2⟩ := hI.2 x hx (plus_of (hiD x hx) hs)
  have htn : t < a.tmps.size := by rw [hI.1.size]; exact slot_lt hB (List.mem_append_right _ (List.mem_map.2 ⟨(i, t, s, ty), hi, rfl⟩))
  refine ⟨O, hst x hx z w _ O (fun k _ hk => hb.block k hk) h1, fun k hk => ⟨(h2.1 k hk).1, Nat.lt_of_lt_of_le (h2.1 k hk).2 hb.size⟩, fun y hy hs' B hB' hO => ?_⟩
  rw [put_at htn] at hB'
  by_cases e : y.2.1 = t
  · rw [if_pos e] at hB'
    simp at hB'
    subst hB'
    have := (h2.1 _ hO).2
    omega
  · rw [if_neg e] at hB'
    refine h2.2 y hy (plus_of (fun e' => e ?_) hs') B hB' hO
    simp only [diB, Bool.and_eq_true] at hB
    exact congrArg (·.2.1) (nodupB_map (f := fun x : Nat × Tmp × Nat × TypeId => x.1) hB.1.1.2 y hy _ hi e')

theorem DMz.store (hst : DStable D) (hB : diB l n Ti Ai Oi = true) (hI : DMz n a0 w00 (dstsOf l) Ti Ai Oi M C D z S a w) (hi : (i, t, s, ty) ∈ Oi) {B j : Nat} {c : Array Value} {cs : List Value} (hj : (j, t, s, ty) ∈ Ai) (hsj : S j = true) (hv : a.tmps.getD t undef = .pointer (some ⟨B, 0, none⟩)) (hBk : Blk w B c ty) (hcs : c.size = s) (hlo : w00.heap.size ≤ B) (hC : (C z).lookup t = some cs) (hln : cs.length = s) (hS : S i = false) (hcl : Closed l S)
    (hiT : (Ti.all fun x => x.1 != i) = true) (hiA : (Ai.all fun x => x.1 != i) = true) (hiD' : ((D.map (·.1)).all fun j => j != i) = true) : DM n a0 w00 (dstsOf l) Ti Ai Oi M C D (plus i S) a (w.setCells B 0 cs) := by
  have hiD := notin hiD'
  refine ⟨z, DI.store hB hI.1 hi hj hsj hv hBk hcs hlo hC hln hS hcl hiT hiA, fun x hx hs => ?_⟩
  obtain ⟨O, h1, h2⟩ := hI.2 x hx (plus_of (hiD x hx) hs)
  have hk := keep1_setCells w B 0 cs
  have hsz : (w.setCells B 0 cs).heap.size = w.heap.size := setCells_size B cs w 0
  refine ⟨O, hst x hx z w _ O (fun k hk' _ => hk k fun e => ?_) h1, fun k hk' => by rw [hsz]; exact h2.1 k hk', fun y hy hs' B' hB' hO => ?_⟩
  · subst e; exact h2.2 _ hj hsj k hv hk'
  · exact h2.2 y hy (plus_of (by have := List.all_eq_true.1 hiA y hy; simpa using this) hs') B' hB' hO

/-- A call that makes memory: the letters of what hangs on it may be others now. -/
theorem DMz.call (hst : DStable D) (hB : diB l n Ti Ai Oi = true) (hI : DMz n a0 w00 (dstsOf l) Ti Ai Oi M C D z S a w) (hi : (i, t) ∈ Ti) (hv : (M z').lookup t = some v) (hS : S i = false) (hcl : Closed l S) (hb : Below w.heap.size w w')
    (hiA : (Ai.all fun x => x.1 != i) = true) (hiO : (Oi.all fun x => x.1 != i) = true)
    (dp : List Nat) (hdp : (dp.all fun j => match l[j]? with | some o => waits1 o i | none => false) = true)
    (hM : ∀ x ∈ Ti, x.1 ∈ dp ∨ x.1 = i ∨ (M z).lookup x.2 = (M z').lookup x.2) (hC : ∀ x ∈ Oi, x.1 ∈ dp ∨ (C z).lookup x.2.1 = (C z').lookup x.2.1)
    (hD : ∀ x ∈ D, (x.1 = i ∧ ∃ O, x.2 z' w' O ∧ ∀ k, O k → w.heap.size ≤ k ∧ k < w'.heap.size) ∨ (x.1 ≠ i ∧ ∀ w O, x.2 z w O → x.2 z' w O)) : DM n a0 w00 (dstsOf l) Ti Ai Oi M C D (plus i S) (a.put (some t) v) w' := by
  have hno : ∀ j ∈ dp, S j = true → False := fun j hj hs => by
    have := List.all_eq_true.1 hdp j hj
    cases ho : l[j]? with
    | none => rw [ho] at this; simp at this
    | some o =>
      rw [ho] at this
      have := Deps.at (hcl j o ho hs) i this
      rw [hS] at this
      cases this
  have hI' : DI n a0 w00 (dstsOf l) Ti Ai Oi (M z') (C z') S a w := by
    refine ⟨hI.1.size, hI.1.defers, hI.1.outer, hI.1.bel, fun x hx hs u hu => ?_, hI.1.new, hI.1.ne, fun x hx hs c hc => ?_⟩
    · rcases hM x hx with h | h | h
      · exact (hno _ h hs).elim
      · rw [h, hS] at hs; cases hs
      · exact hI.1.vals x hx hs u (h.trans hu)
    · rcases hC x hx with h | h
      · exact (hno _ h hs).elim
      · exact hI.1.did x hx hs c (h.trans hc)
  have htn : t < a.tmps.size := by rw [hI.1.size]; exact slot_lt hB (List.mem_append_left _ (List.mem_map.2 ⟨(i, t), hi, rfl⟩))
  refine ⟨z', DI.pure hB hI' hi hv hS hb hiA hiO, fun x hx hs => ?_⟩
  rcases hD x hx with ⟨_, O, h1, h2⟩ | ⟨hne, h1⟩
  · refine ⟨O, h1, fun k hk => ⟨Nat.le_trans hI.1.bel.size (h2 k hk).1, (h2 k hk).2⟩, fun y hy hs' B hB' hO => ?_⟩
    rw [put_at htn, if_neg (slots_ne hB hi y hy)] at hB'
    have hs2 : S y.1 = true := plus_of (by have := List.all_eq_true.1 hiA y hy; simpa using this) hs'
    obtain ⟨B', h3, h4, c, h5, h6⟩ := hI.1.new y hy hs2
    rw [h3] at hB'
    simp at hB'
    subst hB'
    have := h5.lt
    have := (h2 _ hO).1
    omega
  · obtain ⟨O, h3, h4⟩ := hI.2 x hx (plus_of hne hs)
    exact ⟨O, hst x hx z' w w' O (fun k _ hk => hb.block k hk) (h1 w O h3), h4.pure (slots_ne hB hi) htn hiA hb.size⟩

theorem fr_draw4 {P : Program} {Q : Exit → Act → World → Prop} {id : Nat} {L : List (Tmp × Value)} (Ti : List (Nat × Tmp)) (Ai Oi : List (Nat × Tmp × Nat × TypeId)) (M : Z → List (Tmp × Value)) (C : Z → List (Tmp × List Value)) (D : DTab Z) (z0 : Z)
    (hm : P.follows .mixedOrders = true) (hF : Fr n a L) (hL : (L.all fun p => !(dstsOf l).contains p.1) = true) (hB : ((backB 0 l && (l.all fun o => o.guard.isNone)) && diB l n Ti Ai Oi) = true)
    (hst : diB l n Ti Ai Oi = true → StepsOk P l (DM n a w (dstsOf l) Ti Ai Oi M C D) 0 l)
    (hend : ∀ z S a' w', (∀ j, j < l.length → S j = true) → DMz n a w (dstsOf l) Ti Ai Oi M C D z S a' w' → Fr n a' L → Q .normal a' w') : (Code.region id l.toArray true).wp P Q a w := by
  rw [Bool.and_eq_true] at hB
  refine draw_inv (DM n a w (dstsOf l) Ti Ai Oi M C D) hm hB.1 ?_ (hst hB.2) (fun S a' w' hS ⟨z, hI⟩ => hend z S a' w' hS hI ?_)
  · exact ⟨z0, ⟨hF.size, hF.defers, fun _ _ => rfl, drewN_below (m := 1) (Below.refl _ _), fun _ _ h => (by cases h), fun _ _ h => (by cases h), fun _ _ _ _ _ h => (by cases h), fun _ _ h => (by cases h)⟩, fun _ _ h => by cases h⟩
  · exact fr_outer hF hL hI.1
end
end Go.Proofs.Ytmnmnokkojcodab
