/-
  A region that draws its order, by an invariant over what is done: operations of one value each, new boxes, and stores that fill them. No function of the program is spoken of.
-/
import Derived.Test.YtmnmnokkojcodabFrD2
import Derived.Test.YtmnmnokkojcodabCodFill
namespace Go.Proofs.Ytmnmnokkojcodab
open Go.RowKit
set_option linter.unusedVariables false
set_option linter.unusedSimpArgs false

section
variable {P : Program} {Q : Exit → Act → World → Prop}
def Closed (l : List Oper) (S : Nat → Bool) : Prop := ∀ (j : Nat) (o : Oper), l[j]? = some o → S j = true → ∀ e ∈ o.after, Region.binds .any e = true → S e.on = true
def Deps (o : Oper) (S : Nat → Bool) : Prop := ∀ e ∈ o.after, Region.binds .any e = true → S e.on = true
theorem Deps.at {o : Oper} {S : Nat → Bool} (h : Deps o S) (j : Nat) (hw : waits1 o j = true) : S j = true := by
  obtain ⟨e, he, hb, rfl⟩ := waits1_at hw
  exact h e he hb
def plus (i : Nat) (S : Nat → Bool) : Nat → Bool := fun j => j == i || S j
/-- Each operation keeps it. -/
def StepsOk (P : Program) (l : List Oper) (I : (Nat → Bool) → Act → World → Prop) : Nat → List Oper → Prop
  | _, [] => True
  | i, o :: r => (∀ (S : Nat → Bool) (a : Act) (w : World), S i = false → Deps o S → Closed l S → I S a w → ∀ K : Act → World → Prop, (∀ a' w', I (plus i S) a' w' → K a' w') → o.wp P a w K (fun _ _ _ => False)) ∧ StepsOk P l I (i + 1) r
theorem steps_at {l : List Oper} {I : (Nat → Bool) → Act → World → Prop} : ∀ (r : List Oper) (k i : Nat) (o : Oper), StepsOk P l I k r → r[i]? = some o →
    ∀ (S : Nat → Bool) (a : Act) (w : World), S (k + i) = false → Deps o S → Closed l S → I S a w → ∀ K : Act → World → Prop, (∀ a' w', I (plus (k + i) S) a' w' → K a' w') → o.wp P a w K (fun _ _ _ => False)
  | [], _, _, _, _, h => by simp at h
  | x :: r, k, 0, o, h, ho => by simp at ho; subst ho; exact h.1
  | x :: r, k, i + 1, o, h, ho => by
    simp at ho
    have := steps_at r (k + 1) i o h.2 ho
    rwa [show k + 1 + i = k + (i + 1) by omega] at this

theorem wpAny_inv {l : List Oper} (hb : backB 0 l = true) (hg : (l.all fun o => o.guard.isNone) = true) (I : (Nat → Bool) → Act → World → Prop) (hst : StepsOk P l I 0 l)
    (hend : ∀ S a w, (∀ j, j < l.length → S j = true) → I S a w → Q .normal a w) :
    ∀ (fuel : Nat) (listed : Array Bool) (a : Act) (w : World), listed.size = l.length → (listed.toList.filter (· == false)).length ≤ fuel → Closed l (fun j => listed.getD j false) → I (fun j => listed.getD j false) a w →
      wpAny P .any l.toArray Q fuel listed a w := by
  have fin : ∀ (listed : Array Bool) (a : Act) (w : World), listed.size = l.length → Region.ready .any l.toArray listed = [] → I (fun j => listed.getD j false) a w → Q .normal a w := by
    intro listed a w hs hr hI
    refine hend _ a w ?_ hI
    intro j
    induction j using Nat.strongRecOn with
    | _ j ih =>
      intro hj
      cases hc : listed.getD j false with
      | true => rfl
      | false =>
        exfalso
        have hj' : j < listed.size := by omega
        have hnt : listed.getD j true = false := by simp [Array.getD, hj'] at hc ⊢; exact hc
        have : j ∈ Region.ready .any l.toArray listed := ready_mem.2 ⟨by simpa using hj, hnt, l[j], by simp [hj], fun e he hbd => by
          have := back_at l 0 j l[j] hb (by simp [hj]) e he hbd
          exact ih e.on (by omega) (by omega)⟩
        rw [hr] at this; cases this
  intro fuel
  induction fuel with
  | zero =>
    intro listed a w hs hf hcl hI
    have hr : Region.ready .any l.toArray listed = [] := by
      rw [List.eq_nil_iff_forall_not_mem]
      intro i hi
      obtain ⟨h1, h2, _⟩ := ready_mem.1 hi
      have hlt : i < l.length := by simpa using h1
      have : listed[i]'(by omega) = false := by
        simp [Array.getD, show i < listed.size by omega] at h2; exact h2
      have hm : false ∈ listed.toList.filter (· == false) := List.mem_filter.2 ⟨by rw [← this]; simp, by simp⟩
      have := List.length_pos_of_mem hm
      omega
    exact ⟨hr, fin listed a w hs hr hI⟩
  | succ fuel ih =>
    intro listed a w hs hf hcl hI
    refine ⟨fun hr => fin listed a w hs hr hI, fun i hi => ?_⟩
    obtain ⟨h1, h2, o, ho, hdep⟩ := ready_mem.1 hi
    have hlt : i < l.length := by simpa using h1
    have hil : i < listed.size := by omega
    have hun' : listed[i] = false := by simp [Array.getD, hil] at h2; exact h2
    have hun : listed.getD i false = false := by simp [Array.getD, hil, hun']
    have hlen : ((listed.setIfInBounds i true).toList.filter (· == false)).length ≤ fuel := by
      have h3 := filter_set listed.toList i (by simpa using hil) (by simpa using hun')
      rw [Array.toList_setIfInBounds]
      omega
    have hfun : (fun j => (listed.setIfInBounds i true).getD j false) = plus i (fun j => listed.getD j false) := by
      funext j
      unfold plus
      by_cases e : j = i
      · subst e; simp [Array.getD, hil]
      · have hne : i ≠ j := fun x => e x.symm
        rw [Array.getD_eq_getD_getElem?, Array.getElem?_setIfInBounds_ne hne, ← Array.getD_eq_getD_getElem?]
        simp [e]
    unfold wpOp
    rw [ho]
    simp only
    have hgo : o.guard = none := by
      have := List.all_eq_true.1 hg o (List.mem_of_getElem? (by simpa using ho))
      simpa using this
    have hw : Region.wanted o (yielded l.toArray a.tmps) = true := by unfold Region.wanted; rw [hgo]
    rw [hw, if_pos rfl]
    have hst' := steps_at l 0 i o hst (by simpa using ho) (fun j => listed.getD j false) a w (by rw [Nat.zero_add]; exact hun) hdep hcl hI
    rw [Nat.zero_add] at hst'
    refine .inl (wpq (fun a' w' hh => hh) (hst' _ fun a' w' hI' => ?_))
    refine ih _ _ _ (by simpa using hs) hlen ?_ (by rw [hfun]; exact hI')
    rw [hfun]
    intro j oj hj hS e he hbd
    unfold plus at hS ⊢
    by_cases e' : j = i
    · subst e'
      have hjo : some oj = some o := by rw [← hj]; simpa using ho
      cases hjo
      have := hdep e he hbd
      simp [this]
    · have : (j == i) = false := by simpa using e'
      rw [this, Bool.false_or] at hS
      have := hcl j oj hj hS e he hbd
      simp only at this
      simp [this]

theorem draw_inv {id : Nat} {l : List Oper} {a : Act} {w : World} (I : (Nat → Bool) → Act → World → Prop) (hm : P.follows .mixedOrders = true) (hB : (backB 0 l && (l.all fun o => o.guard.isNone)) = true) (h0 : I (fun _ => false) a w.drew) (hst : StepsOk P l I 0 l)
    (hend : ∀ S a w, (∀ j, j < l.length → S j = true) → I S a w → Q .normal a w) : (Code.region id l.toArray true).wp P Q a w := by
  rw [Bool.and_eq_true] at hB
  have e0 : (fun j => (Array.replicate l.length false).getD j false) = fun _ => false := by
    funext j
    rw [Array.getD_eq_getD_getElem?, Array.getElem?_replicate]
    split <;> rfl
  have key := wpAny_inv (Q := Q) hB.1 hB.2 I hst hend l.length (Array.replicate l.length false) a w.drew (by simp) (Nat.le_trans (List.length_filter_le _ _) (by simp)) (by rw [e0]; intro j o _ h; cases h) (by rw [e0]; exact h0)
  refine wp_region_any hm ?_
  simpa using key
end

/-! ### boxes and stores -/

/-- What is known when the operations S are done: of each slot of Ti its value (M), of each of Ai a new box, of each store of Oi that its box is filled (C). -/
structure DI (n : Nat) (a0 : Act) (w00 : World) (ds : List Tmp) (Ti : List (Nat × Tmp)) (Ai : List (Nat × Tmp × Nat × TypeId)) (Oi : List (Nat × Tmp × Nat × TypeId)) (M : List (Tmp × Value)) (C : List (Tmp × List Value)) (S : Nat → Bool) (a : Act) (w : World) : Prop where
  size : a.tmps.size = n
  defers : a.defers = []
  outer : ∀ t, ds.contains t = false → a.tmps.getD t undef = a0.tmps.getD t undef
  bel : Below w00.heap.size w00 w
  vals : ∀ x ∈ Ti, S x.1 = true → ∀ v, M.lookup x.2 = some v → a.tmps.getD x.2 undef = v
  new : ∀ x ∈ Ai, S x.1 = true → ∃ B, a.tmps.getD x.2.1 undef = .pointer (some ⟨B, 0, none⟩) ∧ w00.heap.size ≤ B ∧ ∃ c, Blk w B c x.2.2.2 ∧ c.size = x.2.2.1
  ne : ∀ x ∈ Ai, ∀ y ∈ Ai, x.2.1 ≠ y.2.1 → S x.1 = true → S y.1 = true → a.tmps.getD x.2.1 undef ≠ a.tmps.getD y.2.1 undef
  did : ∀ x ∈ Oi, S x.1 = true → ∀ c, C.lookup x.2.1 = some c → ∃ B, a.tmps.getD x.2.1 undef = .pointer (some ⟨B, 0, none⟩) ∧ Blk w B c.toArray x.2.2.2

def diB (l : List Oper) (n : Nat) (Ti : List (Nat × Tmp)) (Ai Oi : List (Nat × Tmp × Nat × TypeId)) : Bool :=
  (nodupB (Ti.map (·.1)) && nodupB (Ai.map (·.1)) && nodupB (Oi.map (·.1))) && (nodupB (Ti.map (·.2) ++ Ai.map (·.2.1)) && nodupB (Oi.map (·.2.1)) && ((Ti.map (·.2) ++ Ai.map (·.2.1)).all fun t => decide (t < n) && (dstsOf l).contains t) &&
  (Oi.all fun x => Ai.any fun y => y.2.1 == x.2.1 && y.2.2.1 == x.2.2.1 && y.2.2.2 == x.2.2.2 && (match l[x.1]? with | some o => waits1 o y.1 | none => false)))

theorem nodupB_mem {l1 l2 : List Tmp} : ∀ {t : Tmp}, nodupB (l1 ++ l2) = true → t ∈ l1 → t ∈ l2 → False := by
  induction l1 with
  | nil => intro t _ h; cases h
  | cons x r ih =>
    intro t h h1 h2
    simp only [List.cons_append, nodupB, Bool.and_eq_true, Bool.not_eq_true'] at h
    rcases List.mem_cons.1 h1 with rfl | h1
    · have := h.1
      simp at this
      exact this.2 h2
    · exact ih h.2 h1 h2
theorem nodupB_map {α : Type} {f : α → Tmp} : ∀ {l : List α}, nodupB (l.map f) = true → ∀ x ∈ l, ∀ y ∈ l, f x = f y → x = y
  | [], _, _, h, _, _, _ => by cases h
  | z :: r, h, x, hx, y, hy, e => by
    simp only [List.map_cons, nodupB, Bool.and_eq_true, Bool.not_eq_true'] at h
    have hz : ∀ u ∈ r, f u ≠ f z := fun u hu e => by
      have := h.1
      simp at this
      exact this u hu e
    rcases List.mem_cons.1 hx with h1 | h1
    · rcases List.mem_cons.1 hy with h2 | h2
      · rw [h1, h2]
      · exact absurd e.symm (h1 ▸ hz y h2)
    · rcases List.mem_cons.1 hy with h2 | h2
      · exact absurd e (h2 ▸ hz x h1)
      · exact nodupB_map h.2 x h1 y h2 e
theorem nodupB_left {l1 l2 : List Tmp} (h : nodupB (l1 ++ l2) = true) : nodupB l1 = true := by
  induction l1 with
  | nil => rfl
  | cons x r ih =>
    simp only [List.cons_append, nodupB, Bool.and_eq_true, Bool.not_eq_true'] at h ⊢
    refine ⟨?_, ih h.2⟩
    have := h.1
    simp at this ⊢
    exact this.1
theorem nodupB_right {l1 l2 : List Tmp} (h : nodupB (l1 ++ l2) = true) : nodupB l2 = true := by
  induction l1 with
  | nil => exact h
  | cons x r ih =>
    simp only [List.cons_append, nodupB, Bool.and_eq_true, Bool.not_eq_true'] at h
    exact ih h.2

section
variable {n i : Nat} {a0 a : Act} {w00 w w' : World} {l : List Oper} {Ti : List (Nat × Tmp)} {Ai Oi : List (Nat × Tmp × Nat × TypeId)} {M : List (Tmp × Value)} {C : List (Tmp × List Value)} {S : Nat → Bool} {t : Tmp} {v : Value} {s : Nat} {ty : TypeId}
theorem put_at {u : Tmp} (h : t < a.tmps.size) : (a.put (some t) v).tmps.getD u undef = if u = t then v else a.tmps.getD u undef := by
  by_cases e : u = t
  · subst e; simp [Act.put, Array.getD, h]
  · rw [if_neg e]
    have hne : t ≠ u := fun x => e x.symm
    rw [Array.getD_eq_getD_getElem?, Array.getD_eq_getD_getElem?]
    simp only [Act.put]
    rw [Array.getElem?_setIfInBounds_ne hne]
theorem plus_of {j : Nat} (hne : j ≠ i) (h : plus i S j = true) : S j = true := by
  have : (j == i) = false := by simpa using hne
  unfold plus at h
  rwa [this, Bool.false_or] at h

theorem DI.pure (hB : diB l n Ti Ai Oi = true) (hI : DI n a0 w00 (dstsOf l) Ti Ai Oi M C S a w) (hi : (i, t) ∈ Ti) (hv : M.lookup t = some v) (hS : S i = false) (hb : Below w.heap.size w w')
    (hiA : (Ai.all fun x => x.1 != i) = true) (hiO : (Oi.all fun x => x.1 != i) = true) : DI n a0 w00 (dstsOf l) Ti Ai Oi M C (plus i S) (a.put (some t) v) w' := by
  simp only [diB, Bool.and_eq_true] at hB
  obtain ⟨hix, ⟨⟨hnd, hndO⟩, hall⟩, hO⟩ := hB
  have htT : t ∈ Ti.map (·.2) := List.mem_map.2 ⟨(i, t), hi, rfl⟩
  have h9 := List.all_eq_true.1 hall t (List.mem_append_left _ htT)
  simp only [Bool.and_eq_true, decide_eq_true_eq] at h9
  have htn : t < a.tmps.size := by rw [hI.size]; exact h9.1
  have hneA : ∀ x ∈ Ai, x.2.1 ≠ t := fun x hx e => nodupB_mem hnd htT (e ▸ List.mem_map.2 ⟨x, hx, rfl⟩)
  have hneO : ∀ x ∈ Oi, x.2.1 ≠ t := fun x hx e => by
    obtain ⟨y, hy, hh⟩ := List.any_eq_true.1 (List.all_eq_true.1 hO x hx)
    simp only [Bool.and_eq_true, beq_iff_eq] at hh
    exact hneA y hy (hh.1.1.1.trans e)
  have hA : ∀ x ∈ Ai, plus i S x.1 = true → S x.1 = true := fun x hx h => plus_of (by have := List.all_eq_true.1 hiA x hx; simpa using this) h
  have hO' : ∀ x ∈ Oi, plus i S x.1 = true → S x.1 = true := fun x hx h => plus_of (by have := List.all_eq_true.1 hiO x hx; simpa using this) h
  refine ⟨by rw [← hI.size]; simp [Act.put], hI.defers, fun u hu => ?_, Below.andThen hI.bel hb, fun x hx hs u hu => ?_, fun x hx hs => ?_, fun x hx y hy hxy hs1 hs2 => ?_, fun x hx hs c hc => ?_⟩
  · have : u ≠ t := fun e => by subst e; rw [h9.2] at hu; cases hu
    rw [put_at htn, if_neg this]; exact hI.outer u hu
  · rw [put_at htn]
    by_cases e : x.2 = t
    · rw [if_pos e]; rw [e, hv] at hu; exact Option.some.inj hu
    · rw [if_neg e]
      refine hI.vals x hx (plus_of (fun e2 => e ?_) hs) u hu
      exact congrArg (·.2) (nodupB_map (f := fun x : Nat × Tmp => x.1) hix.1.1 x hx (i, t) hi e2)
  · obtain ⟨B, h1, h2, c, h3, h4⟩ := hI.new x hx (hA x hx hs)
    exact ⟨B, by rw [put_at htn, if_neg (hneA x hx)]; exact h1, h2, c, h3.below hb, h4⟩
  · rw [put_at htn, if_neg (hneA x hx), put_at htn, if_neg (hneA y hy)]
    exact hI.ne x hx y hy hxy (hA x hx hs1) (hA y hy hs2)
  · obtain ⟨B, h1, h2⟩ := hI.did x hx (hO' x hx hs) c hc
    exact ⟨B, by rw [put_at htn, if_neg (hneO x hx)]; exact h1, h2.below hb⟩

theorem DI.alloc (hB : diB l n Ti Ai Oi = true) (hI : DI n a0 w00 (dstsOf l) Ti Ai Oi M C S a w) (hi : (i, t, s, ty) ∈ Ai) {c : Array Value} (hc : c.size = s) (hS : S i = false) (hcl : Closed l S)
    (hiT : (Ti.all fun x => x.1 != i) = true) (hiO : (Oi.all fun x => x.1 != i) = true) : DI n a0 w00 (dstsOf l) Ti Ai Oi M C (plus i S) (a.put (some t) (.pointer (some ⟨w.heap.size, 0, none⟩))) (w.alloc (.cells c ty)) := by
  simp only [diB, Bool.and_eq_true] at hB
  obtain ⟨hix, ⟨⟨hnd, hndO⟩, hall⟩, hO⟩ := hB
  have hb : Below w.heap.size w (w.alloc (.cells c ty)) := bel1 w _
  have htA : t ∈ Ai.map (·.2.1) := List.mem_map.2 ⟨(i, t, s, ty), hi, rfl⟩
  have h9 := List.all_eq_true.1 hall t (List.mem_append_right _ htA)
  simp only [Bool.and_eq_true, decide_eq_true_eq] at h9
  have htn : t < a.tmps.size := by rw [hI.size]; exact h9.1
  have hneT : ∀ x ∈ Ti, x.2 ≠ t := fun x hx e => nodupB_mem hnd (e ▸ List.mem_map.2 ⟨x, hx, rfl⟩) htA
  have one : ∀ x ∈ Ai, x.2.1 = t → x = (i, t, s, ty) := fun x hx e => nodupB_map (f := fun x : Nat × Tmp × Nat × TypeId => x.2.1) (nodupB_right hnd) x hx _ hi e
  have old : ∀ x ∈ Ai, x.2.1 ≠ t → plus i S x.1 = true → S x.1 = true := fun x hx hne h => plus_of (fun e => hne (congrArg (·.2.1) (nodupB_map (f := fun x : Nat × Tmp × Nat × TypeId => x.1) hix.1.2 x hx _ hi e))) h
  refine ⟨by rw [← hI.size]; simp [Act.put], hI.defers, fun u hu => ?_, Below.andThen hI.bel hb, fun x hx hs u hu => ?_, fun x hx hs => ?_, fun x hx y hy hxy hs1 hs2 => ?_, fun x hx hs c' hc' => ?_⟩
  · have : u ≠ t := fun e => by subst e; rw [h9.2] at hu; cases hu
    rw [put_at htn, if_neg this]; exact hI.outer u hu
  · rw [put_at htn, if_neg (hneT x hx)]
    exact hI.vals x hx (plus_of (by have := List.all_eq_true.1 hiT x hx; simpa using this) hs) u hu
  · by_cases e : x.2.1 = t
    · rw [one x hx e]
      exact ⟨w.heap.size, by rw [put_at htn, if_pos rfl], hI.bel.size, c, Blk.new w c ty, hc⟩
    · obtain ⟨B, h1, h2, c', h3, h4⟩ := hI.new x hx (old x hx e hs)
      exact ⟨B, by rw [put_at htn, if_neg e]; exact h1, h2, c', h3.below hb, h4⟩
  · have lt : ∀ x ∈ Ai, x.2.1 ≠ t → plus i S x.1 = true → a.tmps.getD x.2.1 undef ≠ .pointer (some ⟨w.heap.size, 0, none⟩) := fun x hx e hs h => by
      obtain ⟨B, h1, h2, c', h3, h4⟩ := hI.new x hx (old x hx e hs)
      rw [h1] at h
      simp at h
      have := h3.lt
      omega
    by_cases e1 : x.2.1 = t
    · by_cases e2 : y.2.1 = t
      · exact absurd (e1.trans e2.symm) hxy
      · rw [put_at htn, if_pos e1, put_at htn, if_neg e2]
        exact fun h => lt y hy e2 hs2 h.symm
    · by_cases e2 : y.2.1 = t
      · rw [put_at htn, if_neg e1, put_at htn, if_pos e2]
        exact lt x hx e1 hs1
      · rw [put_at htn, if_neg e1, put_at htn, if_neg e2]
        exact hI.ne x hx y hy hxy (old x hx e1 hs1) (old y hy e2 hs2)
  · have hs' : S x.1 = true := plus_of (by have := List.all_eq_true.1 hiO x hx; simpa using this) hs
    have hne : x.2.1 ≠ t := fun e => by
      obtain ⟨y, hy, hh⟩ := List.any_eq_true.1 (List.all_eq_true.1 hO x hx)
      simp only [Bool.and_eq_true, beq_iff_eq] at hh
      have hyt := one y hy (hh.1.1.1.trans e)
      cases ho : l[x.1]? with
      | none => rw [ho] at hh; simp at hh
      | some o =>
        rw [ho] at hh
        have := Deps.at (hcl x.1 o ho hs') y.1 hh.2
        rw [hyt] at this
        simp only at this
        rw [hS] at this
        cases this
    obtain ⟨B, h1, h2⟩ := hI.did x hx hs' c' hc'
    exact ⟨B, by rw [put_at htn, if_neg hne]; exact h1, h2.below hb⟩

theorem DI.box (hI : DI n a0 w00 (dstsOf l) Ti Ai Oi M C S a w) (hi : (i, t, s, ty) ∈ Ai) (hs : S i = true) : ∃ B, a.tmps.getD t undef = .pointer (some ⟨B, 0, none⟩) ∧ w00.heap.size ≤ B ∧ ∃ c, Blk w B c ty ∧ c.size = s := hI.new _ hi hs

theorem blk_all {w : World} {B : Nat} {c : Array Value} {ty : TypeId} {cs : List Value} (h : Blk w B c ty) (hs : c.size = cs.length) : Blk (w.setCells B 0 cs) B cs.toArray ty := by
  have := blk_setCells cs w c 0 h (by omega)
  have e : spliced c 0 cs = cs.toArray := by
    unfold spliced
    have h9 : c.toList.drop (0 + cs.length) = [] := List.drop_of_length_le (by simp [hs])
    rw [h9]; simp
  rwa [e] at this

theorem DI.store (hB : diB l n Ti Ai Oi = true) (hI : DI n a0 w00 (dstsOf l) Ti Ai Oi M C S a w) (hi : (i, t, s, ty) ∈ Oi) {B j : Nat} {c : Array Value} {cs : List Value} (hj : (j, t, s, ty) ∈ Ai) (hsj : S j = true) (hv : a.tmps.getD t undef = .pointer (some ⟨B, 0, none⟩)) (hBk : Blk w B c ty) (hcs : c.size = s) (hlo : w00.heap.size ≤ B) (hC : C.lookup t = some cs) (hln : cs.length = s) (hS : S i = false) (hcl : Closed l S)
    (hiT : (Ti.all fun x => x.1 != i) = true) (hiA : (Ai.all fun x => x.1 != i) = true) : DI n a0 w00 (dstsOf l) Ti Ai Oi M C (plus i S) a (w.setCells B 0 cs) := by
  simp only [diB, Bool.and_eq_true] at hB
  obtain ⟨hix, ⟨⟨hnd, hndO⟩, hall⟩, hO⟩ := hB
  have hk := keep1_setCells w B 0 cs
  have hnew := blk_all (cs := cs) hBk (by omega)
  have hA : ∀ x ∈ Ai, plus i S x.1 = true → S x.1 = true := fun x hx h => plus_of (by have := List.all_eq_true.1 hiA x hx; simpa using this) h
  refine ⟨hI.size, hI.defers, hI.outer, below_setCells hlo cs w w00 0 hI.bel, fun x hx hs u hu => ?_, fun x hx hs => ?_, fun x hx y hy hxy hs1 hs2 => hI.ne x hx y hy hxy (hA x hx hs1) (hA y hy hs2), fun x hx hs c' hc' => ?_⟩
  · exact hI.vals x hx (plus_of (by have := List.all_eq_true.1 hiT x hx; simpa using this) hs) u hu
  · obtain ⟨B', h1, h2, c', h3, h4⟩ := hI.new x hx (hA x hx hs)
    by_cases e : B' = B
    · subst e
      have : some (Obj.cells c' x.2.2.2 (0, 0)) = some (Obj.cells c ty (0, 0)) := by rw [← h3, ← hBk]
      simp at this
      obtain ⟨rfl, hty⟩ := this
      exact ⟨B', h1, h2, _, by rw [hty]; exact hnew, by simp; omega⟩
    · exact ⟨B', h1, h2, c', (hk B' e).trans h3, h4⟩
  · by_cases e : x.2.1 = t
    · have hx' := nodupB_map (f := fun x : Nat × Tmp × Nat × TypeId => x.2.1) hndO x hx _ hi e
      subst hx'
      simp only at hc' ⊢
      rw [hC] at hc'
      cases hc'
      exact ⟨B, hv, hnew⟩
    · have hs' : S x.1 = true := plus_of (fun e' => e (congrArg (·.2.1) (nodupB_map (f := fun x : Nat × Tmp × Nat × TypeId => x.1) hix.2 x hx _ hi e'))) hs
      obtain ⟨B', h1, h2⟩ := hI.did x hx hs' c' hc'
      have hne : B' ≠ B := fun e' => by
        obtain ⟨y, hy, hh⟩ := List.any_eq_true.1 (List.all_eq_true.1 hO x hx)
        simp only [Bool.and_eq_true, beq_iff_eq] at hh
        cases ho : l[x.1]? with
        | none => rw [ho] at hh; simp at hh
        | some o =>
          rw [ho] at hh
          exact hI.ne y hy _ hj (by rw [hh.1.1.1]; exact e) (Deps.at (hcl x.1 o ho hs') y.1 hh.2) hsj (by rw [hh.1.1.1, h1, e']; exact hv.symm)
      exact ⟨B', h1, (hk B' hne).trans h2⟩

theorem DI.full (hI : DI n a0 w00 (dstsOf l) Ti Ai Oi M C S a w) {i j : Nat} {cs : List Value} (hj : (j, t, s, ty) ∈ Ai) (hsj : S j = true) (hi : (i, t, s, ty) ∈ Oi) (hsi : S i = true) (hC : C.lookup t = some cs) :
    ∃ B, a.tmps.getD t undef = .pointer (some ⟨B, 0, none⟩) ∧ w00.heap.size ≤ B ∧ Blk w B cs.toArray ty := by
  obtain ⟨B, h1, h2⟩ := hI.did _ hi hsi cs hC
  obtain ⟨B', h3, h4, _⟩ := hI.new _ hj hsj
  simp only at h1 h3
  rw [h1] at h3
  simp at h3
  subst h3
  exact ⟨B, h1, h4, h2⟩

theorem fr_outer {L : List (Tmp × Value)} (hF : Fr n a0 L) (hL : (L.all fun p => !(dstsOf l).contains p.1) = true) (hI : DI n a0 w00 (dstsOf l) Ti Ai Oi M C S a w) : Fr n a L := by
  refine ⟨hI.size, hI.defers, fun t v hl => ?_⟩
  have hmem : ∃ p ∈ L, p.1 = t := by
    clear hL hF
    induction L with
    | nil => simp at hl
    | cons x r ih =>
      by_cases e : t = x.1
      · exact ⟨x, by simp, e.symm⟩
      · have e' : (t == x.1) = false := beq_false_of_ne e
        rw [List.lookup_cons, e'] at hl
        obtain ⟨p, hp, he⟩ := ih hl
        exact ⟨p, by simp [hp], he⟩
  obtain ⟨p, hp, rfl⟩ := hmem
  have hn := List.all_eq_true.1 hL p hp
  rw [hI.outer p.1 (by simpa using hn)]
  exact hF.sl _ _ hl
theorem fr_draw3 {P : Program} {Q : Exit → Act → World → Prop} {id : Nat} {L : List (Tmp × Value)} (Ti : List (Nat × Tmp)) (Ai Oi : List (Nat × Tmp × Nat × TypeId)) (M : List (Tmp × Value)) (C : List (Tmp × List Value))
    (hm : P.follows .mixedOrders = true) (hF : Fr n a L) (hL : (L.all fun p => !(dstsOf l).contains p.1) = true) (hB : ((backB 0 l && (l.all fun o => o.guard.isNone)) && diB l n Ti Ai Oi) = true)
    (hst : diB l n Ti Ai Oi = true → StepsOk P l (DI n a w (dstsOf l) Ti Ai Oi M C) 0 l)
    (hend : ∀ S a' w', (∀ j, j < l.length → S j = true) → DI n a w (dstsOf l) Ti Ai Oi M C S a' w' → Fr n a' L → Q .normal a' w') : (Code.region id l.toArray true).wp P Q a w := by
  rw [Bool.and_eq_true] at hB
  refine draw_inv (DI n a w (dstsOf l) Ti Ai Oi M C) hm hB.1 ?_ (hst hB.2) (fun S a' w' hS hI => hend S a' w' hS hI ?_)
  · exact ⟨hF.size, hF.defers, fun _ _ => rfl, drewN_below (m := 1) (Below.refl _ _), fun _ _ h => (by cases h), fun _ _ h => (by cases h), fun _ _ _ _ _ h => (by cases h), fun _ _ h => (by cases h)⟩
  · exact fr_outer hF hL hI

/-- The store of a struct into a box, where its order is drawn. -/
theorem wp_fill {Q : Exit → Act → World → Prop} {K : Act → World → Prop} {B : Nat} {c : Array Value} {bt ty2 ty3 : TypeId} {cells : List Value} {x y : Tmp} {pos : String} {aft : Array Edge} (hB : Blk w B c bt)
    (hx : a.tmps.getD x undef = .pointer (some ⟨B, 0, none⟩)) (hy : a.tmps.getD y undef = .agg cells.toArray) (hi : (Try.prog.info? ty2).map (·.size) = some cells.length) (h1 : cells.all (·.oneCell') = true) (hs : cells.length = c.size)
    (hK : K a (w.setCells B 0 cells)) : Oper.wp Try.prog ⟨none, .store ty2 (.tmp x) (.tmp y), ty3, pos, aft, none⟩ a w K Q := by
  have e : a.eval (.tmp x) = .pointer (some ⟨B, 0, none⟩) := hx
  have e2 : a.eval (.tmp y) = .agg cells.toArray := hy
  have := run_storeAt_mid (P := Try.prog) w B 0 ty2 cells.toArray (by simpa using thereOf hB 0 cells.length (by omega)) (by simpa using hi) (by simpa using h1)
  unfold Oper.wp execOp
  simp only [e, e2, Sem.run_bind, this, Result.andThen_ok, Sem.run_pure]
  rw [Oper.upon_skip]; simpa [Act.put] using hK

theorem Wd.add2 {w0 : World} {Bs : List (Nat × Array Value × TypeId)} (h : Wd w0 w Bs) (h0 : Wd w0 w00 Bs) {B B' : Nat} {c c' : Array Value} {t t' : TypeId} (hb : Blk w B c t) (hb' : Blk w B' c' t') (hne : B ≠ B') (hB : w00.heap.size ≤ B) (hB' : w00.heap.size ≤ B') :
    Wd w0 w ((B, c, t) :: (B', c', t') :: Bs) := by
  have h1 := h.add hb' h0 hB'
  have h2 := h.add hb h0 hB
  refine ⟨h.bel, fun i x hx => ?_, fun i x hx => ?_, fun i j x y hx hy e => ?_⟩
  · cases i with
    | zero => simp at hx; subst hx; exact hb
    | succ i => exact h1.blk i x (by simpa using hx)
  · cases i with
    | zero => exact h2.new 0 x (by simpa using hx)
    | succ i => exact h1.new i x (by simpa using hx)
  · have key : ∀ (k : Nat) (z : Nat × Array Value × TypeId), ((B', c', t') :: Bs)[k]? = some z → z.1 ≠ B := fun k z hz e => by
      cases k with
      | zero => simp at hz; subst hz; exact hne e.symm
      | succ k =>
        have := h2.nd (k + 1) 0 z (B, c, t) (by simpa using hz) (by simp) e
        omega
    cases i with
    | zero =>
      cases j with
      | zero => rfl
      | succ j => simp at hx; subst hx; exact absurd e.symm (key j y (by simpa using hy))
    | succ i =>
      cases j with
      | zero => simp at hy; subst hy; exact absurd e (key i x (by simpa using hx))
      | succ j => rw [h1.nd i j x y (by simpa using hx) (by simpa using hy) e]
end
end Go.Proofs.Ytmnmnokkojcodab
