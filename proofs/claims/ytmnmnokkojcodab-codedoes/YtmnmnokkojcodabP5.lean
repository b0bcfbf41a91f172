import Derived.Test.YtmnmnokkojcodabP4
import Derived.Laws.CopyOwn
import Derived.Deep.Upon
/-
  A row that is filled by and by.
-/
namespace Go.Proofs.Ytmnmnokkojcodab
open Go.RowKit
set_option linter.unusedVariables false

theorem blk_setCells {B : Nat} {t : TypeId} : ∀ (vs : List Value) (w : World) (c : Array Value) (j : Nat), Blk w B c t → j + vs.length ≤ c.size → Blk (w.setCells B j vs) B (spliced c j vs) t
  | [], w, c, j, h, hs => by
    have : spliced c j [] = c := by unfold spliced; simp
    rw [this]; exact h
  | v :: vs, w, c, j, h, hs => by
    have := blk_setCells vs (w.setCell ⟨B, j, none⟩ v) (c.setIfInBounds j v) (j + 1) (blockSet h j v) (by simp at hs ⊢; omega)
    rw [spliced_cons _ _ _ _ hs] at this
    exact this
theorem below_setCells {B b : Nat} (hb : B ≤ b) : ∀ (vs : List Value) (w w0 : World) (j : Nat), Below B w0 w → Below B w0 (w.setCells b j vs)
  | [], w, w0, j, h => h
  | v :: vs, w, w0, j, h => below_setCells hb vs _ _ _ (h.setCell hb v)
theorem grown_setCells (w : World) (b j : Nat) (vs : List Value) : w.grownBy (w.setCells b j vs) (some b) := by
  have h := below_setCells (Nat.zero_le b) vs w w j (Below.refl 0 w)
  exact ⟨h.os, h.tape, h.output, h.size, fun k hk hne => setCells_other (fun e => hne (by rw [e])) vs j w⟩

section
variable {α : Type} {A : Lay α} {e : TypeId} {w : World} {lo g n : Nat} {l : List α} {xs : List Value}
/-- One more. -/
theorem ARow.fill (h : ARow A e w lo (.slice (some ⟨g, 0, none⟩) l.length n) l xs) {x : α} {ds : List Value} (hx : A.In w (fun k => lo ≤ k ∧ k ≠ g) x ds) (hq : l.length < n) :
    ARow A e (w.setCells g (l.length * A.size) ds) lo (.slice (some ⟨g, 0, none⟩) (l.length + 1) n) (l ++ [x]) (xs ++ ds) := by
  have hds := A.len hx
  refine ARow.push h (Lay.mono hx (fun k hk _ => ⟨hk.1, fun e => hk.2 (by simpa [Value.ownBlock] using e.symm)⟩)) (grown_setCells w g _ ds) (.inl rfl) ?_
  obtain ⟨hl, h2⟩ := h.own
  rcases h2 with ⟨h', _⟩ | ⟨g', cap', cur, h', hb, hg, hnc, hcm, hcs, htake⟩
  · simp at h'
  · simp only [Value.slice.injEq, Option.some.injEq, Addr.mk.injEq, and_true, true_and] at h'
    obtain ⟨rfl, rfl⟩ := h'
    have hm : (l.length + 1) * A.size ≤ n * A.size := Nat.mul_le_mul_right _ hq
    rw [Nat.add_mul, Nat.one_mul] at hm
    refine ⟨by rw [List.length_append, hl, hds, Nat.add_mul, Nat.one_mul], .inr ⟨g, n, spliced cur (l.length * A.size) ds, rfl, hb, blk_setCells ds w cur _ hg (by omega), hq, hcm, ?_, ?_⟩⟩
    · rw [← hcs]; unfold spliced; simp; omega
    · unfold spliced
      rw [htake, Nat.add_mul, Nat.one_mul]
      rw [show l.length * A.size + A.size = (xs ++ ds).length by rw [List.length_append, hl, hds], List.toList_toArray, ← List.append_assoc]
      exact List.take_left' rfl
end
end Go.Proofs.Ytmnmnokkojcodab
/-
  A region that draws its order, by an invariant over what is done: operations of one value each, new boxes, and stores that fill them. No function of the program is spoken of.
-/
namespace Go.Proofs.Ytmnmnokkojcodab
open Go.RowKit
set_option linter.unusedVariables false
set_option linter.unusedSimpArgs false

section
variable {P : Program} {Q : Exit → Act → World → Prop}
def Closed (l : List Oper) (S : Nat → Bool) : Prop := ∀ (j : Nat) (o : Oper), l[j]? = some o → S j = true → ∀ e ∈ o.after, Region.binds .any e = true → S e.on = true
def Deps (o : Oper) (S : Nat → Bool) : Prop := ∀ e ∈ o.after, Region.binds .any e = true → S e.on = true
theorem Deps.at {o : Oper} {S : Nat → Bool} (h : Deps o S) (j : Nat) (hw : waits1 o j = true) : S j = true := by
  obtain ⟨e, he, hb, rfl⟩ := waits1_at hw
  exact h e he hb
def plus (i : Nat) (S : Nat → Bool) : Nat → Bool := fun j => j == i || S j
/-- Each operation keeps it. -/
def StepsOk (P : Program) (l : List Oper) (I : (Nat → Bool) → Act → World → Prop) : Nat → List Oper → Prop
  | _, [] => True
  | i, o :: r => (∀ (S : Nat → Bool) (a : Act) (w : World), S i = false → Deps o S → Closed l S → I S a w → ∀ K : Act → World → Prop, (∀ a' w', I (plus i S) a' w' → K a' w') → o.wp P a w K (fun _ _ _ => False)) ∧ StepsOk P l I (i + 1) r
theorem steps_at {l : List Oper} {I : (Nat → Bool) → Act → World → Prop} : ∀ (r : List Oper) (k i : Nat) (o : Oper), StepsOk P l I k r → r[i]? = some o →
    ∀ (S : Nat → Bool) (a : Act) (w : World), S (k + i) = false → Deps o S → Closed l S → I S a w → ∀ K : Act → World → Prop, (∀ a' w', I (plus (k + i) S) a' w' → K a' w') → o.wp P a w K (fun _ _ _ => False)
  | [], _, _, _, _, h => by simp at h
  | x :: r, k, 0, o, h, ho => by simp at ho; subst ho; exact h.1
  | x :: r, k, i + 1, o, h, ho => by
    simp at ho
    have := steps_at r (k + 1) i o h.2 ho
    rwa [show k + 1 + i = k + (i + 1) by omega] at this

theorem wpAny_inv {l : List Oper} (hb : backB 0 l = true) (hg : (l.all fun o => o.guard.isNone) = true) (I : (Nat → Bool) → Act → World → Prop) (hst : StepsOk P l I 0 l)
    (hend : ∀ S a w, (∀ j, j < l.length → S j = true) → I S a w → Q .normal a w) :
    ∀ (fuel : Nat) (listed : Array Bool) (a : Act) (w : World), listed.size = l.length → (listed.toList.filter (· == false)).length ≤ fuel → Closed l (fun j => listed.getD j false) → I (fun j => listed.getD j false) a w →
      wpAny P .any l.toArray Q fuel listed a w := by
  have fin : ∀ (listed : Array Bool) (a : Act) (w : World), listed.size = l.length → Region.ready .any l.toArray listed = [] → I (fun j => listed.getD j false) a w → Q .normal a w := by
    intro listed a w hs hr hI
    refine hend _ a w ?_ hI
    intro j
    induction j using Nat.strongRecOn with
    | _ j ih =>
      intro hj
      cases hc : listed.getD j false with
      | true => rfl
      | false =>
        exfalso
        have hj' : j < listed.size := by omega
        have hnt : listed.getD j true = false := by simp [Array.getD, hj'] at hc ⊢; exact hc
        have : j ∈ Region.ready .any l.toArray listed := ready_mem.2 ⟨by simpa using hj, hnt, l[j], by simp [hj], fun e he hbd => by
          have := back_at l 0 j l[j] hb (by simp [hj]) e he hbd
          exact ih e.on (by omega) (by omega)⟩
        rw [hr] at this; cases this
  intro fuel
  induction fuel with
  | zero =>
    intro listed a w hs hf hcl hI
    have hr : Region.ready .any l.toArray listed = [] := by
      rw [List.eq_nil_iff_forall_not_mem]
      intro i hi
      obtain ⟨h1, h2, _⟩ := ready_mem.1 hi
      have hlt : i < l.length := by simpa using h1
      have : listed[i]'(by omega) = false := by
        simp [Array.getD, show i < listed.size by omega] at h2; exact h2
      have hm : false ∈ listed.toList.filter (· == false) := List.mem_filter.2 ⟨by rw [← this]; simp, by simp⟩
      have := List.length_pos_of_mem hm
      omega
    exact ⟨hr, fin listed a w hs hr hI⟩
  | succ fuel ih =>
    intro listed a w hs hf hcl hI
    refine ⟨fun hr => fin listed a w hs hr hI, fun i hi => ?_⟩
    obtain ⟨h1, h2, o, ho, hdep⟩ := ready_mem.1 hi
    have hlt : i < l.length := by simpa using h1
    have hil : i < listed.size := by omega
    have hun' : listed[i] = false := by simp [Array.getD, hil] at h2; exact h2
    have hun : listed.getD i false = false := by simp [Array.getD, hil, hun']
    have hlen : ((listed.setIfInBounds i true).toList.filter (· == false)).length ≤ fuel := by
      have h3 := filter_set listed.toList i (by simpa using hil) (by simpa using hun')
      rw [Array.toList_setIfInBounds]
      omega
    have hfun : (fun j => (listed.setIfInBounds i true).getD j false) = plus i (fun j => listed.getD j false) := by
      funext j
      unfold plus
      by_cases e : j = i
      · subst e; simp [Array.getD, hil]
      · have hne : i ≠ j := fun x => e x.symm
        rw [Array.getD_eq_getD_getElem?, Array.getElem?_setIfInBounds_ne hne, ← Array.getD_eq_getD_getElem?]
        simp [e]
    unfold wpOp
    rw [ho]
    simp only
    have hgo : o.guard = none := by
      have := List.all_eq_true.1 hg o (List.mem_of_getElem? (by simpa using ho))
      simpa using this
    have hw : Region.wanted o (yielded l.toArray a.tmps) = true := by unfold Region.wanted; rw [hgo]
    rw [hw, if_pos rfl]
    have hst' := steps_at l 0 i o hst (by simpa using ho) (fun j => listed.getD j false) a w (by rw [Nat.zero_add]; exact hun) hdep hcl hI
    rw [Nat.zero_add] at hst'
    refine .inl (wpq (fun a' w' hh => hh) (hst' _ fun a' w' hI' => ?_))
    refine ih _ _ _ (by simpa using hs) hlen ?_ (by rw [hfun]; exact hI')
    rw [hfun]
    intro j oj hj hS e he hbd
    unfold plus at hS ⊢
    by_cases e' : j = i
    · subst e'
      have hjo : some oj = some o := by rw [← hj]; simpa using ho
      cases hjo
      have := hdep e he hbd
      simp [this]
    · have : (j == i) = false := by simpa using e'
      rw [this, Bool.false_or] at hS
      have := hcl j oj hj hS e he hbd
      simp only at this
      simp [this]

theorem draw_inv {id : Nat} {l : List Oper} {a : Act} {w : World} (I : (Nat → Bool) → Act → World → Prop) (hm : P.follows .mixedOrders = true) (hB : (backB 0 l && (l.all fun o => o.guard.isNone)) = true) (h0 : I (fun _ => false) a w.drew) (hst : StepsOk P l I 0 l)
    (hend : ∀ S a w, (∀ j, j < l.length → S j = true) → I S a w → Q .normal a w) : (Code.region id l.toArray true).wp P Q a w := by
  rw [Bool.and_eq_true] at hB
  have e0 : (fun j => (Array.replicate l.length false).getD j false) = fun _ => false := by
    funext j
    rw [Array.getD_eq_getD_getElem?, Array.getElem?_replicate]
    split <;> rfl
  have key := wpAny_inv (Q := Q) hB.1 hB.2 I hst hend l.length (Array.replicate l.length false) a w.drew (by simp) (Nat.le_trans (List.length_filter_le _ _) (by simp)) (by rw [e0]; intro j o _ h; cases h) (by rw [e0]; exact h0)
  refine wp_region_any hm ?_
  simpa using key
end

/-! ### boxes and stores -/

/-- What is known when the operations S are done: of each slot of Ti its value (M), of each of Ai a new box, of each store of Oi that its box is filled (C). -/
structure DI (n : Nat) (a0 : Act) (w00 : World) (ds : List Tmp) (Ti : List (Nat × Tmp)) (Ai : List (Nat × Tmp × Nat × TypeId)) (Oi : List (Nat × Tmp × Nat × TypeId)) (M : List (Tmp × Value)) (C : List (Tmp × List Value)) (S : Nat → Bool) (a : Act) (w : World) : Prop where
  size : a.tmps.size = n
  defers : a.defers = []
  outer : ∀ t, ds.contains t = false → a.tmps.getD t undef = a0.tmps.getD t undef
  bel : Below w00.heap.size w00 w
  vals : ∀ x ∈ Ti, S x.1 = true → ∀ v, M.lookup x.2 = some v → a.tmps.getD x.2 undef = v
  new : ∀ x ∈ Ai, S x.1 = true → ∃ B, a.tmps.getD x.2.1 undef = .pointer (some ⟨B, 0, none⟩) ∧ w00.heap.size ≤ B ∧ ∃ c, Blk w B c x.2.2.2 ∧ c.size = x.2.2.1
  ne : ∀ x ∈ Ai, ∀ y ∈ Ai, x.2.1 ≠ y.2.1 → S x.1 = true → S y.1 = true → a.tmps.getD x.2.1 undef ≠ a.tmps.getD y.2.1 undef
  did : ∀ x ∈ Oi, S x.1 = true → ∀ c, C.lookup x.2.1 = some c → ∃ B, a.tmps.getD x.2.1 undef = .pointer (some ⟨B, 0, none⟩) ∧ Blk w B c.toArray x.2.2.2

def diB (l : List Oper) (n : Nat) (Ti : List (Nat × Tmp)) (Ai Oi : List (Nat × Tmp × Nat × TypeId)) : Bool :=
  (nodupB (Ti.map (·.1)) && nodupB (Ai.map (·.1)) && nodupB (Oi.map (·.1))) && (nodupB (Ti.map (·.2) ++ Ai.map (·.2.1)) && nodupB (Oi.map (·.2.1)) && ((Ti.map (·.2) ++ Ai.map (·.2.1)).all fun t => decide (t < n) && (dstsOf l).contains t) &&
  (Oi.all fun x => Ai.any fun y => y.2.1 == x.2.1 && y.2.2.1 == x.2.2.1 && y.2.2.2 == x.2.2.2 && (match l[x.1]? with | some o => waits1 o y.1 | none => false)))

theorem nodupB_mem {l1 l2 : List Tmp} : ∀ {t : Tmp}, nodupB (l1 ++ l2) = true → t ∈ l1 → t ∈ l2 → False := by
  induction l1 with
  | nil => intro t _ h; cases h
  | cons x r ih =>
    intro t h h1 h2
    simp only [List.cons_append, nodupB, Bool.and_eq_true, Bool.not_eq_true'] at h
    rcases List.mem_cons.1 h1 with rfl | h1
    · have := h.1
      simp at this
      exact this.2 h2
    · exact ih h.2 h1 h2
theorem nodupB_map {α : Type} {f : α → Tmp} : ∀ {l : List α}, nodupB (l.map f) = true → ∀ x ∈ l, ∀ y ∈ l, f x = f y → x = y
  | [], _, _, h, _, _, _ => by cases h
  | z :: r, h, x, hx, y, hy, e => by
    simp only [List.map_cons, nodupB, Bool.and_eq_true, Bool.not_eq_true'] at h
    have hz : ∀ u ∈ r, f u ≠ f z := fun u hu e => by
      have := h.1
      simp at this
      exact this u hu e
    rcases List.mem_cons.1 hx with h1 | h1
    · rcases List.mem_cons.1 hy with h2 | h2
      · rw [h1, h2]
      · exact absurd e.symm (h1 ▸ hz y h2)
    · rcases List.mem_cons.1 hy with h2 | h2
      · exact absurd e (h2 ▸ hz x h1)
      · exact nodupB_map h.2 x h1 y h2 e
theorem nodupB_left {l1 l2 : List Tmp} (h : nodupB (l1 ++ l2) = true) : nodupB l1 = true := by
  induction l1 with
  | nil => rfl
  | cons x r ih =>
    simp only [List.cons_append, nodupB, Bool.and_eq_true, Bool.not_eq_true'] at h ⊢
    refine ⟨?_, ih h.2⟩
    have := h.1
    simp at this ⊢
    exact this.1
theorem nodupB_right {l1 l2 : List Tmp} (h : nodupB (l1 ++ l2) = true) : nodupB l2 = true := by
  induction l1 with
  | nil => exact h
  | cons x r ih =>
    simp only [List.cons_append, nodupB, Bool.and_eq_true, Bool.not_eq_true'] at h
    exact ih h.2

section
variable {n i : Nat} {a0 a : Act} {w00 w w' : World} {l : List Oper} {Ti : List (Nat × Tmp)} {Ai Oi : List (Nat × Tmp × Nat × TypeId)} {M : List (Tmp × Value)} {C : List (Tmp × List Value)} {S : Nat → Bool} {t : Tmp} {v : Value} {s : Nat} {ty : TypeId}
theorem put_at {u : Tmp} (h : t < a.tmps.size) : (a.put (some t) v).tmps.getD u undef = if u = t then v else a.tmps.getD u undef := by
  by_cases e : u = t
  · subst e; simp [Act.put, Array.getD, h]
  · rw [if_neg e]
    have hne : t ≠ u := fun x => e x.symm
    rw [Array.getD_eq_getD_getElem?, Array.getD_eq_getD_getElem?]
    simp only [Act.put]
    rw [Array.getElem?_setIfInBounds_ne hne]
theorem plus_of {j : Nat} (hne : j ≠ i) (h : plus i S j = true) : S j = true := by
  have : (j == i) = false := by simpa using hne
  unfold plus at h
  rwa [this, Bool.false_or] at h

theorem DI.pure (hB : diB l n Ti Ai Oi = true) (hI : DI n a0 w00 (dstsOf l) Ti Ai Oi M C S a w) (hi : (i, t) ∈ Ti) (hv : M.lookup t = some v) (hS : S i = false) (hb : Below w.heap.size w w')
    (hiA : (Ai.all fun x => x.1 != i) = true) (hiO : (Oi.all fun x => x.1 != i) = true) : DI n a0 w00 (dstsOf l) Ti Ai Oi M C (plus i S) (a.put (some t) v) w' := by
  simp only [diB, Bool.and_eq_true] at hB
  obtain ⟨hix, ⟨⟨hnd, hndO⟩, hall⟩, hO⟩ := hB
  have htT : t ∈ Ti.map (·.2) := List.mem_map.2 ⟨(i, t), hi, rfl⟩
  have h9 := List.all_eq_true.1 hall t (List.mem_append_left _ htT)
  simp only [Bool.and_eq_true, decide_eq_true_eq] at h9
  have htn : t < a.tmps.size := by rw [hI.size]; exact h9.1
  have hneA : ∀ x ∈ Ai, x.2.1 ≠ t := fun x hx e => nodupB_mem hnd htT (e ▸ List.mem_map.2 ⟨x, hx, rfl⟩)
  have hneO : ∀ x ∈ Oi, x.2.1 ≠ t := fun x hx e => by
    obtain ⟨y, hy, hh⟩ := List.any_eq_true.1 (List.all_eq_true.1 hO x hx)
    simp only [Bool.and_eq_true, beq_iff_eq] at hh
    exact hneA y hy (hh.1.1.1.trans e)
  have hA : ∀ x ∈ Ai, plus i S x.1 = true → S x.1 = true := fun x hx h => plus_of (by have := List.all_eq_true.1 hiA x hx; simpa using this) h
  have hO' : ∀ x ∈ Oi, plus i S x.1 = true → S x.1 = true := fun x hx h => plus_of (by have := List.all_eq_true.1 hiO x hx; simpa using this) h
  refine ⟨by rw [← hI.size]; simp [Act.put], hI.defers, fun u hu => ?_, Below.andThen hI.bel hb, fun x hx hs u hu => ?_, fun x hx hs => ?_, fun x hx y hy hxy hs1 hs2 => ?_, fun x hx hs c hc => ?_⟩
  · have : u ≠ t := fun e => by subst e; rw [h9.2] at hu; cases hu
    rw [put_at htn, if_neg this]; exact hI.outer u hu
  · rw [put_at htn]
    by_cases e : x.2 = t
    · rw [if_pos e]; rw [e, hv] at hu; exact Option.some.inj hu
    · rw [if_neg e]
      refine hI.vals x hx (plus_of (fun e2 => e ?_) hs) u hu
      exact congrArg (·.2) (nodupB_map (f := fun x : Nat × Tmp => x.1) hix.1.1 x hx (i, t) hi e2)
  · obtain ⟨B, h1, h2, c, h3, h4⟩ := hI.new x hx (hA x hx hs)
    exact ⟨B, by rw [put_at htn, if_neg (hneA x hx)]; exact h1, h2, c, h3.below hb, h4⟩
  · rw [put_at htn, if_neg (hneA x hx), put_at htn, if_neg (hneA y hy)]
    exact hI.ne x hx y hy hxy (hA x hx hs1) (hA y hy hs2)
  · obtain ⟨B, h1, h2⟩ := hI.did x hx (hO' x hx hs) c hc
    exact ⟨B, by rw [put_at htn, if_neg (hneO x hx)]; exact h1, h2.below hb⟩

theorem DI.alloc (hB : diB l n Ti Ai Oi = true) (hI : DI n a0 w00 (dstsOf l) Ti Ai Oi M C S a w) (hi : (i, t, s, ty) ∈ Ai) {c : Array Value} (hc : c.size = s) (hS : S i = false) (hcl : Closed l S)
    (hiT : (Ti.all fun x => x.1 != i) = true) (hiO : (Oi.all fun x => x.1 != i) = true) : DI n a0 w00 (dstsOf l) Ti Ai Oi M C (plus i S) (a.put (some t) (.pointer (some ⟨w.heap.size, 0, none⟩))) (w.alloc (.cells c ty)) := by
  simp only [diB, Bool.and_eq_true] at hB
  obtain ⟨hix, ⟨⟨hnd, hndO⟩, hall⟩, hO⟩ := hB
  have hb : Below w.heap.size w (w.alloc (.cells c ty)) := bel1 w _
  have htA : t ∈ Ai.map (·.2.1) := List.mem_map.2 ⟨(i, t, s, ty), hi, rfl⟩
  have h9 := List.all_eq_true.1 hall t (List.mem_append_right _ htA)
  simp only [Bool.and_eq_true, decide_eq_true_eq] at h9
  have htn : t < a.tmps.size := by rw [hI.size]; exact h9.1
  have hneT : ∀ x ∈ Ti, x.2 ≠ t := fun x hx e => nodupB_mem hnd (e ▸ List.mem_map.2 ⟨x, hx, rfl⟩) htA
  have one : ∀ x ∈ Ai, x.2.1 = t → x = (i, t, s, ty) := fun x hx e => nodupB_map (f := fun x : Nat × Tmp × Nat × TypeId => x.2.1) (nodupB_right hnd) x hx _ hi e
  have old : ∀ x ∈ Ai, x.2.1 ≠ t → plus i S x.1 = true → S x.1 = true := fun x hx hne h => plus_of (fun e => hne (congrArg (·.2.1) (nodupB_map (f := fun x : Nat × Tmp × Nat × TypeId => x.1) hix.1.2 x hx _ hi e))) h
  refine ⟨by rw [← hI.size]; simp [Act.put], hI.defers, fun u hu => ?_, Below.andThen hI.bel hb, fun x hx hs u hu => ?_, fun x hx hs => ?_, fun x hx y hy hxy hs1 hs2 => ?_, fun x hx hs c' hc' => ?_⟩
  · have : u ≠ t := fun e => by subst e; rw [h9.2] at hu; cases hu
    rw [put_at htn, if_neg this]; exact hI.outer u hu
  · rw [put_at htn, if_neg (hneT x hx)]
    exact hI.vals x hx (plus_of (by have := List.all_eq_true.1 hiT x hx; simpa using this) hs) u hu
  · by_cases e : x.2.1 = t
    · rw [one x hx e]
      exact ⟨w.heap.size, by rw [put_at htn, if_pos rfl], hI.bel.size, c, Blk.new w c ty, hc⟩
    · obtain ⟨B, h1, h2, c', h3, h4⟩ := hI.new x hx (old x hx e hs)
      exact ⟨B, by rw [put_at htn, if_neg e]; exact h1, h2, c', h3.below hb, h4⟩
  · have lt : ∀ x ∈ Ai, x.2.1 ≠ t → plus i S x.1 = true → a.tmps.getD x.2.1 undef ≠ .pointer (some ⟨w.heap.size, 0, none⟩) := fun x hx e hs h => by
      obtain ⟨B, h1, h2, c', h3, h4⟩ := hI.new x hx (old x hx e hs)
      rw [h1] at h
      simp at h
      have := h3.lt
      omega
    by_cases e1 : x.2.1 = t
    · by_cases e2 : y.2.1 = t
      · exact absurd (e1.trans e2.symm) hxy
      · rw [put_at htn, if_pos e1, put_at htn, if_neg e2]
        exact fun h => lt y hy e2 hs2 h.symm
    · by_cases e2 : y.2.1 = t
      · rw [put_at htn, if_neg e1, put_at htn, if_pos e2]
        exact lt x hx e1 hs1
      · rw [put_at htn, if_neg e1, put_at htn, if_neg e2]
        exact hI.ne x hx y hy hxy (old x hx e1 hs1) (old y hy e2 hs2)
  · have hs' : S x.1 = true := plus_of (by have := List.all_eq_true.1 hiO x hx; simpa using this) hs
    have hne : x.2.1 ≠ t := fun e => by
      obtain ⟨y, hy, hh⟩ := List.any_eq_true.1 (List.all_eq_true.1 hO x hx)
      simp only [Bool.and_eq_true, beq_iff_eq] at hh
      have hyt := one y hy (hh.1.1.1.trans e)
      cases ho : l[x.1]? with
      | none => rw [ho] at hh; simp at hh
      | some o =>
        rw [ho] at hh
        have := Deps.at (hcl x.1 o ho hs') y.1 hh.2
        rw [hyt] at this
        simp only at this
        rw [hS] at this
        cases this
    obtain ⟨B, h1, h2⟩ := hI.did x hx hs' c' hc'
    exact ⟨B, by rw [put_at htn, if_neg hne]; exact h1, h2.below hb⟩

theorem DI.box (hI : DI n a0 w00 (dstsOf l) Ti Ai Oi M C S a w) (hi : (i, t, s, ty) ∈ Ai) (hs : S i = true) : ∃ B, a.tmps.getD t undef = .pointer (some ⟨B, 0, none⟩) ∧ w00.heap.size ≤ B ∧ ∃ c, Blk w B c ty ∧ c.size = s := hI.new _ hi hs

theorem blk_all {w : World} {B : Nat} {c : Array Value} {ty : TypeId} {cs : List Value} (h : Blk w B c ty) (hs : c.size = cs.length) : Blk (w.setCells B 0 cs) B cs.toArray ty := by
  have := blk_setCells cs w c 0 h (by omega)
  have e : spliced c 0 cs = cs.toArray := by
    unfold spliced
    have h9 : c.toList.drop (0 + cs.length) = [] := List.drop_of_length_le (by simp [hs])
    rw [h9]; simp
  rwa [e] at this

theorem DI.store (hB : diB l n Ti Ai Oi = true) (hI : DI n a0 w00 (dstsOf l) Ti Ai Oi M C S a w) (hi : (i, t, s, ty) ∈ Oi) {B j : Nat} {c : Array Value} {cs : List Value} (hj : (j, t, s, ty) ∈ Ai) (hsj : S j = true) (hv : a.tmps.getD t undef = .pointer (some ⟨B, 0, none⟩)) (hBk : Blk w B c ty) (hcs : c.size = s) (hlo : w00.heap.size ≤ B) (hC : C.lookup t = some cs) (hln : cs.length = s) (hS : S i = false) (hcl : Closed l S)
    (hiT : (Ti.all fun x => x.1 != i) = true) (hiA : (Ai.all fun x => x.1 != i) = true) : DI n a0 w00 (dstsOf l) Ti Ai Oi M C (plus i S) a (w.setCells B 0 cs) := by
  simp only [diB, Bool.and_eq_true] at hB
  obtain ⟨hix, ⟨⟨hnd, hndO⟩, hall⟩, hO⟩ := hB
  have hk := keep1_setCells w B 0 cs
  have hnew := blk_all (cs := cs) hBk (by omega)
  have hA : ∀ x ∈ Ai, plus i S x.1 = true → S x.1 = true := fun x hx h => plus_of (by have := List.all_eq_true.1 hiA x hx; simpa using this) h
  refine ⟨hI.size, hI.defers, hI.outer, below_setCells hlo cs w w00 0 hI.bel, fun x hx hs u hu => ?_, fun x hx hs => ?_, fun x hx y hy hxy hs1 hs2 => hI.ne x hx y hy hxy (hA x hx hs1) (hA y hy hs2), fun x hx hs c' hc' => ?_⟩
  · exact hI.vals x hx (plus_of (by have := List.all_eq_true.1 hiT x hx; simpa using this) hs) u hu
  · obtain ⟨B', h1, h2, c', h3, h4⟩ := hI.new x hx (hA x hx hs)
    by_cases e : B' = B
    · subst e
      have : some (Obj.cells c' x.2.2.2 (0, 0)) = some (Obj.cells c ty (0, 0)) := by rw [← h3, ← hBk]
      simp at this
      obtain ⟨rfl, hty⟩ := this
      exact ⟨B', h1, h2, _, by rw [hty]; exact hnew, by simp; omega⟩
    · exact ⟨B', h1, h2, c', (hk B' e).trans h3, h4⟩
  · by_cases e : x.2.1 = t
    · have hx' := nodupB_map (f := fun x : Nat × Tmp × Nat × TypeId => x.2.1) hndO x hx _ hi e
      subst hx'
      simp only at hc' ⊢
      rw [hC] at hc'
      cases hc'
      exact ⟨B, hv, hnew⟩
    · have hs' : S x.1 = true := plus_of (fun e' => e (congrArg (·.2.1) (nodupB_map (f := fun x : Nat × Tmp × Nat × TypeId => x.1) hix.2 x hx _ hi e'))) hs
      obtain ⟨B', h1, h2⟩ := hI.did x hx hs' c' hc'
      have hne : B' ≠ B := fun e' => by
        obtain ⟨y, hy, hh⟩ := List.any_eq_true.1 (List.all_eq_true.1 hO x hx)
        simp only [Bool.and_eq_true, beq_iff_eq] at hh
        cases ho : l[x.1]? with
        | none => rw [ho] at hh; simp at hh
        | some o =>
          rw [ho] at hh
          exact hI.ne y hy _ hj (by rw [hh.1.1.1]; exact e) (Deps.at (hcl x.1 o ho hs') y.1 hh.2) hsj (by rw [hh.1.1.1, h1, e']; exact hv.symm)
      exact ⟨B', h1, (hk B' hne).trans h2⟩

theorem DI.full (hI : DI n a0 w00 (dstsOf l) Ti Ai Oi M C S a w) {i j : Nat} {cs : List Value} (hj : (j, t, s, ty) ∈ Ai) (hsj : S j = true) (hi : (i, t, s, ty) ∈ Oi) (hsi : S i = true) (hC : C.lookup t = some cs) :
    ∃ B, a.tmps.getD t undef = .pointer (some ⟨B, 0, none⟩) ∧ w00.heap.size ≤ B ∧ Blk w B cs.toArray ty := by
  obtain ⟨B, h1, h2⟩ := hI.did _ hi hsi cs hC
  obtain ⟨B', h3, h4, _⟩ := hI.new _ hj hsj
  simp only at h1 h3
  rw [h1] at h3
  simp at h3
  subst h3
  exact ⟨B, h1, h4, h2⟩

theorem fr_outer {L : List (Tmp × Value)} (hF : Fr n a0 L) (hL : (L.all fun p => !(dstsOf l).contains p.1) = true) (hI : DI n a0 w00 (dstsOf l) Ti Ai Oi M C S a w) : Fr n a L := by
  refine ⟨hI.size, hI.defers, fun t v hl => ?_⟩
  have hmem : ∃ p ∈ L, p.1 = t := by
    clear hL hF
    induction L with
    | nil => simp at hl
    | cons x r ih =>
      by_cases e : t = x.1
      · exact ⟨x, by simp, e.symm⟩
      · have e' : (t == x.1) = false := beq_false_of_ne e
        rw [List.lookup_cons, e'] at hl
        obtain ⟨p, hp, he⟩ := ih hl
        exact ⟨p, by simp [hp], he⟩
  obtain ⟨p, hp, rfl⟩ := hmem
  have hn := List.all_eq_true.1 hL p hp
  rw [hI.outer p.1 (by simpa using hn)]
  exact hF.sl _ _ hl
theorem fr_draw3 {P : Program} {Q : Exit → Act → World → Prop} {id : Nat} {L : List (Tmp × Value)} (Ti : List (Nat × Tmp)) (Ai Oi : List (Nat × Tmp × Nat × TypeId)) (M : List (Tmp × Value)) (C : List (Tmp × List Value))
    (hm : P.follows .mixedOrders = true) (hF : Fr n a L) (hL : (L.all fun p => !(dstsOf l).contains p.1) = true) (hB : ((backB 0 l && (l.all fun o => o.guard.isNone)) && diB l n Ti Ai Oi) = true)
    (hst : diB l n Ti Ai Oi = true → StepsOk P l (DI n a w (dstsOf l) Ti Ai Oi M C) 0 l)
    (hend : ∀ S a' w', (∀ j, j < l.length → S j = true) → DI n a w (dstsOf l) Ti Ai Oi M C S a' w' → Fr n a' L → Q .normal a' w') : (Code.region id l.toArray true).wp P Q a w := by
  rw [Bool.and_eq_true] at hB
  refine draw_inv (DI n a w (dstsOf l) Ti Ai Oi M C) hm hB.1 ?_ (hst hB.2) (fun S a' w' hS hI => hend S a' w' hS hI ?_)
  · exact ⟨hF.size, hF.defers, fun _ _ => rfl, drewN_below (m := 1) (Below.refl _ _), fun _ _ h => (by cases h), fun _ _ h => (by cases h), fun _ _ _ _ _ h => (by cases h), fun _ _ h => (by cases h)⟩
  · exact fr_outer hF hL hI

/-- The store of a struct into a box, where its order is drawn. -/
theorem wp_fill {Q : Exit → Act → World → Prop} {K : Act → World → Prop} {B : Nat} {c : Array Value} {bt ty2 ty3 : TypeId} {cells : List Value} {x y : Tmp} {pos : String} {aft : Array Edge} (hB : Blk w B c bt)
    (hx : a.tmps.getD x undef = .pointer (some ⟨B, 0, none⟩)) (hy : a.tmps.getD y undef = .agg cells.toArray) (hi : (Try.prog.info? ty2).map (·.size) = some cells.length) (h1 : cells.all (·.oneCell') = true) (hs : cells.length = c.size)
    (hK : K a (w.setCells B 0 cells)) : Oper.wp Try.prog ⟨none, .store ty2 (.tmp x) (.tmp y), ty3, pos, aft, none⟩ a w K Q := by
  have e : a.eval (.tmp x) = .pointer (some ⟨B, 0, none⟩) := hx
  have e2 : a.eval (.tmp y) = .agg cells.toArray := hy
  have := run_storeAt_mid (P := Try.prog) w B 0 ty2 cells.toArray (by simpa using thereOf hB 0 cells.length (by omega)) (by simpa using hi) (by simpa using h1)
  unfold Oper.wp execOp
  simp only [e, e2, Sem.run_bind, this, Result.andThen_ok, Sem.run_pure]
  rw [Oper.upon_skip]; simpa [Act.put] using hK

theorem Wd.add2 {w0 : World} {Bs : List (Nat × Array Value × TypeId)} (h : Wd w0 w Bs) (h0 : Wd w0 w00 Bs) {B B' : Nat} {c c' : Array Value} {t t' : TypeId} (hb : Blk w B c t) (hb' : Blk w B' c' t') (hne : B ≠ B') (hB : w00.heap.size ≤ B) (hB' : w00.heap.size ≤ B') :
    Wd w0 w ((B, c, t) :: (B', c', t') :: Bs) := by
  have h1 := h.add hb' h0 hB'
  have h2 := h.add hb h0 hB
  refine ⟨h.bel, fun i x hx => ?_, fun i x hx => ?_, fun i j x y hx hy e => ?_⟩
  · cases i with
    | zero => simp at hx; subst hx; exact hb
    | succ i => exact h1.blk i x (by simpa using hx)
  · cases i with
    | zero => exact h2.new 0 x (by simpa using hx)
    | succ i => exact h1.new i x (by simpa using hx)
  · have key : ∀ (k : Nat) (z : Nat × Array Value × TypeId), ((B', c', t') :: Bs)[k]? = some z → z.1 ≠ B := fun k z hz e => by
      cases k with
      | zero => simp at hz; subst hz; exact hne e.symm
      | succ k =>
        have := h2.nd (k + 1) 0 z (B, c, t) (by simpa using hz) (by simp) e
        omega
    cases i with
    | zero =>
      cases j with
      | zero => rfl
      | succ j => simp at hx; subst hx; exact absurd e.symm (key j y (by simpa using hy))
    | succ i =>
      cases j with
      | zero => simp at hy; subst hy; exact absurd e (key i x (by simpa using hx))
      | succ j => rw [h1.nd i j x y (by simpa using hx) (by simpa using hy) e]
end
end Go.Proofs.Ytmnmnokkojcodab
/-
  The rule of FrI with calls that make memory: what they made lies apart from the boxes, whatever order is drawn. No function of the program is spoken of.
-/
namespace Go.Proofs.Ytmnmnokkojcodab
open Go.RowKit
set_option linter.unusedVariables false
set_option linter.unusedSimpArgs false

theorem setCells_size (b : Nat) : ∀ (vs : List Value) (w : World) (j : Nat), (w.setCells b j vs).heap.size = w.heap.size
  | [], w, j => rfl
  | v :: vs, w, j => (setCells_size b vs _ _).trans (by simp)
/-- What was made: told of the letters z, of a world and of the blocks it lies in. -/
abbrev DTab (Z : Type) := List (Nat × (Z → World → (Nat → Prop) → Prop))
def DStable {Z : Type} (D : DTab Z) : Prop := ∀ x ∈ D, ∀ z w w' O, (∀ k, O k → k < w.heap.size → w'.heap[k]? = w.heap[k]?) → x.2 z w O → x.2 z w' O
/-- .. and apart from each box. -/
def Apart (w00 : World) (Ai : List (Nat × Tmp × Nat × TypeId)) (S : Nat → Bool) (a : Act) (w : World) (O : Nat → Prop) : Prop :=
  (∀ k, O k → w00.heap.size ≤ k ∧ k < w.heap.size) ∧ ∀ y ∈ Ai, S y.1 = true → ∀ B, a.tmps.getD y.2.1 undef = .pointer (some ⟨B, 0, none⟩) → ¬ O B
/-- .. at the letters z. -/
def DMz (n : Nat) (a0 : Act) (w00 : World) (ds : List Tmp) (Ti : List (Nat × Tmp)) (Ai Oi : List (Nat × Tmp × Nat × TypeId)) {Z : Type} (M : Z → List (Tmp × Value)) (C : Z → List (Tmp × List Value)) (D : DTab Z) (z : Z) (S : Nat → Bool) (a : Act) (w : World) : Prop :=
  DI n a0 w00 ds Ti Ai Oi (M z) (C z) S a w ∧ ∀ x ∈ D, S x.1 = true → ∃ O, x.2 z w O ∧ Apart w00 Ai S a w O
def DM (n : Nat) (a0 : Act) (w00 : World) (ds : List Tmp) (Ti : List (Nat × Tmp)) (Ai Oi : List (Nat × Tmp × Nat × TypeId)) {Z : Type} (M : Z → List (Tmp × Value)) (C : Z → List (Tmp × List Value)) (D : DTab Z) (S : Nat → Bool) (a : Act) (w : World) : Prop :=
  ∃ z, DMz n a0 w00 ds Ti Ai Oi M C D z S a w

section
variable {n i : Nat} {a0 a : Act} {w00 w w' : World} {l : List Oper} {Ti : List (Nat × Tmp)} {Ai Oi : List (Nat × Tmp × Nat × TypeId)} {Z : Type} {M : Z → List (Tmp × Value)} {C : Z → List (Tmp × List Value)} {D : DTab Z} {z z' : Z} {S : Nat → Bool} {t : Tmp} {v : Value} {s : Nat} {ty : TypeId}
theorem notin (h : ((D.map (·.1)).all fun j => j != i) = true) : ∀ x ∈ D, x.1 ≠ i := fun x hx => by
  have := List.all_eq_true.1 h x.1 (List.mem_map.2 ⟨x, hx, rfl⟩)
  simpa using this
theorem slots_ne (hB : diB l n Ti Ai Oi = true) (hi : (i, t) ∈ Ti) : ∀ x ∈ Ai, x.2.1 ≠ t := by
  simp only [diB, Bool.and_eq_true] at hB
  obtain ⟨hix, ⟨⟨hnd, hndO⟩, hall⟩, hO⟩ := hB
  exact fun x hx e => nodupB_mem hnd (List.mem_map.2 ⟨(i, t), hi, rfl⟩) (e ▸ List.mem_map.2 ⟨x, hx, rfl⟩)
theorem slot_lt (hB : diB l n Ti Ai Oi = true) (ht : t ∈ Ti.map (·.2) ++ Ai.map (·.2.1)) : t < n := by
  simp only [diB, Bool.and_eq_true] at hB
  have h9 := List.all_eq_true.1 hB.2.1.2 t ht
  simp only [Bool.and_eq_true, decide_eq_true_eq] at h9
  exact h9.1
theorem Apart.pure {O : Nat → Prop} (hne : ∀ x ∈ Ai, x.2.1 ≠ t) (htn : t < a.tmps.size) (hiA : (Ai.all fun x => x.1 != i) = true) (hb : w.heap.size ≤ w'.heap.size) (h : Apart w00 Ai S a w O) : Apart w00 Ai (plus i S) (a.put (some t) v) w' O :=
  ⟨fun k hk => ⟨(h.1 k hk).1, Nat.lt_of_lt_of_le (h.1 k hk).2 hb⟩, fun y hy hs B hB => by
    rw [put_at htn, if_neg (hne y hy)] at hB
    exact h.2 y hy (plus_of (by have := List.all_eq_true.1 hiA y hy; simpa using this) hs) B hB⟩

theorem DMz.pure (hst : DStable D) (hB : diB l n Ti Ai Oi = true) (hI : DMz n a0 w00 (dstsOf l) Ti Ai Oi M C D z S a w) (hi : (i, t) ∈ Ti) (hv : (M z).lookup t = some v) (hS : S i = false) (hb : Below w.heap.size w w')
    (hiA : (Ai.all fun x => x.1 != i) = true) (hiO : (Oi.all fun x => x.1 != i) = true) (hiD' : ((D.map (·.1)).all fun j => j != i) = true) : DM n a0 w00 (dstsOf l) Ti Ai Oi M C D (plus i S) (a.put (some t) v) w' := by
  have hiD := notin hiD'
  refine ⟨z, DI.pure hB hI.1 hi hv hS hb hiA hiO, fun x hx hs => ?_⟩
  obtain ⟨O, h1, h2⟩ := hI.2 x hx (plus_of (hiD x hx) hs)
  exact ⟨O, hst x hx z w w' O (fun k _ hk => hb.block k hk) h1, h2.pure (slots_ne hB hi) (by rw [hI.1.size]; exact slot_lt hB (List.mem_append_left _ (List.mem_map.2 ⟨(i, t), hi, rfl⟩))) hiA hb.size⟩

theorem DMz.alloc (hst : DStable D) (hB : diB l n Ti Ai Oi = true) (hI : DMz n a0 w00 (dstsOf l) Ti Ai Oi M C D z S a w) (hi : (i, t, s, ty) ∈ Ai) {c : Array Value} (hc : c.size = s) (hS : S i = false) (hcl : Closed l S)
    (hiT : (Ti.all fun x => x.1 != i) = true) (hiO : (Oi.all fun x => x.1 != i) = true) (hiD' : ((D.map (·.1)).all fun j => j != i) = true) : DM n a0 w00 (dstsOf l) Ti Ai Oi M C D (plus i S) (a.put (some t) (.pointer (some ⟨w.heap.size, 0, none⟩))) (w.alloc (.cells c ty)) := by
  have hb : Below w.heap.size w (w.alloc (.cells c ty)) := bel1 w _
  have hiD := notin hiD'
  refine ⟨z, DI.alloc hB hI.1 hi hc hS hcl hiT hiO, fun x hx hs => ?_⟩
  obtain ⟨O, h1, h2⟩ := hI.2 x hx (plus_of (hiD x hx) hs)
  have htn : t < a.tmps.size := by rw [hI.1.size]; exact slot_lt hB (List.mem_append_right _ (List.mem_map.2 ⟨(i, t, s, ty), hi, rfl⟩))
  refine ⟨O, hst x hx z w _ O (fun k _ hk => hb.block k hk) h1, fun k hk => ⟨(h2.1 k hk).1, Nat.lt_of_lt_of_le (h2.1 k hk).2 hb.size⟩, fun y hy hs' B hB' hO => ?_⟩
  rw [put_at htn] at hB'
  by_cases e : y.2.1 = t
  · rw [if_pos e] at hB'
    simp at hB'
    subst hB'
    have := (h2.1 _ hO).2
    omega
  · rw [if_neg e] at hB'
    refine h2.2 y hy (plus_of (fun e' => e ?_) hs') B hB' hO
    simp only [diB, Bool.and_eq_true] at hB
    exact congrArg (·.2.1) (nodupB_map (f := fun x : Nat × Tmp × Nat × TypeId => x.1) hB.1.1.2 y hy _ hi e')

theorem DMz.store (hst : DStable D) (hB : diB l n Ti Ai Oi = true) (hI : DMz n a0 w00 (dstsOf l) Ti Ai Oi M C D z S a w) (hi : (i, t, s, ty) ∈ Oi) {B j : Nat} {c : Array Value} {cs : List Value} (hj : (j, t, s, ty) ∈ Ai) (hsj : S j = true) (hv : a.tmps.getD t undef = .pointer (some ⟨B, 0, none⟩)) (hBk : Blk w B c ty) (hcs : c.size = s) (hlo : w00.heap.size ≤ B) (hC : (C z).lookup t = some cs) (hln : cs.length = s) (hS : S i = false) (hcl : Closed l S)
    (hiT : (Ti.all fun x => x.1 != i) = true) (hiA : (Ai.all fun x => x.1 != i) = true) (hiD' : ((D.map (·.1)).all fun j => j != i) = true) : DM n a0 w00 (dstsOf l) Ti Ai Oi M C D (plus i S) a (w.setCells B 0 cs) := by
  have hiD := notin hiD'
  refine ⟨z, DI.store hB hI.1 hi hj hsj hv hBk hcs hlo hC hln hS hcl hiT hiA, fun x hx hs => ?_⟩
  obtain ⟨O, h1, h2⟩ := hI.2 x hx (plus_of (hiD x hx) hs)
  have hk := keep1_setCells w B 0 cs
  have hsz : (w.setCells B 0 cs).heap.size = w.heap.size := setCells_size B cs w 0
  refine ⟨O, hst x hx z w _ O (fun k hk' _ => hk k fun e => ?_) h1, fun k hk' => by rw [hsz]; exact h2.1 k hk', fun y hy hs' B' hB' hO => ?_⟩
  · subst e; exact h2.2 _ hj hsj k hv hk'
  · exact h2.2 y hy (plus_of (by have := List.all_eq_true.1 hiA y hy; simpa using this) hs') B' hB' hO

/-- A call that makes memory: the letters of what hangs on it may be others now. -/
theorem DMz.call (hst : DStable D) (hB : diB l n Ti Ai Oi = true) (hI : DMz n a0 w00 (dstsOf l) Ti Ai Oi M C D z S a w) (hi : (i, t) ∈ Ti) (hv : (M z').lookup t = some v) (hS : S i = false) (hcl : Closed l S) (hb : Below w.heap.size w w')
    (hiA : (Ai.all fun x => x.1 != i) = true) (hiO : (Oi.all fun x => x.1 != i) = true)
    (dp : List Nat) (hdp : (dp.all fun j => match l[j]? with | some o => waits1 o i | none => false) = true)
    (hM : ∀ x ∈ Ti, x.1 ∈ dp ∨ x.1 = i ∨ (M z).lookup x.2 = (M z').lookup x.2) (hC : ∀ x ∈ Oi, x.1 ∈ dp ∨ (C z).lookup x.2.1 = (C z').lookup x.2.1)
    (hD : ∀ x ∈ D, (x.1 = i ∧ ∃ O, x.2 z' w' O ∧ ∀ k, O k → w.heap.size ≤ k ∧ k < w'.heap.size) ∨ (x.1 ≠ i ∧ ∀ w O, x.2 z w O → x.2 z' w O)) : DM n a0 w00 (dstsOf l) Ti Ai Oi M C D (plus i S) (a.put (some t) v) w' := by
  have hno : ∀ j ∈ dp, S j = true → False := fun j hj hs => by
    have := List.all_eq_true.1 hdp j hj
    cases ho : l[j]? with
    | none => rw [ho] at this; simp at this
    | some o =>
      rw [ho] at this
      have := Deps.at (hcl j o ho hs) i this
      rw [hS] at this
      cases this
  have hI' : DI n a0 w00 (dstsOf l) Ti Ai Oi (M z') (C z') S a w := by
    refine ⟨hI.1.size, hI.1.defers, hI.1.outer, hI.1.bel, fun x hx hs u hu => ?_, hI.1.new, hI.1.ne, fun x hx hs c hc => ?_⟩
    · rcases hM x hx with h | h | h
      · exact (hno _ h hs).elim
      · rw [h, hS] at hs; cases hs
      · exact hI.1.vals x hx hs u (h.trans hu)
    · rcases hC x hx with h | h
      · exact (hno _ h hs).elim
      · exact hI.1.did x hx hs c (h.trans hc)
  have htn : t < a.tmps.size := by rw [hI.1.size]; exact slot_lt hB (List.mem_append_left _ (List.mem_map.2 ⟨(i, t), hi, rfl⟩))
  refine ⟨z', DI.pure hB hI' hi hv hS hb hiA hiO, fun x hx hs => ?_⟩
  rcases hD x hx with ⟨_, O, h1, h2⟩ | ⟨hne, h1⟩
  · refine ⟨O, h1, fun k hk => ⟨Nat.le_trans hI.1.bel.size (h2 k hk).1, (h2 k hk).2⟩, fun y hy hs' B hB' hO => ?_⟩
    rw [put_at htn, if_neg (slots_ne hB hi y hy)] at hB'
    have hs2 : S y.1 = true := plus_of (by have := List.all_eq_true.1 hiA y hy; simpa using this) hs'
    obtain ⟨B', h3, h4, c, h5, h6⟩ := hI.1.new y hy hs2
    rw [h3] at hB'
    simp at hB'
    subst hB'
    have := h5.lt
    have := (h2 _ hO).1
    omega
  · obtain ⟨O, h3, h4⟩ := hI.2 x hx (plus_of hne hs)
    exact ⟨O, hst x hx z' w w' O (fun k _ hk => hb.block k hk) (h1 w O h3), h4.pure (slots_ne hB hi) htn hiA hb.size⟩

theorem fr_draw4 {P : Program} {Q : Exit → Act → World → Prop} {id : Nat} {L : List (Tmp × Value)} (Ti : List (Nat × Tmp)) (Ai Oi : List (Nat × Tmp × Nat × TypeId)) (M : Z → List (Tmp × Value)) (C : Z → List (Tmp × List Value)) (D : DTab Z) (z0 : Z)
    (hm : P.follows .mixedOrders = true) (hF : Fr n a L) (hL : (L.all fun p => !(dstsOf l).contains p.1) = true) (hB : ((backB 0 l && (l.all fun o => o.guard.isNone)) && diB l n Ti Ai Oi) = true)
    (hst : diB l n Ti Ai Oi = true → StepsOk P l (DM n a w (dstsOf l) Ti Ai Oi M C D) 0 l)
    (hend : ∀ z S a' w', (∀ j, j < l.length → S j = true) → DMz n a w (dstsOf l) Ti Ai Oi M C D z S a' w' → Fr n a' L → Q .normal a' w') : (Code.region id l.toArray true).wp P Q a w := by
  rw [Bool.and_eq_true] at hB
  refine draw_inv (DM n a w (dstsOf l) Ti Ai Oi M C D) hm hB.1 ?_ (hst hB.2) (fun S a' w' hS ⟨z, hI⟩ => hend z S a' w' hS hI ?_)
  · exact ⟨z0, ⟨hF.size, hF.defers, fun _ _ => rfl, drewN_below (m := 1) (Below.refl _ _), fun _ _ h => (by cases h), fun _ _ h => (by cases h), fun _ _ _ _ _ h => (by cases h), fun _ _ h => (by cases h)⟩, fun _ _ h => by cases h⟩
  · exact fr_outer hF hL hI.1
end
end Go.Proofs.Ytmnmnokkojcodab
/-
  Steps over a row that the call has made: make, and the store of an element.
-/
namespace Go.Proofs.Ytmnmnokkojcodab
open Go.ChangeShapes Go.WideShapes Go.ChangeAt Go.RowKit
set_option linter.unusedVariables false
section
variable {n : Nat} {a : Act} {L : List (Tmp × Value)} {w0 w : World} {Bs : List (Nat × Array Value × TypeId)} {Q : Exit → Act → World → Prop} {ops : Array Oper} {rest : List Oper} {t : Tmp} {u v : Value} {ty ty2 ty3 : TypeId} {pos : String} {aft : Array Edge} {gd : Option (Nat × Bool)} {x y : Operand}
/-- make. -/
theorem sMake {tS e : TypeId} {i : TypeInfo} {z : Value} {size m : Nat} (hu : Try.prog.underlying tS = some (.slice e)) (hi : Try.prog.info? e = some i) (hz : i.zero = some z) (hsz : i.size = size)
    (hby : i.bytes * m ≤ 281474976710656) (hm : m ≤ maxLen) (hW : Wd w0 w Bs) (hg : Gok ops n L gd) (hx : evalL L x = some (.int .i64 (m : Int))) (ht : Nat.blt t n = true)
    (k : ∀ w' g xs, w.heap.size = g → w'.ownsRow w.heap.size e size (.slice (some ⟨g, 0, none⟩) m m) m xs → Below w.heap.size w w' → Wd w0 w' Bs → St n ((t, .slice (some ⟨g, 0, none⟩) m m) :: L) ops Q rest w') :
    St n L ops Q (⟨some t, .makeSlice tS x x, ty, pos, aft, gd⟩ :: rest) w := fun a hF => by
  obtain ⟨w', hr, ho, hgr⟩ := run_make_full (P := Try.prog) w w.heap.size tS e i z size hu hi hz hsz .i64 .i64 m hby hm (Nat.le_refl _)
  have hb : Below w.heap.size w w' := (Below.refl _ w).grown hgr (Nat.le_refl _) (fun k hk => by cases hk)
  have e0 := hF.ev hx
  refine wpList_step fun K hK => ?_
  rw [if_pos (Gok.on (o := ⟨some t, .makeSlice tS x x, ty, pos, aft, gd⟩) hF hg)]
  have h9 := hK (a.put (some t) (.slice (some ⟨w.heap.size, 0, none⟩) m m)) w' (k w' _ _ rfl ho hb (hW.below hb) _ (hF.put ht))
  unfold Oper.wp
  simp [execOp, e0, hr, Result.andThen]
  exact h9
/-- The store of a struct into a row. -/
theorem sRow {g j : Nat} {c : Array Value} {bt : TypeId} {cells : List Value} (hW : Wd w0 w Bs) (hg : w0.heap.size ≤ g) (hne : ∀ (i : Nat) x, Bs[i]? = some x → x.1 ≠ g) (hB : Blk w g c bt)
    (hx : evalL L x = some (.pointer (some ⟨g, j, none⟩))) (hy : evalL L y = some (.agg cells.toArray)) (hi : (Try.prog.info? ty2).map (·.size) = some cells.length) (h1 : cells.all (·.oneCell') = true) (hs : j + cells.length ≤ c.size)
    (k : Wd w0 (w.setCells g j cells) Bs → St n L ops Q rest (w.setCells g j cells)) : St n L ops Q (⟨none, .store ty2 x y, ty, pos, aft, none⟩ :: rest) w := fun a hF => by
  have hW' : Wd w0 (w.setCells g j cells) Bs := ⟨below_setCells hg cells w w0 j hW.bel, fun i y hy => (setCells_other (hne i y hy) cells j w).trans (hW.blk i y hy), hW.new, hW.nd⟩
  refine fr_skip hF rfl rfl (fun K hK => ?_) (k hW' a hF)
  have e := hF.ev hx
  have e2 := hF.ev hy
  have := run_storeAt_mid (P := Try.prog) w g j ty2 cells.toArray (by simpa using thereOf hB j cells.length hs) (by simpa using hi) (by simpa using h1)
  unfold Oper.wp execOp
  simp only [e, e2, Sem.run_bind, this, Result.andThen_ok, Sem.run_pure]
  rw [Oper.upon_skip]; simpa [Act.put] using hK
end
end Go.Proofs.Ytmnmnokkojcodab
/-
  ownInts, of both sides: a list of numbers in new memory.
-/
namespace Go.Proofs.Ytmnmnokkojcodab
open Go.ChangeShapes Go.WideShapes Go.ChangeAt Go.RowKit
set_option linter.unusedVariables false

/-- A list in new memory; nothing old has turned. -/
def LyOut {α : Type} (A : Lay α) (w w' : World) (l : List α) (e : Ending) : Prop := ∃ a' c', e = .returned (.slice a' l.length c') ∧ A.list.In w' (From w.heap.size) l [.slice a' l.length c'] ∧ Below w.heap.size w w'
def iv (l : List Int) : List Value := l.map (fun x => Value.int .i64 x)
theorem ints_row {w : World} {lo : Nat} {e : TypeId} {v : Value} {l : List Int} (h : w.ownsRow lo e 1 v l.length (iv l)) (hb : ∀ x ∈ l, I64 x) : intsL.In w (From lo) l [v] :=
  ARow.lay (A := Lay.int) (e := e) (xs := iv l) ⟨h, fun i x hx => by
    have hs : Lay.int.size = 1 := rfl
    rw [hs, Nat.mul_one]
    have e1 : ((iv l).drop i).take 1 = [.int .i64 x] := by
      obtain ⟨hi, e⟩ := List.getElem?_eq_some_iff.1 hx
      unfold iv
      rw [← List.map_drop, List.drop_eq_getElem_cons hi]
      simp [e]
    rw [e1]
    exact ⟨rfl, hb x (List.mem_of_getElem? hx)⟩⟩
theorem ints_bnd {w : World} {O : Nat → Prop} {l : List Int} {a : Option Addr} {m c : Nat} (h : intsL.In w O l [.slice a m c]) : ∀ x ∈ l, I64 x := by
  intro x hx
  obtain ⟨i, hi⟩ := List.mem_iff_getElem?.1 hx
  obtain ⟨g, o, ds, _, _, _, _, h2⟩ := Lay.list_at h hi
  exact h2.2
theorem ints_src {w : World} {O : Nat → Prop} {l : List Int} {a : Option Addr} {m c : Nat} (h : intsL.In w O l [.slice a m c]) (h0 : 0 < l.length) :
    ∃ ad, a = some ad ∧ ad.block < w.heap.size ∧ ∀ j v, (iv l)[j]? = some v → w.cell? (ad.add j) = some v := by
  obtain ⟨g, o, e, _, hlt, _⟩ := ints_at h h0
  refine ⟨⟨g, o, none⟩, e, hlt, fun j v hj => ?_⟩
  have hjl : j < l.length := by have := (List.getElem?_eq_some_iff.1 hj).1; simpa [iv] using this
  obtain ⟨g2, o2, e2, _, _, h2⟩ := ints_at h hjl
  rw [e] at e2
  cases e2
  rw [show (⟨g, o, none⟩ : Addr).add j = ⟨g, o + j, none⟩ from by unfold Addr.add; split <;> simp_all, h2, ← hj]
  simp [iv, List.getD, hjl]
theorem iv_len (l : List Int) : (iv l).length = l.length := by simp [iv]
theorem iv_one (l : List Int) : ∀ v ∈ iv l, v.oneCell' = true := by
  intro v hv
  obtain ⟨x, _, rfl⟩ := List.mem_map.1 hv
  rfl
theorem underIs : Try.prog.underlying 44 = some (.slice 3) := by kernel_rfl
theorem infoI : (Try.prog.info? 3).map (fun i => (i.zero, i.size, i.bytes)) = some (some (.int .i64 0), 1, 8) := by kernel_rfl
theorem infoI1 : (Try.prog.info? 3).map (·.size) = some 1 := by kernel_rfl
theorem infoI_parts : ∃ i, Try.prog.info? 3 = some i ∧ i.zero = some (.int .i64 0) ∧ i.size = 1 ∧ i.bytes = 8 := by
  obtain ⟨i, hi, e⟩ := Option.map_eq_some_iff.1 infoI
  simp only [Prod.mk.injEq] at e
  exact ⟨i, hi, e⟩

set_option maxHeartbeats 4000000 in
set_option maxRecDepth 100000 in
theorem cOwnInts_any (l : List Int) (p : Option Addr) (c : Nat) (w : World) (hl0 : intsL.In w All l [.slice p l.length c]) (hb0 : l.length ≤ 4294967296) :
    Calls Try.prog 111 #[.slice p l.length c] w fun e w' => LyOut Lay.int w w' l e := by
  have hl : Hid _ := hl0
  have hx : Hid _ := ints_bnd hl0
  clear hl0
  have hmk := fun wx => run_make_row' (P := Try.prog) 44 3 (.int .i64 0) 8 underIs infoI rfl .i64 .i64 l.length (by omega) (by omega) wx
  have hnew : (w.alloc (.cells (madeCells #[.int .i64 0] l.length) 3)).heap[w.heap.size]? = some (.cells (madeCells #[.int .i64 0] l.length).toList.toArray 3 (0, 0)) := by
    rw [Array.toArray_toList]; exact blockNew w _ _
  have hmin : (iv l).length = Nat.min l.length l.length := by rw [iv_len]; exact (Nat.min_self _).symm
  have hpos : Hid (0 < (iv l).length → (some ⟨w.heap.size, 0, none⟩ : Option Addr) = some ⟨w.heap.size, 0, none⟩ ∧ ∃ ad, p = some ad ∧ ∀ j v, (iv l)[j]? = some v → (w.alloc (.cells (madeCells #[.int .i64 0] l.length) 3)).cell? (ad.add j) = some v) := by
    intro h0
    rw [iv_len] at h0
    obtain ⟨ad, e, hlt, h2⟩ := ints_src hl.out h0
    exact ⟨rfl, ad, e, fun j v hj => (World.cell?_of_block (w := w) (a := ad.add j) (Below.heap_alloc _ _ _ (by unfold Addr.add; split <;> exact hlt))).trans (h2 j v hj)⟩
  have hfit : 0 + (iv l).length ≤ (madeCells #[.int .i64 0] l.length).toList.length := by rw [iv_len, toList_madeCells_one]; simp
  have hbe : Hid (Below w.heap.size w (w.alloc (.cells (madeCells #[.int .i64 0] l.length) 3))) := (Below.refl _ w).alloc (Nat.le_refl _) _
  go_enter Try.func111, Try.ntmps111
  go_wp2_with (refine wpList_copy_splice rfl (.tmp 7) (.tmp 8) 44 44 rfl 3 underIs infoI1 _ _ l.length l.length l.length c rfl rfl w.heap.size 0 (madeCells #[.int .i64 0] l.length).toList 3 hnew (iv l) hmin hpos.out hfit (iv_one l) w.heap.size w hbe.out (Nat.le_refl _) ?_)
  · intro w' hg hbel
    clear hpos hfit hbe hnew hmin
    have R : Hid (LyOut Lay.int w w' l (.returned (.slice (some ⟨w.heap.size, 0, none⟩) l.length l.length))) := by
      have e1 : splice (madeCells #[.int .i64 0] l.length).toList 0 (iv l) = iv l := by
        rw [toList_madeCells_one]; simp [splice, iv_len]
      rw [e1] at hg
      refine ⟨_, _, rfl, ints_row ⟨by rw [iv_len, Nat.mul_one], Or.inr ⟨w.heap.size, l.length, (iv l).toArray, rfl, Nat.le_refl _, hg.out, Nat.le_refl _, by unfold maxLen; omega, by simp [iv_len], ?_⟩⟩ hx.out, hbel⟩
      rw [Nat.mul_one, ← iv_len l]; simp
    clear hg hbel hmk
    go_wp2
    go_ret
    exact R.out

theorem wpList_append_no {P : Program} {w : World} {ops : Array Oper} {rest : List Oper} {o : Oper} {a : Act} {Q : Exit → Act → World → Prop} (hgd : o.guard = none) (s x : Operand) (t : TypeId)
    (ho : o.op = .call { callee := .builtin .append, args := #[s, x], argTypes := #[t, t] }) (v vx : Value) (hs : a.eval s = v) (hx : a.eval x = vx) (hrun : (Builtin.append_ #[t, t] o.type #[v, vx]).run P w = .ok v w)
    (h : wpList P ops Q rest (a.put o.dst v) w) : wpList P ops Q (o :: rest) a w := by
  refine wpList_plain hgd fun K hK => ?_
  unfold Oper.wp
  simp [execOp, ho, resolve, invoke, builtin, hs, hx, hrun, Result.andThen]
  exact hK _ _ h

set_option maxHeartbeats 4000000 in
set_option maxRecDepth 100000 in
theorem rOwnInts_any (l : List Int) (p : Option Addr) (c : Nat) (w : World) (hl0 : intsL.In w All l [.slice p l.length c]) (hb0 : l.length ≤ 4294967296) :
    Calls Try.prog 43 #[.slice p l.length c] w fun e w' => LyOut Lay.int w w' l e := by
  obtain ⟨i0, hi, hz0, hz1, hz2⟩ := infoI_parts
  by_cases h0 : 0 < l.length
  · obtain ⟨ad, rfl, hlt, h2⟩ := ints_src hl0 h0
    have hsrc : Hid _ := h2
    have hx : Hid _ := ints_bnd hl0
    clear hl0 h2
    go_enter Try.func43, Try.ntmps43
    go_wp2_with (at_builtin; refine wpList_append_lies _ rfl (.tmp 4) (.tmp 5) 44 rfl w.heap.size 3 i0 (.int .i64 0) 1 8 underIs hi hz0 hz1 hz2 rfl (by decide) (.slice none 0 0) 0 [] rfl ⟨rfl, Or.inl ⟨rfl, rfl⟩⟩ ad l.length c (iv l) rfl (by rw [iv_len, Nat.mul_one]) hsrc.out (iv_one l) h0 (by unfold maxLen; omega) (by omega) (Nat.le_refl _) w.heap.size rfl ?_)
    intro g2 cap2 w9 h1 hgrow hat hlt1
    have R : Hid (LyOut Lay.int w w9 l (.returned (.slice (some ⟨g2, 0, none⟩) l.length cap2))) := by
      exact ⟨_, _, rfl, ints_row h1 hx.out, (Below.refl _ w).grown hgrow (Nat.le_refl _) (fun k hk => by simp [Value.ownBlock] at hk)⟩
    clear h1 hgrow hat hlt1 hsrc hx
    go_wp2
    go_ret
    exact R.out
  · have e0 : l = [] := List.length_eq_zero_iff.1 (by omega)
    subst e0
    have ha : Hid (∀ (t : TypeId) (wx : World), (Builtin.append_ #[44, 44] t #[.slice none 0 0, .slice p 0 c]).run Try.prog wx = .ok (.slice none 0 0) wx) := fun (t : TypeId) (wx : World) => run_append_nothing (P := Try.prog) wx 44 44 t 3 i0 underIs hi none 0 0 (Nat.le_refl _) (.slice p 0 c) (by cases p with
      | none => exact Src.ofNil wx underIs c
      | some ad => exact Src.ofSlice wx underIs ad 0 c [] (by simp) (fun j u h => by simp at h) (fun u h => by cases h))
    simp only [List.length_nil]
    have R : Hid (LyOut Lay.int w w [] (.returned (.slice none 0 0))) := ⟨_, _, rfl, Lay.list_nil _ _ _ _ _, Below.refl _ _⟩
    clear hl0
    go_enter Try.func43, Try.ntmps43
    go_wp2_with (at_builtin; refine wpList_append_no rfl (.tmp 4) (.tmp 5) 44 rfl (.slice none 0 0) (.slice p 0 c) rfl rfl (ha.out _ _) ?_)
    go_ret
    exact R.out
end Go.Proofs.Ytmnmnokkojcodab
/-
  code.Own: parts in new memory.
-/
namespace Go.Proofs.Ytmnmnokkojcodab
open Go.ChangeShapes Go.WideShapes Go.ChangeAt Go.RowKit
set_option linter.unusedVariables false
set_option linter.unusedSimpArgs false

set_option maxHeartbeats 4000000 in
set_option maxRecDepth 100000 in
theorem cOwnTo_any (x : MTo) (pR pA : Option Addr) (cR cA : Nat) (w : World) (h : TIn2 w All x pR cR pA cA) (b1 : x.regs.length ≤ 4294967296) (b2 : x.args.length ≤ 4294967296) :
    Calls Try.prog 112 #[.agg #[.int .i64 x.block, .slice pR x.regs.length cR, .slice pA x.args.length cA]] w fun e w' => ∃ p c p2 c2, e = .returned (.agg #[.int .i64 x.block, .slice p x.regs.length c, .slice p2 x.args.length c2]) ∧ TIn2 w' (From w.heap.size) x p c p2 c2 ∧ Below w.heap.size w w' := by
  have hr : Hid _ := h.regs
  have hg : Hid _ := h.args
  have hbd := h.bnd
  clear h
  refine fr_enter (n := 12) Try.func112 rfl rfl rfl ?_
  intro a hF
  have hW := Wd.start w
  replace hF : Fr 12 a [(0, .agg #[.int .i64 x.block, .slice pR x.regs.length cR, .slice pA x.args.length cA])] := hF
  refine wp_seq_k fun K1 hK1 => ?_
  refine rg hF fun ops => ?_; clear hF a
  refine sB hW trivial rfl rfl ?_
  clear hW; intro w2 B2 hW2 hN; clear hN
  refine sATo hW2 trivial rfl ?_
  clear hW2; intro w3 B3 hW3 hN; clear hN
  refine St.nil fun a4 h4 => ?_
  refine hK1 _ _ ?_
  refine wp_seq_k fun K5 hK5 => ?_
  have hF6 : Fr 12 a4 [(0, .agg #[.int .i64 x.block, .slice pR x.regs.length cR, .slice pA x.args.length cA]), (1, .pointer (some ⟨B2, 0, none⟩)), (2, .pointer (some ⟨B3, 0, none⟩))] := (h4.keep (h4.keep (h4.keep h4.nil (t := 2) rfl) (t := 1) rfl) (t := 0) rfl)
  have ho1 : a4.tmps.getD 1 undef = .pointer (some ⟨B2, 0, none⟩) := h4.sl 1 _ rfl
  refine fr_draw_k 7 ([(1, fun v _ => v = .pointer (some ⟨B2, 0, none⟩)), (3, fun v _ => v = .pointer (some ⟨B2, 1, none⟩)), (4, fun v _ => v = .slice pR x.regs.length cR), (5, fun v w' => ∃ p c, v = .slice p x.regs.length c ∧ intsL.In w' (From w3.heap.size) x.regs [.slice p x.regs.length c]), (6, fun v _ => v = .pointer (some ⟨B2, 2, none⟩)), (7, fun v _ => v = .slice pA x.args.length cA), (8, fun v w' => ∃ p c, v = .slice p x.args.length c ∧ intsL.In w' (From w3.heap.size) x.args [.slice p x.args.length c]), (9, fun v _ => v = .pointer (some ⟨B2, 1, none⟩))] : PTab) (fun w' => Wd w w' [(B3, #[.int .i64 0, .slice none 0 0, .slice none 0 0], 52), (B2, #[.int .i64 x.block, .slice pR x.regs.length cR, .slice pA x.args.length cA], 52)] ∧ Below w3.heap.size w3 w') (fun w w' => Below w.heap.size w w') (outs := [1]) (gs := []) (bs := [true, true, true, true, true, true, true]) (by kernel_rfl) hF6 rfl (by kernel_rfl) (by kernel_rfl) ?hR ?hG ⟨hW3.drewN 1, drewN_below (m := 1) (Below.refl _ _)⟩ ⟨ho1, trivial⟩ ?hA ?hend
  case hR => exact ⟨fun _ _ _ _ h => h, fun _ _ _ _ h => h, fun _ _ _ _ h => h, fun v w w' hr h => by obtain ⟨p, c, h1, h2⟩ := h; exact ⟨p, c, h1, Lay.below h2 hr⟩, fun _ _ _ _ h => h, fun _ _ _ _ h => h, fun v w w' hr h => by obtain ⟨p, c, h1, h2⟩ := h; exact ⟨p, c, h1, Lay.below h2 hr⟩, fun _ _ _ _ h => h, trivial⟩
  case hG => exact trivial
  case hA =>
   refine ⟨fun a w hW hk K hK => ?_, ?_⟩
   · obtain ⟨k0, -⟩ := hk
     have k0 : a.tmps.getD 1 undef = .pointer (some ⟨B2, 0, none⟩) := k0
     go_simp
     exact hK _ _ (Below.refl _ _) hW rfl
   refine ⟨fun a w hW hk K hK => ?_, ?_⟩
   · obtain ⟨k0, -⟩ := hk
     have k0 : a.tmps.getD 3 undef = .pointer (some ⟨B2, 1, none⟩) := k0
     have c1 : w.cell? ⟨B2, 1, none⟩ = some (.slice pR x.regs.length cR) := cellOf (hW.1.get 1 rfl) 1 _ rfl
     go_simp
     exact hK _ _ (Below.refl _ _) hW rfl
   refine ⟨fun a w hW hk K hK => ?_, ?_⟩
   · obtain ⟨k0, -⟩ := hk
     have k0 : a.tmps.getD 4 undef = .slice pR x.regs.length cR := k0
     go_simp
     refine (cOwnInts_any _ _ _ w (Lay.below hr.out hW.1.bel) b1).mono ?_
     rintro e w9 ⟨p9, c9, rfl, h9, hb⟩
     exact hK _ _ hb ⟨hW.1.below hb, Below.andThen hW.2 hb⟩ ⟨p9, c9, rfl, Lay.mono h9 (fun k hk _ => Nat.le_trans hW.2.size hk)⟩
   refine ⟨fun a w hW hk K hK => ?_, ?_⟩
   · obtain ⟨k0, -⟩ := hk
     have k0 : a.tmps.getD 1 undef = .pointer (some ⟨B2, 0, none⟩) := k0
     go_simp
     exact hK _ _ (Below.refl _ _) hW rfl
   refine ⟨fun a w hW hk K hK => ?_, ?_⟩
   · obtain ⟨k0, -⟩ := hk
     have k0 : a.tmps.getD 6 undef = .pointer (some ⟨B2, 2, none⟩) := k0
     have c2 : w.cell? ⟨B2, 2, none⟩ = some (.slice pA x.args.length cA) := cellOf (hW.1.get 1 rfl) 2 _ rfl
     go_simp
     exact hK _ _ (Below.refl _ _) hW rfl
   refine ⟨fun a w hW hk K hK => ?_, ?_⟩
   · obtain ⟨k0, -⟩ := hk
     have k0 : a.tmps.getD 7 undef = .slice pA x.args.length cA := k0
     go_simp
     refine (cOwnInts_any _ _ _ w (Lay.below hg.out hW.1.bel) b2).mono ?_
     rintro e w9 ⟨p9, c9, rfl, h9, hb⟩
     exact hK _ _ hb ⟨hW.1.below hb, Below.andThen hW.2 hb⟩ ⟨p9, c9, rfl, Lay.mono h9 (fun k hk _ => Nat.le_trans hW.2.size hk)⟩
   refine ⟨fun a w hW hk K hK => ?_, ?_⟩
   · obtain ⟨k0, -⟩ := hk
     have k0 : a.tmps.getD 1 undef = .pointer (some ⟨B2, 0, none⟩) := k0
     go_simp
     exact hK _ _ (Below.refl _ _) hW rfl
   trivial
  case hend =>
   intro ops a7 w7 hWD hE hFD
   obtain ⟨pN5, cN5, hd5, hNN5⟩ := hE 5 rfl
   replace hd5 : a7.tmps.getD 5 undef = .slice pN5 x.regs.length cN5 := hd5
   obtain ⟨pN8, cN8, hd8, hNN8⟩ := hE 8 rfl
   replace hd8 : a7.tmps.getD 8 undef = .slice pN8 x.args.length cN8 := hd8
   have hd9 : a7.tmps.getD 9 undef = .pointer (some ⟨B2, 1, none⟩) := hE 9 rfl
   have hF7 : Fr 12 a7 [(9, .pointer (some ⟨B2, 1, none⟩)), (8, .slice pN8 x.args.length cN8), (5, .slice pN5 x.regs.length cN5), (0, .agg #[.int .i64 x.block, .slice pR x.regs.length cR, .slice pA x.args.length cA]), (1, .pointer (some ⟨B2, 0, none⟩)), (2, .pointer (some ⟨B3, 0, none⟩))] := (((hFD.cons hd5).cons hd8).cons hd9)
   clear hd5 hd8 hd9
   have hW7 : Wd w w7 [(B3, #[.int .i64 0, .slice none 0 0, .slice none 0 0], 52), (B2, #[.int .i64 x.block, .slice pR x.regs.length cR, .slice pA x.args.length cA], 52)] := hWD.1
   have hlt0 : B3 < w3.heap.size := (hW3.get 0 rfl).lt
   have hlt1 : B2 < w3.heap.size := (hW3.get 1 rfl).lt
   have hsz : w.heap.size ≤ w3.heap.size := hW3.bel.size
   clear hFD hWD hE hF6 h4
   clear hW3
   refine St.go hF7 ?_; clear hF7 a7
   refine s1k 1 inf1Ints hW7 rfl rfl rfl rfl rfl rfl ?_
   intro w8 hKp hW8
   replace hNN5 := Lay.keep1 hNN5 hKp hlt1
   replace hNN8 := Lay.keep1 hNN8 hKp hlt1
   clear hKp hW7
   refine sfTo2 trivial rfl rfl ?_
   refine s1k 1 inf1Ints hW8 rfl rfl rfl rfl rfl rfl ?_
   intro w9 hKp hW9
   replace hNN5 := Lay.keep1 hNN5 hKp hlt1
   replace hNN8 := Lay.keep1 hNN8 hKp hlt1
   clear hKp hW8
   refine St.nil fun a10 h10 => ?_
   refine hK5 _ _ ?_
   refine wp_seq_k fun K11 hK11 => ?_
   refine rg h10 fun ops => ?_; clear h10 a10
   refine sS 1 3 Try.underlying52 rfl infTo hW9 trivial rfl rfl rfl rfl ?_
   refine sTk 0 hW9 rfl rfl infTo rfl rfl rfl ?_
   intro w12 hKp hW12
   replace hNN5 := Lay.keep1 hNN5 hKp hlt0
   replace hNN8 := Lay.keep1 hNN8 hKp hlt0
   clear hKp hW9
   refine St.nil fun a13 h13 => ?_
   refine hK11 _ _ ?_
   refine wp_ret ?_; with_reducible repeat first | refine of_then_ret ?_ | refine of_block_ret ?_
   exact ret_box 0 h13 hW12 rfl rfl rfl Try.underlying52 rfl infTo ⟨_, _, _, _, rfl, ⟨Lay.mono hNN5 (fun k hk _ => Nat.le_trans hsz hk), Lay.mono hNN8 (fun k hk _ => Nat.le_trans hsz hk), hbd⟩, hW12.bel⟩

set_option maxHeartbeats 4000000 in
set_option maxRecDepth 100000 in
theorem cOwnIns_any (x : MIns) (i : IP) (w : World) (h : IIn w All x i) (b1 : x.regs.length ≤ 4294967296) (b2 : x.args.length ≤ 4294967296) :
    Calls Try.prog 101 #[.agg #[.int .i64 x.op, .int .i64 x.a, .int .i64 x.b, .int .i64 x.c, .int .i64 x.k, .int .i64 x.n, .slice i.pR x.regs.length i.cR, .slice i.pA x.args.length i.cA]] w fun e w' => ∃ i' : IP, e = .returned (.agg #[.int .i64 x.op, .int .i64 x.a, .int .i64 x.b, .int .i64 x.c, .int .i64 x.k, .int .i64 x.n, .slice i'.pR x.regs.length i'.cR, .slice i'.pA x.args.length i'.cA]) ∧ IIn w' (From w.heap.size) x i' ∧ Below w.heap.size w w' := by
  have hr : Hid _ := h.regs
  have hg : Hid _ := h.args
  have hbd := h.bnd
  clear h
  refine fr_enter (n := 12) Try.func101 rfl rfl rfl ?_
  intro a hF
  have hW := Wd.start w
  replace hF : Fr 12 a [(0, .agg #[.int .i64 x.op, .int .i64 x.a, .int .i64 x.b, .int .i64 x.c, .int .i64 x.k, .int .i64 x.n, .slice i.pR x.regs.length i.cR, .slice i.pA x.args.length i.cA])] := hF
  refine wp_seq_k fun K1 hK1 => ?_
  refine rg hF fun ops => ?_; clear hF a
  refine sB hW trivial rfl rfl ?_
  clear hW; intro w2 B2 hW2 hN; clear hN
  refine sAIns hW2 trivial rfl ?_
  clear hW2; intro w3 B3 hW3 hN; clear hN
  refine St.nil fun a4 h4 => ?_
  refine hK1 _ _ ?_
  refine wp_seq_k fun K5 hK5 => ?_
  have hF6 : Fr 12 a4 [(0, .agg #[.int .i64 x.op, .int .i64 x.a, .int .i64 x.b, .int .i64 x.c, .int .i64 x.k, .int .i64 x.n, .slice i.pR x.regs.length i.cR, .slice i.pA x.args.length i.cA]), (1, .pointer (some ⟨B2, 0, none⟩)), (2, .pointer (some ⟨B3, 0, none⟩))] := (h4.keep (h4.keep (h4.keep h4.nil (t := 2) rfl) (t := 1) rfl) (t := 0) rfl)
  have ho1 : a4.tmps.getD 1 undef = .pointer (some ⟨B2, 0, none⟩) := h4.sl 1 _ rfl
  refine fr_draw_k 7 ([(1, fun v _ => v = .pointer (some ⟨B2, 0, none⟩)), (3, fun v _ => v = .pointer (some ⟨B2, 6, none⟩)), (4, fun v _ => v = .slice i.pR x.regs.length i.cR), (5, fun v w' => ∃ p c, v = .slice p x.regs.length c ∧ intsL.In w' (From w3.heap.size) x.regs [.slice p x.regs.length c]), (6, fun v _ => v = .pointer (some ⟨B2, 7, none⟩)), (7, fun v _ => v = .slice i.pA x.args.length i.cA), (8, fun v w' => ∃ p c, v = .slice p x.args.length c ∧ intsL.In w' (From w3.heap.size) x.args [.slice p x.args.length c]), (9, fun v _ => v = .pointer (some ⟨B2, 6, none⟩))] : PTab) (fun w' => Wd w w' [(B3, #[.int .i64 0, .int .i64 0, .int .i64 0, .int .i64 0, .int .i64 0, .int .i64 0, .slice none 0 0, .slice none 0 0], 46), (B2, #[.int .i64 x.op, .int .i64 x.a, .int .i64 x.b, .int .i64 x.c, .int .i64 x.k, .int .i64 x.n, .slice i.pR x.regs.length i.cR, .slice i.pA x.args.length i.cA], 46)] ∧ Below w3.heap.size w3 w') (fun w w' => Below w.heap.size w w') (outs := [1]) (gs := []) (bs := [true, true, true, true, true, true, true]) (by kernel_rfl) hF6 rfl (by kernel_rfl) (by kernel_rfl) ?hR ?hG ⟨hW3.drewN 1, drewN_below (m := 1) (Below.refl _ _)⟩ ⟨ho1, trivial⟩ ?hA ?hend
  case hR => exact ⟨fun _ _ _ _ h => h, fun _ _ _ _ h => h, fun _ _ _ _ h => h, fun v w w' hr h => by obtain ⟨p, c, h1, h2⟩ := h; exact ⟨p, c, h1, Lay.below h2 hr⟩, fun _ _ _ _ h => h, fun _ _ _ _ h => h, fun v w w' hr h => by obtain ⟨p, c, h1, h2⟩ := h; exact ⟨p, c, h1, Lay.below h2 hr⟩, fun _ _ _ _ h => h, trivial⟩
  case hG => exact trivial
  case hA =>
   refine ⟨fun a w hW hk K hK => ?_, ?_⟩
   · obtain ⟨k0, -⟩ := hk
     have k0 : a.tmps.getD 1 undef = .pointer (some ⟨B2, 0, none⟩) := k0
     go_simp
     exact hK _ _ (Below.refl _ _) hW rfl
   refine ⟨fun a w hW hk K hK => ?_, ?_⟩
   · obtain ⟨k0, -⟩ := hk
     have k0 : a.tmps.getD 3 undef = .pointer (some ⟨B2, 6, none⟩) := k0
     have c6 : w.cell? ⟨B2, 6, none⟩ = some (.slice i.pR x.regs.length i.cR) := cellOf (hW.1.get 1 rfl) 6 _ rfl
     go_simp
     exact hK _ _ (Below.refl _ _) hW rfl
   refine ⟨fun a w hW hk K hK => ?_, ?_⟩
   · obtain ⟨k0, -⟩ := hk
     have k0 : a.tmps.getD 4 undef = .slice i.pR x.regs.length i.cR := k0
     go_simp
     refine (cOwnInts_any _ _ _ w (Lay.below hr.out hW.1.bel) b1).mono ?_
     rintro e w9 ⟨p9, c9, rfl, h9, hb⟩
     exact hK _ _ hb ⟨hW.1.below hb, Below.andThen hW.2 hb⟩ ⟨p9, c9, rfl, Lay.mono h9 (fun k hk _ => Nat.le_trans hW.2.size hk)⟩
   refine ⟨fun a w hW hk K hK => ?_, ?_⟩
   · obtain ⟨k0, -⟩ := hk
     have k0 : a.tmps.getD 1 undef = .pointer (some ⟨B2, 0, none⟩) := k0
     go_simp
     exact hK _ _ (Below.refl _ _) hW rfl
   refine ⟨fun a w hW hk K hK => ?_, ?_⟩
   · obtain ⟨k0, -⟩ := hk
     have k0 : a.tmps.getD 6 undef = .pointer (some ⟨B2, 7, none⟩) := k0
     have c7 : w.cell? ⟨B2, 7, none⟩ = some (.slice i.pA x.args.length i.cA) := cellOf (hW.1.get 1 rfl) 7 _ rfl
     go_simp
     exact hK _ _ (Below.refl _ _) hW rfl
   refine ⟨fun a w hW hk K hK => ?_, ?_⟩
   · obtain ⟨k0, -⟩ := hk
     have k0 : a.tmps.getD 7 undef = .slice i.pA x.args.length i.cA := k0
     go_simp
     refine (cOwnInts_any _ _ _ w (Lay.below hg.out hW.1.bel) b2).mono ?_
     rintro e w9 ⟨p9, c9, rfl, h9, hb⟩
     exact hK _ _ hb ⟨hW.1.below hb, Below.andThen hW.2 hb⟩ ⟨p9, c9, rfl, Lay.mono h9 (fun k hk _ => Nat.le_trans hW.2.size hk)⟩
   refine ⟨fun a w hW hk K hK => ?_, ?_⟩
   · obtain ⟨k0, -⟩ := hk
     have k0 : a.tmps.getD 1 undef = .pointer (some ⟨B2, 0, none⟩) := k0
     go_simp
     exact hK _ _ (Below.refl _ _) hW rfl
   trivial
  case hend =>
   intro ops a7 w7 hWD hE hFD
   obtain ⟨pN5, cN5, hd5, hNN5⟩ := hE 5 rfl
   replace hd5 : a7.tmps.getD 5 undef = .slice pN5 x.regs.length cN5 := hd5
   obtain ⟨pN8, cN8, hd8, hNN8⟩ := hE 8 rfl
   replace hd8 : a7.tmps.getD 8 undef = .slice pN8 x.args.length cN8 := hd8
   have hd9 : a7.tmps.getD 9 undef = .pointer (some ⟨B2, 6, none⟩) := hE 9 rfl
   have hF7 : Fr 12 a7 [(9, .pointer (some ⟨B2, 6, none⟩)), (8, .slice pN8 x.args.length cN8), (5, .slice pN5 x.regs.length cN5), (0, .agg #[.int .i64 x.op, .int .i64 x.a, .int .i64 x.b, .int .i64 x.c, .int .i64 x.k, .int .i64 x.n, .slice i.pR x.regs.length i.cR, .slice i.pA x.args.length i.cA]), (1, .pointer (some ⟨B2, 0, none⟩)), (2, .pointer (some ⟨B3, 0, none⟩))] := (((hFD.cons hd5).cons hd8).cons hd9)
   clear hd5 hd8 hd9
   have hW7 : Wd w w7 [(B3, #[.int .i64 0, .int .i64 0, .int .i64 0, .int .i64 0, .int .i64 0, .int .i64 0, .slice none 0 0, .slice none 0 0], 46), (B2, #[.int .i64 x.op, .int .i64 x.a, .int .i64 x.b, .int .i64 x.c, .int .i64 x.k, .int .i64 x.n, .slice i.pR x.regs.length i.cR, .slice i.pA x.args.length i.cA], 46)] := hWD.1
   have hlt0 : B3 < w3.heap.size := (hW3.get 0 rfl).lt
   have hlt1 : B2 < w3.heap.size := (hW3.get 1 rfl).lt
   have hsz : w.heap.size ≤ w3.heap.size := hW3.bel.size
   clear hFD hWD hE hF6 h4
   clear hW3
   refine St.go hF7 ?_; clear hF7 a7
   refine s1k 1 inf1Ints hW7 rfl rfl rfl rfl rfl rfl ?_
   intro w8 hKp hW8
   replace hNN5 := Lay.keep1 hNN5 hKp hlt1
   replace hNN8 := Lay.keep1 hNN8 hKp hlt1
   clear hKp hW7
   refine sfIns7 trivial rfl rfl ?_
   refine s1k 1 inf1Ints hW8 rfl rfl rfl rfl rfl rfl ?_
   intro w9 hKp hW9
   replace hNN5 := Lay.keep1 hNN5 hKp hlt1
   replace hNN8 := Lay.keep1 hNN8 hKp hlt1
   clear hKp hW8
   refine St.nil fun a10 h10 => ?_
   refine hK5 _ _ ?_
   refine wp_seq_k fun K11 hK11 => ?_
   refine rg h10 fun ops => ?_; clear h10 a10
   refine sS 1 8 Try.underlying46 rfl infIns hW9 trivial rfl rfl rfl rfl ?_
   refine sTk 0 hW9 rfl rfl infIns rfl rfl rfl ?_
   intro w12 hKp hW12
   replace hNN5 := Lay.keep1 hNN5 hKp hlt0
   replace hNN8 := Lay.keep1 hNN8 hKp hlt0
   clear hKp hW9
   refine St.nil fun a13 h13 => ?_
   refine hK11 _ _ ?_
   refine wp_ret ?_; with_reducible repeat first | refine of_then_ret ?_ | refine of_block_ret ?_
   exact ret_box 0 h13 hW12 rfl rfl rfl Try.underlying46 rfl infIns ⟨⟨pN5, cN5, pN8, cN8⟩, rfl, ⟨Lay.mono hNN5 (fun k hk _ => Nat.le_trans hsz hk), Lay.mono hNN8 (fun k hk _ => Nat.le_trans hsz hk), hbd⟩, hW12.bel⟩

set_option maxHeartbeats 4000000 in
set_option maxRecDepth 100000 in
theorem cOwnEnd_any (x : MEnd) (i : EP) (w : World) (h : EIn w All x i) (b1 : x.yes.regs.length ≤ 4294967296) (b2 : x.yes.args.length ≤ 4294967296) (b3 : x.no.regs.length ≤ 4294967296) (b4 : x.no.args.length ≤ 4294967296) (b5 : x.args.length ≤ 4294967296) :
    Calls Try.prog 102 #[.agg #[.int .i64 x.op, .int .i64 x.a, .int .i64 x.yes.block, .slice i.pYR x.yes.regs.length i.cYR, .slice i.pYA x.yes.args.length i.cYA, .int .i64 x.no.block, .slice i.pNR x.no.regs.length i.cNR, .slice i.pNA x.no.args.length i.cNA, .slice i.pA x.args.length i.cA]] w fun e w' => ∃ i' : EP, e = .returned (.agg #[.int .i64 x.op, .int .i64 x.a, .int .i64 x.yes.block, .slice i'.pYR x.yes.regs.length i'.cYR, .slice i'.pYA x.yes.args.length i'.cYA, .int .i64 x.no.block, .slice i'.pNR x.no.regs.length i'.cNR, .slice i'.pNA x.no.args.length i'.cNA, .slice i'.pA x.args.length i'.cA]) ∧ EIn w' (From w.heap.size) x i' ∧ Below w.heap.size w w' := by
  have hy : Hid _ := h.yes
  have hn : Hid _ := h.no
  have hg : Hid _ := h.args
  have hbd := h.bnd
  clear h
  refine fr_enter (n := 16) Try.func102 rfl rfl rfl ?_
  intro a hF
  have hW := Wd.start w
  replace hF : Fr 16 a [(0, .agg #[.int .i64 x.op, .int .i64 x.a, .int .i64 x.yes.block, .slice i.pYR x.yes.regs.length i.cYR, .slice i.pYA x.yes.args.length i.cYA, .int .i64 x.no.block, .slice i.pNR x.no.regs.length i.cNR, .slice i.pNA x.no.args.length i.cNA, .slice i.pA x.args.length i.cA])] := hF
  refine wp_seq_k fun K1 hK1 => ?_
  refine rg hF fun ops => ?_; clear hF a
  refine sB hW trivial rfl rfl ?_
  clear hW; intro w2 B2 hW2 hN; clear hN
  refine sAEnd hW2 trivial rfl ?_
  clear hW2; intro w3 B3 hW3 hN; clear hN
  refine St.nil fun a4 h4 => ?_
  refine hK1 _ _ ?_
  refine wp_seq_k fun K5 hK5 => ?_
  have hF6 : Fr 16 a4 [(0, .agg #[.int .i64 x.op, .int .i64 x.a, .int .i64 x.yes.block, .slice i.pYR x.yes.regs.length i.cYR, .slice i.pYA x.yes.args.length i.cYA, .int .i64 x.no.block, .slice i.pNR x.no.regs.length i.cNR, .slice i.pNA x.no.args.length i.cNA, .slice i.pA x.args.length i.cA]), (1, .pointer (some ⟨B2, 0, none⟩)), (2, .pointer (some ⟨B3, 0, none⟩))] := (h4.keep (h4.keep (h4.keep h4.nil (t := 2) rfl) (t := 1) rfl) (t := 0) rfl)
  have ho1 : a4.tmps.getD 1 undef = .pointer (some ⟨B2, 0, none⟩) := h4.sl 1 _ rfl
  refine fr_draw2_k 10 ([(1, fun v _ => v = .pointer (some ⟨B2, 0, none⟩)), (3, fun v _ => v = .pointer (some ⟨B2, 2, none⟩)), (4, fun v _ => v = .agg #[.int .i64 x.yes.block, .slice i.pYR x.yes.regs.length i.cYR, .slice i.pYA x.yes.args.length i.cYA]), (5, fun v w' => ∃ p c p2 c2, v = .agg #[.int .i64 x.yes.block, .slice p x.yes.regs.length c, .slice p2 x.yes.args.length c2] ∧ TIn2 w' (From w3.heap.size) x.yes p c p2 c2), (6, fun v _ => v = .pointer (some ⟨B2, 5, none⟩)), (7, fun v _ => v = .agg #[.int .i64 x.no.block, .slice i.pNR x.no.regs.length i.cNR, .slice i.pNA x.no.args.length i.cNA]), (8, fun v w' => ∃ p c p2 c2, v = .agg #[.int .i64 x.no.block, .slice p x.no.regs.length c, .slice p2 x.no.args.length c2] ∧ TIn2 w' (From w3.heap.size) x.no p c p2 c2), (9, fun v _ => v = .pointer (some ⟨B2, 8, none⟩)), (10, fun v _ => v = .slice i.pA x.args.length i.cA), (11, fun v w' => ∃ p c, v = .slice p x.args.length c ∧ intsL.In w' (From w3.heap.size) x.args [.slice p x.args.length c]), (12, fun v _ => v = .pointer (some ⟨B2, 2, none⟩))] : PTab) (fun w' => Wd w w' [(B3, #[.int .i64 0, .int .i64 0, .int .i64 0, .slice none 0 0, .slice none 0 0, .int .i64 0, .slice none 0 0, .slice none 0 0, .slice none 0 0], 54), (B2, #[.int .i64 x.op, .int .i64 x.a, .int .i64 x.yes.block, .slice i.pYR x.yes.regs.length i.cYR, .slice i.pYA x.yes.args.length i.cYA, .int .i64 x.no.block, .slice i.pNR x.no.regs.length i.cNR, .slice i.pNA x.no.args.length i.cNA, .slice i.pA x.args.length i.cA], 54)] ∧ Below w3.heap.size w3 w') (fun w w' => Below w.heap.size w w') (outs := [1]) (gs := []) (bs := [true, true, true, true, true, true, true, true, true, true]) (by kernel_rfl) hF6 rfl (by kernel_rfl) (by kernel_rfl) ?hR ?hG ⟨hW3.drewN 1, drewN_below (m := 1) (Below.refl _ _)⟩ ⟨ho1, trivial⟩ ?hA ?hend
  case hR => exact ⟨fun _ _ _ _ h => h, fun _ _ _ _ h => h, fun _ _ _ _ h => h, fun v w w' hr h => by obtain ⟨p, c, p2, c2, h1, h2⟩ := h; exact ⟨p, c, p2, c2, h1, ⟨Lay.below h2.regs hr, Lay.below h2.args hr, h2.bnd⟩⟩, fun _ _ _ _ h => h, fun _ _ _ _ h => h, fun v w w' hr h => by obtain ⟨p, c, p2, c2, h1, h2⟩ := h; exact ⟨p, c, p2, c2, h1, ⟨Lay.below h2.regs hr, Lay.below h2.args hr, h2.bnd⟩⟩, fun _ _ _ _ h => h, fun _ _ _ _ h => h, fun v w w' hr h => by obtain ⟨p, c, h1, h2⟩ := h; exact ⟨p, c, h1, Lay.below h2 hr⟩, fun _ _ _ _ h => h, trivial⟩
  case hG => exact trivial
  case hA =>
   refine ⟨fun a w hW hk K hK => ?_, ?_⟩
   · obtain ⟨k0, -⟩ := hk
     have k0 : a.tmps.getD 1 undef = .pointer (some ⟨B2, 0, none⟩) := k0
     go_simp
     exact hK _ _ (Below.refl _ _) hW rfl
   refine ⟨fun a w hW hk K hK => ?_, ?_⟩
   · obtain ⟨k0, -⟩ := hk
     have k0 : a.tmps.getD 3 undef = .pointer (some ⟨B2, 2, none⟩) := k0
     have c2 : w.cell? ⟨B2, 2, none⟩ = some (.int .i64 x.yes.block) := cellOf (hW.1.get 1 rfl) 2 _ rfl
     have c3 : w.cell? ⟨B2, 3, none⟩ = some (.slice i.pYR x.yes.regs.length i.cYR) := cellOf (hW.1.get 1 rfl) 3 _ rfl
     have c4 : w.cell? ⟨B2, 4, none⟩ = some (.slice i.pYA x.yes.args.length i.cYA) := cellOf (hW.1.get 1 rfl) 4 _ rfl
     go_simp
     exact hK _ _ (Below.refl _ _) hW rfl
   refine ⟨fun a w hW hk K hK => ?_, ?_⟩
   · obtain ⟨k0, -⟩ := hk
     have k0 : a.tmps.getD 4 undef = .agg #[.int .i64 x.yes.block, .slice i.pYR x.yes.regs.length i.cYR, .slice i.pYA x.yes.args.length i.cYA] := k0
     go_simp
     refine (cOwnTo_any _ _ _ _ _ w ⟨Lay.below hy.out.regs hW.1.bel, Lay.below hy.out.args hW.1.bel, hy.out.bnd⟩ b1 b2).mono ?_
     rintro e w9 ⟨p9, c9, p8, c8, rfl, h9, hb⟩
     exact hK _ _ hb ⟨hW.1.below hb, Below.andThen hW.2 hb⟩ ⟨p9, c9, p8, c8, rfl, ⟨Lay.mono h9.regs (fun k hk _ => Nat.le_trans hW.2.size hk), Lay.mono h9.args (fun k hk _ => Nat.le_trans hW.2.size hk), h9.bnd⟩⟩
   refine ⟨fun a w hW hk K hK => ?_, ?_⟩
   · obtain ⟨k0, -⟩ := hk
     have k0 : a.tmps.getD 1 undef = .pointer (some ⟨B2, 0, none⟩) := k0
     go_simp
     exact hK _ _ (Below.refl _ _) hW rfl
   refine ⟨fun a w hW hk K hK => ?_, ?_⟩
   · obtain ⟨k0, -⟩ := hk
     have k0 : a.tmps.getD 6 undef = .pointer (some ⟨B2, 5, none⟩) := k0
     have c5 : w.cell? ⟨B2, 5, none⟩ = some (.int .i64 x.no.block) := cellOf (hW.1.get 1 rfl) 5 _ rfl
     have c6 : w.cell? ⟨B2, 6, none⟩ = some (.slice i.pNR x.no.regs.length i.cNR) := cellOf (hW.1.get 1 rfl) 6 _ rfl
     have c7 : w.cell? ⟨B2, 7, none⟩ = some (.slice i.pNA x.no.args.length i.cNA) := cellOf (hW.1.get 1 rfl) 7 _ rfl
     go_simp
     exact hK _ _ (Below.refl _ _) hW rfl
   refine ⟨fun a w hW hk K hK => ?_, ?_⟩
   · obtain ⟨k0, -⟩ := hk
     have k0 : a.tmps.getD 7 undef = .agg #[.int .i64 x.no.block, .slice i.pNR x.no.regs.length i.cNR, .slice i.pNA x.no.args.length i.cNA] := k0
     go_simp
     refine (cOwnTo_any _ _ _ _ _ w ⟨Lay.below hn.out.regs hW.1.bel, Lay.below hn.out.args hW.1.bel, hn.out.bnd⟩ b3 b4).mono ?_
     rintro e w9 ⟨p9, c9, p8, c8, rfl, h9, hb⟩
     exact hK _ _ hb ⟨hW.1.below hb, Below.andThen hW.2 hb⟩ ⟨p9, c9, p8, c8, rfl, ⟨Lay.mono h9.regs (fun k hk _ => Nat.le_trans hW.2.size hk), Lay.mono h9.args (fun k hk _ => Nat.le_trans hW.2.size hk), h9.bnd⟩⟩
   refine ⟨fun a w hW hk K hK => ?_, ?_⟩
   · obtain ⟨k0, -⟩ := hk
     have k0 : a.tmps.getD 1 undef = .pointer (some ⟨B2, 0, none⟩) := k0
     go_simp
     exact hK _ _ (Below.refl _ _) hW rfl
   refine ⟨fun a w hW hk K hK => ?_, ?_⟩
   · obtain ⟨k0, -⟩ := hk
     have k0 : a.tmps.getD 9 undef = .pointer (some ⟨B2, 8, none⟩) := k0
     have c8 : w.cell? ⟨B2, 8, none⟩ = some (.slice i.pA x.args.length i.cA) := cellOf (hW.1.get 1 rfl) 8 _ rfl
     go_simp
     exact hK _ _ (Below.refl _ _) hW rfl
   refine ⟨fun a w hW hk K hK => ?_, ?_⟩
   · obtain ⟨k0, -⟩ := hk
     have k0 : a.tmps.getD 10 undef = .slice i.pA x.args.length i.cA := k0
     go_simp
     refine (cOwnInts_any _ _ _ w (Lay.below hg.out hW.1.bel) b5).mono ?_
     rintro e w9 ⟨p9, c9, rfl, h9, hb⟩
     exact hK _ _ hb ⟨hW.1.below hb, Below.andThen hW.2 hb⟩ ⟨p9, c9, rfl, Lay.mono h9 (fun k hk _ => Nat.le_trans hW.2.size hk)⟩
   refine ⟨fun a w hW hk K hK => ?_, ?_⟩
   · obtain ⟨k0, -⟩ := hk
     have k0 : a.tmps.getD 1 undef = .pointer (some ⟨B2, 0, none⟩) := k0
     go_simp
     exact hK _ _ (Below.refl _ _) hW rfl
   trivial
  case hend =>
   intro ops a7 w7 hWD hE hFD
   obtain ⟨pN5r, cN5r, pN5a, cN5a, hd5, ⟨hN5r, hN5a, hbdN5⟩⟩ := hE 5 rfl
   replace hd5 : a7.tmps.getD 5 undef = .agg #[.int .i64 x.yes.block, .slice pN5r x.yes.regs.length cN5r, .slice pN5a x.yes.args.length cN5a] := hd5
   obtain ⟨pN8r, cN8r, pN8a, cN8a, hd8, ⟨hN8r, hN8a, hbdN8⟩⟩ := hE 8 rfl
   replace hd8 : a7.tmps.getD 8 undef = .agg #[.int .i64 x.no.block, .slice pN8r x.no.regs.length cN8r, .slice pN8a x.no.args.length cN8a] := hd8
   obtain ⟨pN11, cN11, hd11, hNN11⟩ := hE 11 rfl
   replace hd11 : a7.tmps.getD 11 undef = .slice pN11 x.args.length cN11 := hd11
   have hd12 : a7.tmps.getD 12 undef = .pointer (some ⟨B2, 2, none⟩) := hE 12 rfl
   have hF7 : Fr 16 a7 [(12, .pointer (some ⟨B2, 2, none⟩)), (11, .slice pN11 x.args.length cN11), (8, .agg #[.int .i64 x.no.block, .slice pN8r x.no.regs.length cN8r, .slice pN8a x.no.args.length cN8a]), (5, .agg #[.int .i64 x.yes.block, .slice pN5r x.yes.regs.length cN5r, .slice pN5a x.yes.args.length cN5a]), (0, .agg #[.int .i64 x.op, .int .i64 x.a, .int .i64 x.yes.block, .slice i.pYR x.yes.regs.length i.cYR, .slice i.pYA x.yes.args.length i.cYA, .int .i64 x.no.block, .slice i.pNR x.no.regs.length i.cNR, .slice i.pNA x.no.args.length i.cNA, .slice i.pA x.args.length i.cA]), (1, .pointer (some ⟨B2, 0, none⟩)), (2, .pointer (some ⟨B3, 0, none⟩))] := ((((hFD.cons hd5).cons hd8).cons hd11).cons hd12)
   clear hd5 hd8 hd11 hd12
   have hW7 : Wd w w7 [(B3, #[.int .i64 0, .int .i64 0, .int .i64 0, .slice none 0 0, .slice none 0 0, .int .i64 0, .slice none 0 0, .slice none 0 0, .slice none 0 0], 54), (B2, #[.int .i64 x.op, .int .i64 x.a, .int .i64 x.yes.block, .slice i.pYR x.yes.regs.length i.cYR, .slice i.pYA x.yes.args.length i.cYA, .int .i64 x.no.block, .slice i.pNR x.no.regs.length i.cNR, .slice i.pNA x.no.args.length i.cNA, .slice i.pA x.args.length i.cA], 54)] := hWD.1
   have hlt0 : B3 < w3.heap.size := (hW3.get 0 rfl).lt
   have hlt1 : B2 < w3.heap.size := (hW3.get 1 rfl).lt
   have hsz : w.heap.size ≤ w3.heap.size := hW3.bel.size
   clear hFD hWD hE hF6 h4
   clear hW3
   refine St.go hF7 ?_; clear hF7 a7
   refine sTk 1 hW7 rfl rfl infTo rfl rfl rfl ?_
   intro w8 hKp hW8
   replace hNN11 := Lay.keep1 hNN11 hKp hlt1
   replace hN5r := Lay.keep1 hN5r hKp hlt1
   replace hN5a := Lay.keep1 hN5a hKp hlt1
   replace hN8r := Lay.keep1 hN8r hKp hlt1
   replace hN8a := Lay.keep1 hN8a hKp hlt1
   clear hKp hW7
   refine sfEnd3 trivial rfl rfl ?_
   refine sTk 1 hW8 rfl rfl infTo rfl rfl rfl ?_
   intro w9 hKp hW9
   replace hNN11 := Lay.keep1 hNN11 hKp hlt1
   replace hN5r := Lay.keep1 hN5r hKp hlt1
   replace hN5a := Lay.keep1 hN5a hKp hlt1
   replace hN8r := Lay.keep1 hN8r hKp hlt1
   replace hN8a := Lay.keep1 hN8a hKp hlt1
   clear hKp hW8
   refine sfEnd4 trivial rfl rfl ?_
   refine s1k 1 inf1Ints hW9 rfl rfl rfl rfl rfl rfl ?_
   intro w10 hKp hW10
   replace hNN11 := Lay.keep1 hNN11 hKp hlt1
   replace hN5r := Lay.keep1 hN5r hKp hlt1
   replace hN5a := Lay.keep1 hN5a hKp hlt1
   replace hN8r := Lay.keep1 hN8r hKp hlt1
   replace hN8a := Lay.keep1 hN8a hKp hlt1
   clear hKp hW9
   refine St.nil fun a11 h11 => ?_
   refine hK5 _ _ ?_
   refine wp_seq_k fun K12 hK12 => ?_
   refine rg h11 fun ops => ?_; clear h11 a11
   refine sS 1 9 Try.underlying54 rfl infEnd hW10 trivial rfl rfl rfl rfl ?_
   refine sTk 0 hW10 rfl rfl infEnd rfl rfl rfl ?_
   intro w13 hKp hW13
   replace hNN11 := Lay.keep1 hNN11 hKp hlt0
   replace hN5r := Lay.keep1 hN5r hKp hlt0
   replace hN5a := Lay.keep1 hN5a hKp hlt0
   replace hN8r := Lay.keep1 hN8r hKp hlt0
   replace hN8a := Lay.keep1 hN8a hKp hlt0
   clear hKp hW10
   refine St.nil fun a14 h14 => ?_
   refine hK12 _ _ ?_
   refine wp_ret ?_; with_reducible repeat first | refine of_then_ret ?_ | refine of_block_ret ?_
   exact ret_box 0 h14 hW13 rfl rfl rfl Try.underlying54 rfl infEnd ⟨⟨pN5r, cN5r, pN5a, cN5a, pN8r, cN8r, pN8a, cN8a, pN11, cN11⟩, rfl, ⟨⟨Lay.mono hN5r (fun k hk _ => Nat.le_trans hsz hk), Lay.mono hN5a (fun k hk _ => Nat.le_trans hsz hk), hy.out.bnd⟩, ⟨Lay.mono hN8r (fun k hk _ => Nat.le_trans hsz hk), Lay.mono hN8a (fun k hk _ => Nat.le_trans hsz hk), hn.out.bnd⟩, Lay.mono hNN11 (fun k hk _ => Nat.le_trans hsz hk), hbd⟩, hW13.bel⟩

set_option maxHeartbeats 4000000 in
set_option maxRecDepth 100000 in
theorem rOwnTo_any (x : MTo) (pR pA : Option Addr) (cR cA : Nat) (w : World) (h : TIn2 w All x pR cR pA cA) (b1 : x.regs.length ≤ 4294967296) (b2 : x.args.length ≤ 4294967296) :
    Calls Try.prog 44 #[.agg #[.int .i64 x.block, .slice pR x.regs.length cR, .slice pA x.args.length cA]] w fun e w' => ∃ p c p2 c2, e = .returned (.agg #[.int .i64 x.block, .slice p x.regs.length c, .slice p2 x.args.length c2]) ∧ TIn2 w' (From w.heap.size) x p c p2 c2 ∧ Below w.heap.size w w' := by
  have hr : Hid _ := h.regs
  have hg : Hid _ := h.args
  have hbd := h.bnd
  clear h
  refine fr_enter (n := 12) Try.func44 rfl rfl rfl ?_
  intro a hF
  have hW := Wd.start w
  replace hF : Fr 12 a [(0, .agg #[.int .i64 x.block, .slice pR x.regs.length cR, .slice pA x.args.length cA])] := hF
  refine wp_seq_k fun K1 hK1 => ?_
  refine rg hF fun ops => ?_; clear hF a
  refine sB hW trivial rfl rfl ?_
  clear hW; intro w2 B2 hW2 hN; clear hN
  refine sATo hW2 trivial rfl ?_
  clear hW2; intro w3 B3 hW3 hN; clear hN
  refine St.nil fun a4 h4 => ?_
  refine hK1 _ _ ?_
  refine wp_seq_k fun K5 hK5 => ?_
  have hF6 : Fr 12 a4 [(0, .agg #[.int .i64 x.block, .slice pR x.regs.length cR, .slice pA x.args.length cA]), (1, .pointer (some ⟨B2, 0, none⟩)), (2, .pointer (some ⟨B3, 0, none⟩))] := (h4.keep (h4.keep (h4.keep h4.nil (t := 2) rfl) (t := 1) rfl) (t := 0) rfl)
  have ho1 : a4.tmps.getD 1 undef = .pointer (some ⟨B2, 0, none⟩) := h4.sl 1 _ rfl
  refine fr_draw_k 9 ([(1, fun v _ => v = .pointer (some ⟨B2, 0, none⟩)), (3, fun v _ => v = .pointer (some ⟨B2, 0, none⟩)), (4, fun v _ => v = .int .i64 x.block), (5, fun v _ => v = .pointer (some ⟨B2, 1, none⟩)), (6, fun v _ => v = .slice pR x.regs.length cR), (7, fun v w' => ∃ p c, v = .slice p x.regs.length c ∧ intsL.In w' (From w3.heap.size) x.regs [.slice p x.regs.length c]), (8, fun v _ => v = .pointer (some ⟨B2, 2, none⟩)), (9, fun v _ => v = .slice pA x.args.length cA), (10, fun v w' => ∃ p c, v = .slice p x.args.length c ∧ intsL.In w' (From w3.heap.size) x.args [.slice p x.args.length c]), (11, fun v w' => ∃ p c p2 c2, v = .agg #[.int .i64 x.block, .slice p x.regs.length c, .slice p2 x.args.length c2] ∧ TIn2 w' (From w3.heap.size) x p c p2 c2)] : PTab) (fun w' => Wd w w' [(B3, #[.int .i64 0, .slice none 0 0, .slice none 0 0], 52), (B2, #[.int .i64 x.block, .slice pR x.regs.length cR, .slice pA x.args.length cA], 52)] ∧ Below w3.heap.size w3 w') (fun w w' => Below w.heap.size w w') (outs := [1]) (gs := []) (bs := [true, true, true, true, true, true, true, true, true]) (by kernel_rfl) hF6 rfl (by kernel_rfl) (by kernel_rfl) ?hR ?hG ⟨hW3.drewN 1, drewN_below (m := 1) (Below.refl _ _)⟩ ⟨ho1, trivial⟩ ?hA ?hend
  case hR => exact ⟨fun _ _ _ _ h => h, fun _ _ _ _ h => h, fun _ _ _ _ h => h, fun _ _ _ _ h => h, fun _ _ _ _ h => h, fun v w w' hr h => by obtain ⟨p, c, h1, h2⟩ := h; exact ⟨p, c, h1, Lay.below h2 hr⟩, fun _ _ _ _ h => h, fun _ _ _ _ h => h, fun v w w' hr h => by obtain ⟨p, c, h1, h2⟩ := h; exact ⟨p, c, h1, Lay.below h2 hr⟩, fun v w w' hr h => by obtain ⟨p, c, p2, c2, h1, h2⟩ := h; exact ⟨p, c, p2, c2, h1, ⟨Lay.below h2.regs hr, Lay.below h2.args hr, h2.bnd⟩⟩, trivial⟩
  case hG => exact trivial
  case hA =>
   refine ⟨fun a w hW hk K hK => ?_, ?_⟩
   · obtain ⟨k0, -⟩ := hk
     have k0 : a.tmps.getD 1 undef = .pointer (some ⟨B2, 0, none⟩) := k0
     go_simp
     exact hK _ _ (Below.refl _ _) hW rfl
   refine ⟨fun a w hW hk K hK => ?_, ?_⟩
   · obtain ⟨k0, -⟩ := hk
     have k0 : a.tmps.getD 3 undef = .pointer (some ⟨B2, 0, none⟩) := k0
     have c0 : w.cell? ⟨B2, 0, none⟩ = some (.int .i64 x.block) := cellOf (hW.1.get 1 rfl) 0 _ rfl
     go_simp
     exact hK _ _ (Below.refl _ _) hW rfl
   refine ⟨fun a w hW hk K hK => ?_, ?_⟩
   · obtain ⟨k0, -⟩ := hk
     have k0 : a.tmps.getD 1 undef = .pointer (some ⟨B2, 0, none⟩) := k0
     go_simp
     exact hK _ _ (Below.refl _ _) hW rfl
   refine ⟨fun a w hW hk K hK => ?_, ?_⟩
   · obtain ⟨k0, -⟩ := hk
     have k0 : a.tmps.getD 5 undef = .pointer (some ⟨B2, 1, none⟩) := k0
     have c1 : w.cell? ⟨B2, 1, none⟩ = some (.slice pR x.regs.length cR) := cellOf (hW.1.get 1 rfl) 1 _ rfl
     go_simp
     exact hK _ _ (Below.refl _ _) hW rfl
   refine ⟨fun a w hW hk K hK => ?_, ?_⟩
   · obtain ⟨k0, -⟩ := hk
     have k0 : a.tmps.getD 6 undef = .slice pR x.regs.length cR := k0
     go_simp
     refine (rOwnInts_any _ _ _ w (Lay.below hr.out hW.1.bel) b1).mono ?_
     rintro e w9 ⟨p9, c9, rfl, h9, hb⟩
     exact hK _ _ hb ⟨hW.1.below hb, Below.andThen hW.2 hb⟩ ⟨p9, c9, rfl, Lay.mono h9 (fun k hk _ => Nat.le_trans hW.2.size hk)⟩
   refine ⟨fun a w hW hk K hK => ?_, ?_⟩
   · obtain ⟨k0, -⟩ := hk
     have k0 : a.tmps.getD 1 undef = .pointer (some ⟨B2, 0, none⟩) := k0
     go_simp
     exact hK _ _ (Below.refl _ _) hW rfl
   refine ⟨fun a w hW hk K hK => ?_, ?_⟩
   · obtain ⟨k0, -⟩ := hk
     have k0 : a.tmps.getD 8 undef = .pointer (some ⟨B2, 2, none⟩) := k0
     have c2 : w.cell? ⟨B2, 2, none⟩ = some (.slice pA x.args.length cA) := cellOf (hW.1.get 1 rfl) 2 _ rfl
     go_simp
     exact hK _ _ (Below.refl _ _) hW rfl
   refine ⟨fun a w hW hk K hK => ?_, ?_⟩
   · obtain ⟨k0, -⟩ := hk
     have k0 : a.tmps.getD 9 undef = .slice pA x.args.length cA := k0
     go_simp
     refine (rOwnInts_any _ _ _ w (Lay.below hg.out hW.1.bel) b2).mono ?_
     rintro e w9 ⟨p9, c9, rfl, h9, hb⟩
     exact hK _ _ hb ⟨hW.1.below hb, Below.andThen hW.2 hb⟩ ⟨p9, c9, rfl, Lay.mono h9 (fun k hk _ => Nat.le_trans hW.2.size hk)⟩
   refine ⟨fun a w hW hk K hK => ?_, ?_⟩
   · obtain ⟨k0, k1, k2, -⟩ := hk
     have k0 : a.tmps[4]?.getD undef = .int .i64 x.block := by rw [← Array.getD_eq_getD_getElem?]; exact k0
     obtain ⟨pN7, cN7, k1, hNN7⟩ := k1
     have k1 : a.tmps[7]?.getD undef = .slice pN7 x.regs.length cN7 := by rw [← Array.getD_eq_getD_getElem?]; exact k1
     obtain ⟨pN10, cN10, k2, hNN10⟩ := k2
     have k2 : a.tmps[10]?.getD undef = .slice pN10 x.args.length cN10 := by rw [← Array.getD_eq_getD_getElem?]; exact k2
     go_simp
     exact hK _ _ (Below.refl _ _) hW ⟨_, _, _, _, rfl, ⟨hNN7, hNN10, hbd⟩⟩
   trivial
  case hend =>
   intro ops a7 w7 hWD hE hFD
   obtain ⟨pr, cr, pa, ca, hd11, ⟨hTr, hTa, -⟩⟩ := hE 11 rfl
   replace hd11 : a7.tmps.getD 11 undef = .agg #[.int .i64 x.block, .slice pr x.regs.length cr, .slice pa x.args.length ca] := hd11
   have hF7 : Fr 12 a7 [(11, .agg #[.int .i64 x.block, .slice pr x.regs.length cr, .slice pa x.args.length ca]), (0, .agg #[.int .i64 x.block, .slice pR x.regs.length cR, .slice pA x.args.length cA]), (1, .pointer (some ⟨B2, 0, none⟩)), (2, .pointer (some ⟨B3, 0, none⟩))] := (hFD.cons hd11)
   clear hd11
   have hW7 : Wd w w7 [(B3, #[.int .i64 0, .slice none 0 0, .slice none 0 0], 52), (B2, #[.int .i64 x.block, .slice pR x.regs.length cR, .slice pA x.args.length cA], 52)] := hWD.1
   have hlt0 : B3 < w3.heap.size := (hW3.get 0 rfl).lt
   have hlt1 : B2 < w3.heap.size := (hW3.get 1 rfl).lt
   have hsz : w.heap.size ≤ w3.heap.size := hW3.bel.size
   clear hFD hWD hE hF6 h4
   clear hW3
   refine St.go hF7 ?_; clear hF7 a7
   refine sTk 0 hW7 rfl rfl infTo rfl rfl rfl ?_
   intro w8 hKp hW8
   replace hTr := Lay.keep1 hTr hKp hlt0
   replace hTa := Lay.keep1 hTa hKp hlt0
   clear hKp hW7
   refine St.nil fun a9 h9 => ?_
   refine hK5 _ _ ?_
   refine wp_ret ?_; with_reducible repeat first | refine of_then_ret ?_ | refine of_block_ret ?_
   exact ret_box 0 h9 hW8 rfl rfl rfl Try.underlying52 rfl infTo ⟨_, _, _, _, rfl, ⟨Lay.mono hTr (fun k hk _ => Nat.le_trans hsz hk), Lay.mono hTa (fun k hk _ => Nat.le_trans hsz hk), hbd⟩, hW8.bel⟩
end Go.Proofs.Ytmnmnokkojcodab
/-
  A slice of types that a call fills: its row, and the trees behind it.
-/
namespace Go.Proofs.Ytmnmnokkojcodab
open Go.ChangeShapes Go.WideShapes Go.ChangeAt Go.RowKit
set_option linter.unusedVariables false

/-- The slice value v owns a row of the trees l, all in blocks from lo on, the trees' own lists in other blocks than the row's. -/
structure TRow (w : World) (lo : Nat) (v : Value) {n : Nat} (l : List (TT n)) (xs : List Value) : Prop where
  own : w.ownsRow lo 90 3 v l.length xs
  kids : ∀ (i : Nat) (x : TT n), l[i]? = some x → ∃ a c, xs[i * 3]? = some (.int .i64 x.kind) ∧ xs[i * 3 + 1]? = some (.int .i64 x.r) ∧ xs[i * 3 + 2]? = some (.slice a x.len c) ∧ TIn w (But lo v) x a

theorem TRow.nil (w : World) (lo : Nat) {n : Nat} : TRow w lo (.slice none 0 0) ([] : List (TT n)) [] :=
  ⟨⟨rfl, Or.inl ⟨rfl, rfl⟩⟩, fun i x h => by simp at h⟩

/-- What it is at last: a list of trees in new memory. -/
theorem TRow.lin {w : World} {lo : Nat} {v : Value} {n : Nat} {l : List (TT n)} {xs : List Value} (h : TRow w lo v l xs) : ∃ a c, v = .slice a l.length c ∧ LIn w (From lo) l a := by
  obtain ⟨⟨h1, h2⟩, h3⟩ := h
  rcases h2 with ⟨rfl, h4⟩ | ⟨g, cap, cur, rfl, hg, hh, hn, hm, hs, ht⟩
  · have : l = [] := List.length_eq_zero_iff.1 h4
    subst this
    exact ⟨none, 0, rfl, LIn.nil⟩
  · refine ⟨_, _, rfl, fun i x hx => ?_⟩
    obtain ⟨a, c, q0, q1, q2, q3⟩ := h3 i x hx
    have hi : i < l.length := (List.getElem?_eq_some_iff.1 hx).1
    have key : ∀ j u, xs[j]? = some u → w.cell? ⟨g, j, none⟩ = some u := fun j u hj => by
      rw [← ht, List.getElem?_take] at hj
      split at hj
      · exact cellOf hh j u (by rw [← Array.getElem?_toList]; exact hj)
      · cases hj
    refine ⟨g, 0, a, c, rfl, hg, ?_, ?_, ?_, q3.mono (fun k hk _ => hk.1)⟩
    · rw [Nat.zero_add]; exact key _ _ q0
    · rw [Nat.zero_add]; exact key _ _ q1
    · rw [Nat.zero_add]; exact key _ _ q2

/-- It stays behind what turns nothing old. -/
theorem TRow.below {w w' : World} {lo : Nat} {v : Value} {n : Nat} {l : List (TT n)} {xs : List Value} (h : TRow w lo v l xs) (b : Below w.heap.size w w') : TRow w' lo v l xs := by
  obtain ⟨⟨h1, h2⟩, h3⟩ := h
  refine ⟨⟨h1, ?_⟩, fun i x hx => ?_⟩
  · rcases h2 with h4 | ⟨g, cap, cur, e, hg, hh, r⟩
    · exact Or.inl h4
    · exact Or.inr ⟨g, cap, cur, e, hg, (b.block g (lt_of_block hh)).trans hh, r⟩
  · obtain ⟨a, c, q0, q1, q2, q3⟩ := h3 i x hx
    exact ⟨a, c, q0, q1, q2, q3.below b⟩

theorem TRow.lo_le {w : World} {lo : Nat} {v : Value} {n : Nat} {l : List (TT n)} {xs : List Value} (h : TRow w lo v l xs) {g : Nat} (hg : v.ownBlock = some g) : lo ≤ g ∧ g < w.heap.size := by
  obtain ⟨⟨h1, h2⟩, h3⟩ := h
  rcases h2 with ⟨rfl, h4⟩ | ⟨g', cap, cur, rfl, hg', hh, r⟩
  · simp [Value.ownBlock] at hg
  · simp [Value.ownBlock] at hg; subst hg; exact ⟨hg', lt_of_block hh⟩

/-- One more, whose lists lie in blocks that were new when the row was as it was. -/
theorem TRow.push {w w' : World} {lo : Nat} {v : Value} {n : Nat} {l : List (TT n)} {xs : List Value} (h : TRow w lo v l xs) {x : TT n} {a : Option Addr} {c : Nat} (hx : TIn w (But lo v) x a)
    {g cap : Nat} (hg : w.grownBy w' v.ownBlock) (hat : v.ownBlock = some g ∨ g = w.heap.size)
    (ho : w'.ownsRow lo 90 3 (.slice (some ⟨g, 0, none⟩) (l.length + 1) cap) (l.length + 1) (xs ++ [.int .i64 x.kind, .int .i64 x.r, .slice a x.len c])) :
    TRow w' lo (.slice (some ⟨g, 0, none⟩) (l.length + 1) cap) (l ++ [x]) (xs ++ [.int .i64 x.kind, .int .i64 x.r, .slice a x.len c]) := by
  obtain ⟨h1, h3⟩ := h
  have hxl := h1.1
  have keep : ∀ {y : TT n} {b : Option Addr}, TIn w (But lo v) y b → TIn w' (But lo (.slice (some ⟨g, 0, none⟩) (l.length + 1) cap)) y b := fun hy => by
    refine hy.keep (fun k hk hl => ?_) (fun k hk hl => ⟨hk.1, ?_⟩)
    · exact hg.block k hl (fun e => hk.2 e.symm)
    · simp only [Value.ownBlock, ne_eq, Option.some.injEq]
      intro e
      subst e
      rcases hat with h' | h'
      · exact hk.2 h'
      · omega
  refine ⟨by rw [List.length_append]; exact ho, fun i y hy => ?_⟩
  rw [List.getElem?_append] at hy
  split at hy
  · rename_i hi
    obtain ⟨b, d, q0, q1, q2, q3⟩ := h3 i y hy
    refine ⟨b, d, ?_, ?_, ?_, keep q3⟩
    · rw [List.getElem?_append_left (by omega)]; exact q0
    · rw [List.getElem?_append_left (by omega)]; exact q1
    · rw [List.getElem?_append_left (by omega)]; exact q2
  · rename_i hi
    have hi2 : i = l.length := by
      have := (List.getElem?_eq_some_iff.1 hy).1
      simp at this
      omega
    subst hi2
    simp at hy
    subst hy
    refine ⟨a, c, ?_, ?_, ?_, keep hx⟩
    · rw [List.getElem?_append_right (by omega), hxl, Nat.sub_self]; rfl
    · rw [List.getElem?_append_right (by omega), hxl, Nat.add_sub_cancel_left]; rfl
    · rw [List.getElem?_append_right (by omega), hxl, Nat.add_sub_cancel_left]; rfl

theorem underTs : Try.prog.underlying 47 = some (.slice 90) := by kernel_rfl
theorem infoT : (Try.prog.info? 90).map (fun i => (i.zero, i.size, i.bytes)) = some (some (.agg #[.int .i64 0, .int .i64 0, .slice none 0 0]), 3, 40) := by kernel_rfl
theorem infoT_parts : ∃ i, Try.prog.info? 90 = some i ∧ i.zero = some (.agg #[.int .i64 0, .int .i64 0, .slice none 0 0]) ∧ i.size = 3 ∧ i.bytes = 40 := by
  have h := infoT
  cases hi : Try.prog.info? 90 with
  | none => rw [hi] at h; cases h
  | some i => rw [hi] at h; simp at h; exact ⟨i, rfl, h.1, h.2.1, h.2.2⟩
theorem news3 (w : World) (p q r : Value) : ∀ j u, [p, q, r][j]? = some u → (w.alloc (.cells #[p, q, r] 90)).cell? ((⟨w.heap.size, 0, none⟩ : Addr).add j) = some u := by
  intro j u h
  match j, h with
  | 0, h => simp at h; subst h; exact cellOf (blockNew w _ _) 0 _ rfl
  | 1, h => simp at h; subst h; exact cellOf (blockNew w _ _) 1 _ rfl
  | 2, h => simp at h; subst h; exact cellOf (blockNew w _ _) 2 _ rfl
  | j + 3, h => simp at h
theorem one3 (k r : Int) (a : Option Addr) (l c : Nat) : ∀ u ∈ [Value.int .i64 k, Value.int .i64 r, Value.slice a l c], u.oneCell' = true := by
  intro u h
  simp at h
  rcases h with rfl | rfl | rfl <;> rfl
end Go.Proofs.Ytmnmnokkojcodab
/-
  OwnType and OwnTypes: the same tree in new memory.
-/
namespace Go.Proofs.Ytmnmnokkojcodab
open Go.ChangeShapes Go.WideShapes Go.ChangeAt Go.RowKit
set_option linter.unusedVariables false

/-- A tree, or a list of trees, in new memory; nothing old has turned. -/
def TOut {n : Nat} (w w' : World) (t : TT n) (e : Ending) : Prop := ∃ a' c', e = .returned (Tv t a' c') ∧ TIn w' (From w.heap.size) t a' ∧ Below w.heap.size w w'
def LOut {n : Nat} (w w' : World) (l : List (TT n)) (e : Ending) : Prop := ∃ a' c', e = .returned (.slice a' l.length c') ∧ LIn w' (From w.heap.size) l a' ∧ Below w.heap.size w w'

def OwnAt (n : Nat) : Prop := ∀ (t : TT n) (a : Option Addr) (c : Nat) (w : World), TIn w All t a → t.count ≤ 2000 →
    Calls Try.prog 68 #[Tv t a c] w fun e w' => TOut w w' t e

set_option maxHeartbeats 4000000 in
set_option maxRecDepth 100000 in
theorem owns_any (n : Nat) (IH0 : OwnAt n) (l : List (TT n)) (a : Option Addr) (c : Nat) (w : World) (hl0 : LIn w All l a) (hlen : l.length ≤ 2000) (hco0 : ∀ x ∈ l, x.count ≤ 2000) :
    Calls Try.prog 42 #[.slice a l.length c] w fun e w' => LOut w w' l e := by
  have IH : Hid (OwnAt n) := IH0
  have hl : Hid (LIn w All l a) := hl0
  have hco : Hid (∀ x ∈ l, x.count ≤ 2000) := hco0
  clear IH0 hl0 hco0
  obtain ⟨i0, hi, hz0, hz1, hz2⟩ := infoT_parts
  go_enter Try.func42, Try.ntmps42
  go_wp2_with fail
  go_loopw [3, 4] (fun v i wr => ∃ q : Nat, q ≤ l.length ∧ i = .int .i64 q ∧ (∃ xs, TRow wr w.heap.size v (l.take q) xs) ∧ Below w.heap.size w wr) (fun _ i _ => l.length - (intOf i).toNat)
  case atStart => exact ⟨0, Nat.zero_le _, rfl, ⟨_, TRow.nil _ _⟩, Below.refl _ _⟩
  case round =>
    obtain ⟨q, hq, rfl, ⟨xs, hr⟩, hb⟩ := hrel
    have R : Hid (TRow wr w.heap.size u3 (l.take q) xs) := hr
    have B : Hid (Below w.heap.size w wr) := hb
    clear hr hb
    by_cases hlt : q < l.length
    · have hx : l[q]? = some l[q] := List.getElem?_eq_getElem hlt
      generalize l[q] = x at hx
      obtain ⟨g, o, a', c', rfl, _, d0, d1, d2, hk⟩ := LIn.at (hl.out.below B.out) hx
      have C : Hid (Calls Try.prog 68 #[Tv x a' c'] wr fun e w' => TOut wr w' x e) :=
        IH.out x a' c' _ hk (hco.out x (List.mem_of_getElem? hx))
      have T : Hid (l.take (q + 1) = l.take q ++ [x]) := by show _ = _; rw [List.take_add_one, hx]; rfl
      have hlq : Hid ((l.take q).length = q) := by show _ = _; simp; omega
      clear hk hx
      simp only [Tv] at C
      have hk0 : (0 : Int) ≤ q := by omega
      have hk1 : (q : Int) < l.length := by omega
      have hk2 : (q : Int) < 2000 := by omega
      go_wp2_with fail
      refine C.out.mono ?_
      rintro e w2 ⟨a2, c2, rfl, t2, b2⟩
      simp only [Tv]
      have R2 := R.out.below b2
      have hT2 : TIn w2 (But w.heap.size u3) x a2 := t2.mono (fun k hk _ => ⟨Nat.le_trans B.out.size hk, fun e => by have := (R.out.lo_le e).2; omega⟩)
      have hB2 : Below w.heap.size w w2 := B.out.trans (b2.mono B.out.size)
      have hown := R2.own
      rw [hlq.out] at hown
      have PU : Hid (∀ g2 cap2 w9, w9.ownsRow w.heap.size 90 3 (.slice (some ⟨g2, 0, none⟩) (q + 1) cap2) (q + 1) (xs ++ [.int .i64 x.kind, .int .i64 x.r, .slice a2 x.len c2]) → (w2.alloc (.cells #[.int .i64 x.kind, .int .i64 x.r, .slice a2 x.len c2] 90)).grownBy w9 u3.ownBlock → (u3.ownBlock = some g2 ∨ g2 = w2.heap.size + 1) →
          (∃ xs, TRow w9 w.heap.size (.slice (some ⟨g2, 0, none⟩) (q + 1) cap2) (l.take (q + 1)) xs) ∧ Below w.heap.size w w9) := by
        intro g2 cap2 w9 h1 h2 h3
        have b3 : Below w2.heap.size w2 (w2.alloc (.cells #[.int .i64 x.kind, .int .i64 x.r, .slice a2 x.len c2] 90)) := (Below.refl _ w2).alloc (Nat.le_refl _) _
        have := (R2.below b3).push (x := x) (a := a2) (c := c2) (cap := cap2) (hT2.below b3) h2 (by simpa using h3) (by rw [hlq.out]; exact h1)
        rw [hlq.out] at this
        refine ⟨⟨_, by rw [T.out]; exact this⟩, ?_⟩
        exact (hB2.alloc hB2.size _).grown h2 (by simp; have := hB2.size; omega) (fun k hk => (R.out.lo_le hk).1)
      have hsz := hB2.size
      clear C d0 d1 d2 t2 b2 R2 hT2 hB2
      generalize x.kind = kx at PU ⊢
      generalize x.r = rx at PU ⊢
      generalize x.len = lx at PU ⊢
      go_wp2_with (at_builtin; refine wpList_append_lies _ rfl (.tmp 11) (.tmp 17) 47 rfl w.heap.size 90 i0 (.agg #[.int .i64 0, .int .i64 0, .slice none 0 0]) 3 40 underTs hi hz0 hz1 hz2 rfl (by decide) _ _ _ rfl (hown.alloc _) ⟨w2.heap.size, 0, none⟩ 1 1 [.int .i64 kx, .int .i64 rx, .slice a2 lx c2] rfl rfl (news3 _ _ _ _) (one3 _ _ _ _ _) (by decide) (by unfold maxLen; omega) (by omega) (by simp; omega) (w2.heap.size + 1) (by simp) ?_)
      intro g2 cap2 w9 h1 hgrow hat hlt1
      have U2 : Hid _ := PU.out g2 cap2 w9 h1 hgrow hat
      clear h1 hgrow hat hlt1 hown PU R
      go_wp2
      go_roundw
      case rel => exact ⟨q + 1, by omega, by go_num, U2.out.1, U2.out.2⟩
      case measure => simp [intOf]; omega
    · have hk1 : ¬ (q : Int) < l.length := by omega
      have htt : l.take q = l := List.take_of_length_le (by omega)
      have hr := R.out
      rw [htt] at hr
      obtain ⟨a2, c2, rfl, h2⟩ := hr.lin
      have L : Hid (LIn wr (From w.heap.size) l a2) := h2
      clear R h2 hr htt
      go_wp2
      go_ret
      exact ⟨a2, c2, rfl, L.out, B.out⟩

/-- The box of a type that came in and the cells of the result behind it. -/
structure Bx2 (w wr : World) (k r : Int) (a : Option Addr) (len c : Nat) : Prop where
  bel : Below w.heap.size w wr
  box : wr.heap[w.heap.size]? = some (.cells #[.int .i64 k, .int .i64 r, .slice a len c] 90 (0, 0))
  res : wr.heap[w.heap.size + 1]? = some (.cells #[.int .i64 0, .int .i64 0, .slice none 0 0] 90 (0, 0))
theorem Bx2.start (w : World) (k r : Int) (a : Option Addr) (len c : Nat) : Bx2 w ((w.alloc (.cells #[.int .i64 k, .int .i64 r, .slice a len c] 90)).alloc (.cells #[.int .i64 0, .int .i64 0, .slice none 0 0] 90)) k r a len c :=
  ⟨((Below.refl _ w).alloc (Nat.le_refl _) _).alloc (by simp) _, (Below.heap_alloc _ _ _ (by simp)).trans (blockNew w _ _), by have := blockNew (w.alloc (.cells #[.int .i64 k, .int .i64 r, .slice a len c] 90)) #[.int .i64 0, .int .i64 0, .slice none 0 0] 90; simpa using this⟩
theorem Bx2.below {w wr w' : World} {k r : Int} {a : Option Addr} {len c : Nat} (h : Bx2 w wr k r a len c) (b : Below wr.heap.size wr w') : Bx2 w w' k r a len c :=
  ⟨h.bel.trans (b.mono h.bel.size), box_cells h.box b, box_cells h.res b⟩
theorem Bx2.stored {w wr : World} {k r : Int} {a : Option Addr} {len c : Nat} (h : Bx2 w wr k r a len c) (k' r' : Int) (a' : Option Addr) (len' c' : Nat) :
    (((wr.setCell ⟨w.heap.size + 1, 0, none⟩ (.int .i64 k')).setCell ⟨w.heap.size + 1, 1, none⟩ (.int .i64 r')).setCell ⟨w.heap.size + 1, 2, none⟩ (.slice a' len' c')).heap[w.heap.size + 1]? = some (.cells #[.int .i64 k', .int .i64 r', .slice a' len' c'] 90 (0, 0)) ∧
    Below w.heap.size w (((wr.setCell ⟨w.heap.size + 1, 0, none⟩ (.int .i64 k')).setCell ⟨w.heap.size + 1, 1, none⟩ (.int .i64 r')).setCell ⟨w.heap.size + 1, 2, none⟩ (.slice a' len' c')) := by
  refine ⟨?_, ((h.bel.setCell (by simp) _).setCell (by simp) _).setCell (by simp) _⟩
  have h1 := blockSet h.res 0 (.int .i64 k')
  have h2 := blockSet h1 1 (.int .i64 r')
  have h3 := blockSet h2 2 (.slice a' len' c')
  simpa using h3

set_option maxHeartbeats 4000000 in
set_option maxRecDepth 100000 in
theorem own_any : ∀ n, OwnAt n := by
  intro n
  induction n with
  | zero => intro t; exact Empty.elim t
  | succ n ih =>
    intro t a c w ht hc
    have hco : ∀ x ∈ t.2.2, x.count ≤ 2000 := fun x hx => by have := t.count_kid hx; omega
    have hlen : t.2.2.length ≤ 2000 := by have := t.len_lt_count; rw [t.len_eq] at this; omega
    have C : Hid (∀ wx, Below w.heap.size w wx → Calls Try.prog 42 #[.slice a t.2.2.length c] wx fun e w' => LOut wx w' t.2.2 e) :=
      fun wx hb => owns_any n ih t.2.2 a c wx (ht.below hb) hlen hco
    have P : Hid (∀ e wx w', Below w.heap.size w wx → (∃ a' c', e = .returned (.agg #[.int .i64 t.kind, .int .i64 t.r, .slice a' t.2.2.length c']) ∧ LIn w' (From wx.heap.size) t.2.2 a' ∧ Below w.heap.size w w') → TOut w w' t e) := by
      rintro e wx w' hb ⟨a', c', rfl, h1, h2⟩
      exact ⟨a', c', rfl, h1.mono (fun k hk _ => Nat.le_trans hb.size hk), h2⟩
    simp only [Tv, TT.len_eq]
    generalize t.kind = k at P ⊢
    generalize t.r = r at P ⊢
    generalize hll : t.2.2 = l at C P ⊢
    clear hco hlen hc ht ih hll
    go_enter Try.func68, Try.ntmps68
    go_wp2_with fail
    have X1 : Hid (Bx2 w ((w.alloc (.cells #[.int .i64 k, .int .i64 r, .slice a l.length c] 90)).alloc (.cells #[.int .i64 0, .int .i64 0, .slice none 0 0] 90)) k r a l.length c) := Bx2.start w k r a l.length c
    have hsz : w.heap.size + 1 < ((w.alloc (.cells #[.int .i64 k, .int .i64 r, .slice a l.length c] 90)).alloc (.cells #[.int .i64 0, .int .i64 0, .slice none 0 0] 90)).heap.size := by simp
    generalize (w.alloc (.cells #[.int .i64 k, .int .i64 r, .slice a l.length c] 90)).alloc (.cells #[.int .i64 0, .int .i64 0, .slice none 0 0] 90) = w1 at X1 hsz ⊢
    have C1 : Hid (∀ m, Calls Try.prog 42 #[.slice a l.length c] (w1.drewN m) fun e w' => LOut w1 w' l e ∧ Bx2 w w' k r a l.length c) := fun m =>
      (C.out (w1.drewN m) (drewN_below X1.out.bel)).mono (fun e w' h => by
        obtain ⟨a', c', h1, h2, h3⟩ := h
        exact ⟨⟨a', c', h1, h2, undrewN_below h3⟩, X1.out.below (undrewN_below h3)⟩)
    have e0 := cellOf X1.out.box 0 _ rfl
    have e1 := cellOf X1.out.box 1 _ rfl
    have e2 := cellOf X1.out.box 2 _ rfl
    clear C
    go_region_with (go_at_call 42; refine (C1.out 1).mono ?_; rintro e w5 ⟨⟨a2, c2, rfl, l2, b2⟩, x5⟩; have f0 := cellOf x5.box 0 _ rfl; have f1 := cellOf x5.box 1 _ rfl; have g0 := cellOf x5.res 0 _ rfl; have g1 := cellOf x5.res 1 _ rfl; have g2 := cellOf x5.res 2 _ rfl; have z0 := freeOf x5.res 0; have z1 := freeOf x5.res 1; have z2 := freeOf x5.res 2; have X5 : Hid _ := And.intro l2 x5; clear l2 b2 x5)
    all_goals
      have D := X5.out.2.stored k r a2 l.length c2
      have D2 : TOut w (((w5.setCell ⟨w.heap.size + 1, 0, none⟩ (.int .i64 k)).setCell ⟨w.heap.size + 1, 1, none⟩ (.int .i64 r)).setCell ⟨w.heap.size + 1, 2, none⟩ (.slice a2 l.length c2)) t (.returned (.agg #[.int .i64 k, .int .i64 r, .slice a2 l.length c2])) :=
        P.out _ w1 _ X1.out.bel ⟨a2, c2, rfl, ((X5.out.1.setCell (by simp; omega) _).setCell (by simp; omega) _).setCell (by simp; omega) _, D.2⟩
      have DD : Hid _ := D2
      have x0 := cellOf D.1 0 _ rfl
      have x1 := cellOf D.1 1 _ rfl
      have x2 := cellOf D.1 2 _ rfl
      clear D D2 X5 e0 e1 e2 f0 f1 g0 g1 g2 z0 z1 z2 P C1
      generalize ((w5.setCell ⟨w.heap.size + 1, 0, none⟩ (.int .i64 k)).setCell ⟨w.heap.size + 1, 1, none⟩ (.int .i64 r)).setCell ⟨w.heap.size + 1, 2, none⟩ (.slice a2 l.length c2) = w9 at DD x0 x1 x2 ⊢
      go_wp2
      exact bodyPost_ret (v := .agg #[.int .i64 k, .int .i64 r, .slice a2 l.length c2]) (by simp [results, Try.results68, go_sem, x0, x1, x2]) rfl DD.out
end Go.Proofs.Ytmnmnokkojcodab
/-
  Rows that are filled by and by, types as they lie, and what a list's owner starts and ends with.
-/
namespace Go.Proofs.Ytmnmnokkojcodab
open Go.ChangeShapes Go.WideShapes Go.ChangeAt Go.RowKit
set_option linter.unusedVariables false
set_option linter.unusedSimpArgs false

structure TP where
  p : Option Addr
  c : Nat
structure YIn (w : World) (O : Nat → Prop) {n : Nat} (x : TT n) (i : TP) : Prop where
  tree : TIn w O x i.p
  ok : x.ok
section
variable {w w' : World} {O O' : Nat → Prop} {n : Nat} {x : TT n} {i : TP}
theorem YIn.keep (hb : ∀ k, O k → k < w.heap.size → w'.heap[k]? = w.heap[k]?) (hl : ∀ k, O k → k < w.heap.size → O' k) (h : YIn w O x i) : YIn w' O' x i := ⟨h.tree.keep hb hl, h.ok⟩
theorem YIn.below (h : YIn w O x i) (hbl : Below w.heap.size w w') : YIn w' O x i := h.keep (fun k _ hk => hbl.block k hk) (fun _ h _ => h)
theorem YIn.mono (h : YIn w O x i) (hl : ∀ k, O k → k < w.heap.size → O' k) : YIn w O' x i := h.keep (fun k _ _ => rfl) hl
theorem type_shut (h : YIn w O x i) : (Lay.tt n).In w O x [.int .i64 x.kind, .int .i64 x.r, .slice i.p x.len i.c] := ⟨i.p, i.c, rfl, h.tree, h.ok⟩
theorem type_at {l : List (TT n)} {p : Option Addr} {m c : Nat} (h : (Lay.tt n).list.In w O l [.slice p m c]) {q : Nat} (hx : l[q]? = some x) :
    ∃ (g o : Nat) (i : TP), p = some ⟨g, o, none⟩ ∧ w.rangeAt g (o + q * 3) [.int .i64 x.kind, .int .i64 x.r, .slice i.p x.len i.c] ∧ YIn w O x i := by
  obtain ⟨g, o, ds, e, h1, h2, h3, h4⟩ := Lay.list_at h hx
  obtain ⟨a, c, rfl, h5, h6⟩ := h4
  have hs : (Lay.tt n).size = 3 := rfl
  rw [hs] at h3
  exact ⟨g, o, ⟨a, c⟩, e, fun j v hj => (h3 j (by have := (List.getElem?_eq_some_iff.1 hj).1; simpa using this)).trans hj, h5, h6⟩
end

theorem Wd.of {w0 w : World} (b : Below w0.heap.size w0 w) : Wd w0 w [] := ⟨b, fun i x h => by simp at h, fun i x h => by simp at h, fun i j x y h => by simp at h⟩

section
variable {α : Type} {A : Lay α} {e : TypeId} {w w' : World} {lo g n q s : Nat} {l : List α} {xs : List Value} {x : α} {ds : List Value}
theorem ARow.start {m : Nat} (hs : A.size = s) (h : w.ownsRow lo e s (.slice (some ⟨g, 0, none⟩) m m) m xs) : ARow A e w lo (.slice (some ⟨g, 0, none⟩) 0 m) (l.take 0) [] := by
  subst hs
  obtain ⟨hl, h2⟩ := h
  rcases h2 with ⟨h', _⟩ | ⟨g', cap', cur, h', hb, hg, hnc, hcm, hcs, htake⟩
  · simp at h'
  · simp only [Value.slice.injEq, Option.some.injEq, Addr.mk.injEq, and_true, true_and] at h'
    obtain ⟨rfl, rfl⟩ := h'
    exact ⟨⟨by simp, .inr ⟨g, m, cur, rfl, hb, hg, Nat.zero_le _, hcm, hcs, by simp⟩⟩, fun i x h => by simp at h⟩
theorem ARow.blk (h : ARow A e w lo (.slice (some ⟨g, 0, none⟩) q n) l xs) (hs : A.size = s) : ∃ c, Blk w g c e ∧ c.size = n * s := by
  subst hs
  obtain ⟨hl, h2⟩ := h.own
  rcases h2 with ⟨h', _⟩ | ⟨g', cap', cur, h', hb, hg, hnc, hcm, hcs, htake⟩
  · simp at h'
  · simp only [Value.slice.injEq, Option.some.injEq, Addr.mk.injEq, and_true, true_and] at h'
    obtain ⟨rfl, -, rfl⟩ := h'
    exact ⟨cur, hg, hcs⟩
theorem ARow.fillq (h : ARow A e w lo (.slice (some ⟨g, 0, none⟩) q n) (l.take q) xs) (hs : A.size = s) (hq : q < l.length) (hn : l.length = n) (hx0 : l[q]? = some x) (hx : A.In w (fun k => lo ≤ k ∧ k ≠ g) x ds) (hw : w' = w.setCells g (0 + q * s) ds) :
    ∃ xs', ARow A e w' lo (.slice (some ⟨g, 0, none⟩) (q + 1) n) (l.take (q + 1)) xs' := by
  subst hs hw
  have hlq : (l.take q).length = q := by simp; omega
  have T : l.take (q + 1) = l.take q ++ [x] := by rw [List.take_add_one, hx0]; rfl
  have := ARow.fill (l := l.take q) (g := g) (n := n) (by rw [hlq]; exact h) hx (by omega)
  rw [hlq] at this
  rw [T, Nat.zero_add]
  exact ⟨_, this⟩
theorem ARow.done (h : ARow A e w lo (.slice (some ⟨g, 0, none⟩) q n) (l.take q) xs) (hq : q = l.length) : A.list.In w (From lo) l [.slice (some ⟨g, 0, none⟩) l.length n] := by
  have := h.lay
  subst hq
  rw [List.take_length] at this
  exact this
end
section
variable {n : Nat} {a : Act} {L : List (Tmp × Value)} {w0 w : World} {Bs : List (Nat × Array Value × TypeId)} {Q : Exit → Act → World → Prop} {ops : Array Oper} {rest : List Oper} {t : Tmp} {u v : Value} {ty ty2 ty3 : TypeId} {pos : String} {aft : Array Edge} {gd : Option (Nat × Bool)} {x y : Operand}
theorem sRowk {g j : Nat} {c : Array Value} {bt : TypeId} {cells : List Value} (hW : Wd w0 w Bs) (hg : w0.heap.size ≤ g) (hne : ∀ (i : Nat) x, Bs[i]? = some x → x.1 ≠ g) (hB : Blk w g c bt)
    (hx : evalL L x = some (.pointer (some ⟨g, j, none⟩))) (hy : evalL L y = some (.agg cells.toArray)) (hi : (Try.prog.info? ty2).map (·.size) = some cells.length) (h1 : cells.all (·.oneCell') = true) (hs : j + cells.length ≤ c.size)
    (k : ∀ w', Wd w0 w' Bs → w' = w.setCells g j cells → St n L ops Q rest w') : St n L ops Q (⟨none, .store ty2 x y, ty, pos, aft, none⟩ :: rest) w :=
  sRow hW hg hne hB hx hy hi h1 hs (fun h => k _ h rfl)
end
theorem underIns : Try.prog.underlying 75 = some (.slice 46) := by kernel_rfl
theorem underBlocks : Try.prog.underlying 48 = some (.slice 77) := by kernel_rfl
theorem underFuncs : Try.prog.underlying 37 = some (.slice 50) := by kernel_rfl
theorem parts_of {t : TypeId} {z : Value} {s b : Nat} (h : (Try.prog.info? t).map (fun i => (i.zero, i.size, i.bytes)) = some (some z, s, b)) : ∃ i, Try.prog.info? t = some i ∧ i.zero = some z ∧ i.size = s ∧ i.bytes = b := by
  obtain ⟨i, hi, e⟩ := Option.map_eq_some_iff.1 h
  simp only [Prod.mk.injEq] at e
  exact ⟨i, hi, e⟩
theorem infoIns : (Try.prog.info? 46).map (fun i => (i.zero, i.size, i.bytes)) = some (some (.agg #[.int .i64 0, .int .i64 0, .int .i64 0, .int .i64 0, .int .i64 0, .int .i64 0, .slice none 0 0, .slice none 0 0]), 8, 96) := by kernel_rfl
theorem infoBlock : (Try.prog.info? 77).map (fun i => (i.zero, i.size, i.bytes)) = some (some (.agg #[.int .i64 0, .slice none 0 0, .slice none 0 0, .int .i64 0, .int .i64 0, .int .i64 0, .slice none 0 0, .slice none 0 0, .int .i64 0, .slice none 0 0, .slice none 0 0, .slice none 0 0]), 12, 208) := by kernel_rfl
theorem infoFunc : (Try.prog.info? 50).map (fun i => (i.zero, i.size, i.bytes)) = some (some (.agg #[.int .i64 0, .slice none 0 0, .slice none 0 0, .slice none 0 0]), 4, 80) := by kernel_rfl
end Go.Proofs.Ytmnmnokkojcodab
/-
  Rows that grow by append beside boxes: the step of append, worlds joined, what is kept but for one box.
-/
namespace Go.Proofs.Ytmnmnokkojcodab
open Go.ChangeShapes Go.WideShapes Go.ChangeAt Go.RowKit
set_option linter.unusedVariables false
set_option linter.unusedSimpArgs false

theorem Wd.join {w0 w1 w2 : World} {Bs Bs' : List (Nat × Array Value × TypeId)} (h1 : Wd w0 w1 Bs) (h2 : Wd w1 w2 Bs') : Wd w0 w2 (Bs' ++ Bs) := by
  have sp : ∀ (i : Nat) x, (Bs' ++ Bs)[i]? = some x → (Bs'[i]? = some x ∧ i < Bs'.length) ∨ (Bs[i - Bs'.length]? = some x ∧ Bs'.length ≤ i) := fun i x hx => by
    rcases Nat.lt_or_ge i Bs'.length with h | h
    · rw [List.getElem?_append_left h] at hx; exact .inl ⟨hx, h⟩
    · rw [List.getElem?_append_right h] at hx; exact .inr ⟨hx, h⟩
  refine ⟨Below.andThen h1.bel h2.bel, fun i x hx => ?_, fun i x hx => ?_, fun i j x y hx hy e => ?_⟩
  · rcases sp i x hx with ⟨h, _⟩ | ⟨h, _⟩
    · exact h2.blk i x h
    · exact (h1.blk _ x h).below h2.bel
  · rcases sp i x hx with ⟨h, _⟩ | ⟨h, _⟩
    · exact Nat.le_trans h1.bel.size (h2.new i x h)
    · exact h1.new _ x h
  · rcases sp i x hx with ⟨h, hi⟩ | ⟨h, hi⟩ <;> rcases sp j y hy with ⟨h', hj⟩ | ⟨h', hj⟩
    · exact h2.nd i j x y h h' e
    · have := h2.new i x h; have := (h1.blk _ y h').lt; omega
    · have := h2.new j y h'; have := (h1.blk _ x h).lt; omega
    · have := h1.nd _ _ x y h h' e; omega

/-- Of what lies below lo nothing but the block B has turned. -/
def KeepBut (lo B : Nat) (w w' : World) : Prop := ∀ k, k < lo → k ≠ B → w'.heap[k]? = w.heap[k]?
section
variable {lo B s : Nat} {w w1 w2 : World}
theorem KeepBut.refl (lo B : Nat) (w : World) : KeepBut lo B w w := fun _ _ _ => rfl
theorem KeepBut.below (h : KeepBut lo B w w1) (b : Below s w1 w2) (hs : lo ≤ s) : KeepBut lo B w w2 := fun k hk hne => (b.block k (by omega)).trans (h k hk hne)
theorem KeepBut.grown {row : Option Nat} (h : KeepBut lo B w w1) (b : w1.grownBy w2 row) (hs : lo ≤ w1.heap.size) (hr : ∀ k, row = some k → lo ≤ k) : KeepBut lo B w w2 := fun k hk hne => (b.block k (by omega) (fun e => by have := hr k e.symm; omega)).trans (h k hk hne)
theorem KeepBut.keep1 (h : KeepBut lo B w w1) (b : Keep1 B w1 w2) : KeepBut lo B w w2 := fun k hk hne => (b k hne).trans (h k hk hne)
theorem Lay.keepBut {α : Type} {A : Lay α} {O O' : Nat → Prop} {x : α} {cs : List Value} (h : A.In w O x cs) (hk : KeepBut lo B w w1) (ho : ∀ k, O k → k < w.heap.size → k < lo ∧ k ≠ B) (ho' : ∀ k, O k → k < w.heap.size → O' k) : A.In w1 O' x cs :=
  A.keep (fun k hO hl => hk k (ho k hO hl).1 (ho k hO hl).2) ho' h
end

section
variable {α : Type} {A : Lay α} {e : TypeId} {w w' : World} {lo B : Nat} {v : Value} {l : List α} {xs : List Value}
theorem ARow.keep1 (h : ARow A e w lo v l xs) (hk : Keep1 B w w') (hB : B < lo) : ARow A e w' lo v l xs := by
  obtain ⟨⟨h1, h2⟩, h3⟩ := h
  refine ⟨⟨h1, ?_⟩, fun i x hx => A.keep (fun k hO _ => hk k (by have := hO.1; omega)) (fun _ h _ => h) (h3 i x hx)⟩
  rcases h2 with h4 | ⟨g, cap, cur, e, hg, hh, r⟩
  · exact Or.inl h4
  · exact Or.inr ⟨g, cap, cur, e, hg, (hk g (by omega)).trans hh, r⟩
theorem ARow.form (h : ARow A e w lo v l xs) : ∃ a c, v = .slice a l.length c := by
  rcases h.own.2 with ⟨rfl, h4⟩ | ⟨g, cap, cur, rfl, _⟩
  · exact ⟨none, 0, by rw [h4]⟩
  · exact ⟨_, _, rfl⟩
theorem ARow.nil' (A : Lay α) (e : TypeId) (w : World) (lo : Nat) : ARow A e w lo (.slice none 0 0) (l.take 0) [] := ARow.nil A e w lo
theorem ARow.own_lt (h : ARow A e w lo v l xs) {k : Nat} (hk : w.heap.size ≤ k) : v.ownBlock ≠ some k := fun e => by have := (h.lo_le e).2; omega
theorem ARow.one (h : ARow A e w lo v l xs) : v.cells = #[v] ∧ v.oneCell' = true := by
  obtain ⟨a, c, rfl⟩ := h.form
  exact ⟨rfl, rfl⟩
end

section
variable {n : Nat} {a : Act} {L : List (Tmp × Value)} {w0 w : World} {Bs : List (Nat × Array Value × TypeId)} {Q : Exit → Act → World → Prop} {ops : Array Oper} {rest : List Oper} {t : Tmp} {u v : Value} {ty ty2 ty3 : TypeId} {pos : String} {aft : Array Edge} {x y : Operand}
/-- append of one. -/
theorem sApp {α : Type} {A : Lay α} {tS e bt : TypeId} {i0 : TypeInfo} {z : Value} {s bytes lo G : Nat} {l : List α} {xs ds : List Value} {xd : α}
    (hu : Try.prog.underlying tS = some (.slice e)) (hi : Try.prog.info? e = some i0) (hz : i0.zero = some z) (hsz : i0.size = s) (hby : i0.bytes = bytes) (hzs : z.cells.size = s) (h0 : 0 < s) (hs : A.size = s)
    (hW : Wd w0 w Bs) (hlo : w0.heap.size ≤ lo) (hBlo : ∀ (i : Nat) x, Bs[i]? = some x → x.1 < lo) (hR : ARow A e w lo u l xs) (hlow : lo ≤ w.heap.size) (hG : Blk w G ds.toArray bt)
    (hIn : A.In w (fun k => lo ≤ k ∧ u.ownBlock ≠ some k) xd ds) (hone : ds.all (·.oneCell') = true) (hlen : l.length < 4294967296) (hbyt : bytes ≤ 1000)
    (hx : evalL L x = some u) (hy : evalL L y = some (.slice (some ⟨G, 0, none⟩) 1 1)) (ht : Nat.blt t n = true)
    (k : ∀ g cap w', ARow A e w' lo (.slice (some ⟨g, 0, none⟩) (l.length + 1) cap) (l ++ [xd]) (xs ++ ds) → w.grownBy w' u.ownBlock → Wd w0 w' Bs → St n ((t, .slice (some ⟨g, 0, none⟩) (l.length + 1) cap) :: L) ops Q rest w') :
    St n L ops Q (⟨some t, .call { callee := .builtin .append, args := #[x, y], argTypes := #[tS, tS] }, ty, pos, aft, none⟩ :: rest) w := fun a hF => by
  subst hs
  have hdl := A.len hIn
  have hmul : (l.length + 1) * bytes ≤ 4294967296 * 1000 := Nat.mul_le_mul (by omega) hbyt
  refine wpList_append_lies (P := Try.prog) w rfl x y tS rfl lo e i0 z A.size bytes hu hi hz hsz hby hzs h0 u l.length xs (hF.ev hx) hR.own ⟨G, 0, none⟩ 1 1 ds (hF.ev hy) (by rw [hdl, Nat.one_mul]) ?_ (by simpa using hone) (by decide) (by unfold maxLen; omega) (by omega) hlow w.heap.size rfl ?_
  · intro j v hj
    rw [show (⟨G, 0, none⟩ : Addr).add j = ⟨G, j, none⟩ from by unfold Addr.add; split <;> simp_all]
    exact cellOf hG j v (by simpa using hj)
  · intro g cap w' h1 hgrow hat hlt
    have hA := ARow.push hR hIn hgrow hat h1
    refine k g cap w' hA hgrow ⟨hW.bel.grown hgrow hW.bel.size (fun k hk => Nat.le_trans hlo (hR.lo_le hk).1), fun i y hy => ?_, hW.new, hW.nd⟩ _ (hF.put ht)
    have h9 := hBlo i y hy
    exact (hgrow.block y.1 (by omega) (fun e => by have := (hR.lo_le e.symm).1; omega)).trans (hW.blk i y hy)
end
theorem KeepBut.keep1t {lo B : Nat} {w w1 w2 : World} (h : KeepBut lo B w w1) (b : Keep1 B w1 w2) (hB : B < lo) : KeepBut lo B w w2 := h.keep1 b
theorem Lay.keepNe {α : Type} {A : Lay α} {O : Nat → Prop} {w w1 : World} {B : Nat} {x : α} {cs : List Value} (h : A.In w O x cs) (hk : Keep1 B w w1) (ho : ∀ k, O k → k ≠ B) : A.In w1 O x cs :=
  A.keep (fun k hO _ => hk k (ho k hO)) (fun _ h _ => h) h
theorem lts2 {x1 x2 : Nat × Array Value × TypeId} {lo : Nat} (h1 : x1.1 < lo) (h2 : x2.1 < lo) : ∀ (i : Nat) x, [x1, x2][i]? = some x → x.1 < lo := fun i x h => by
  match i, h with
  | 0, h => cases h; exact h1
  | 1, h => cases h; exact h2
  | i + 2, h => simp at h
theorem lts3 {x1 x2 x3 : Nat × Array Value × TypeId} {lo : Nat} (h1 : x1.1 < lo) (h2 : x2.1 < lo) (h3 : x3.1 < lo) : ∀ (i : Nat) x, [x1, x2, x3][i]? = some x → x.1 < lo := fun i x h => by
  match i, h with
  | 0, h => cases h; exact h1
  | 1, h => cases h; exact h2
  | 2, h => cases h; exact h3
  | i + 3, h => simp at h
theorem rOwnTypes_any {n : Nat} {l : List (TT n)} {p : Option Addr} {c : Nat} {w : World} (h : (typesL n).In w All l [.slice p l.length c]) (hs : tsmall l) : Calls Try.prog 42 #[.slice p l.length c] w fun e w' => LyOut (Lay.tt n) w w' l e :=
  (owns_any n (own_any n) l p c w (types_lin h).1 (by have := hs.1; omega) hs.2).mono fun e w' ⟨a', c', h1, h2, h3⟩ => ⟨a', c', h1, types_of_lin h2 (types_lin h).2, h3⟩
theorem ARow.next {α : Type} {A : Lay α} {e : TypeId} {w : World} {lo q : Nat} {v : Value} {l : List α} {xs : List Value} {x : α} (h : ARow A e w lo v (l.take q ++ [x]) xs) (hx : l[q]? = some x) : ARow A e w lo v (l.take (q + 1)) xs := by
  rw [List.take_add_one, hx]; exact h
theorem ARow.full {α : Type} {A : Lay α} {e : TypeId} {w : World} {lo q : Nat} {v : Value} {l : List α} {xs : List Value} (h : ARow A e w lo v (l.take q) xs) (hq : q = l.length) : ARow A e w lo v l xs := by
  rwa [List.take_of_length_le (by omega)] at h
end Go.Proofs.Ytmnmnokkojcodab
/-
  code.ownList: a list in new memory, element by element.
-/
namespace Go.Proofs.Ytmnmnokkojcodab
open Go.ChangeShapes Go.WideShapes Go.ChangeAt Go.RowKit
set_option linter.unusedVariables false
set_option linter.unusedSimpArgs false

set_option maxHeartbeats 4000000 in
set_option maxRecDepth 100000 in
theorem ownTypes_any {n : Nat} (l : List (TT n)) (p : Option Addr) (c : Nat) (w : World) (hl0 : (Lay.tt n).list.In w All l [.slice p l.length c]) (hb0 : l.length ≤ 4294967296)
    (hf : ∀ x ∈ l, ∀ (i : TP) (w : World), YIn w All x i → Calls Try.prog 79 #[.agg #[.int .i64 x.kind, .int .i64 x.r, .slice i.p x.len i.c]] w fun e w' => ∃ v, e = .returned v ∧ (∃ i' : TP, v = .agg #[.int .i64 x.kind, .int .i64 x.r, .slice i'.p x.len i'.c] ∧ YIn w' (From w.heap.size) x i') ∧ Below w.heap.size w w') :
    Calls Try.prog 78 #[.slice p l.length c, .func (.func 79) #[] #[]] w fun e w' => LyOut (Lay.tt n) w w' l e := by
  have hl : Hid _ := hl0
  clear hl0
  obtain ⟨i0, hi, hz0, hz1, hz2⟩ := infoT_parts
  refine fr_enter (n := 26) Try.func78 rfl rfl rfl ?_
  intro a hF
  have hW := Wd.start w
  replace hF : Fr 26 a [(0, .slice p l.length c), (1, .func (.func 79) #[] #[])] := hF
  refine wp_seq_k fun K1 hK1 => ?_
  refine rg hF fun ops => ?_; clear hF a
  refine sa trivial rfl rfl ?_
  refine St.nil fun a2 h2 => ?_
  refine hK1 _ _ ?_
  refine wp_seq_k fun K3 hK3 => ?_
  refine rg h2 fun ops => ?_; clear h2 a2
  refine sm trivial rfl rfl ?_
  refine slTypes trivial rfl rfl ?_
  refine sMake underTs hi hz0 hz1 (by rw [hz2]; omega) (by unfold maxLen; omega) hW trivial rfl rfl ?_
  rintro w4 g xs0 rfl hO hbl hW4
  clear hW
  refine sa trivial rfl rfl ?_
  refine St.nil fun a5 h5 => ?_
  refine hK3 _ _ ?_
  refine wp_seq_k fun K6 hK6 => ?_
  refine wp_seq_k fun K7 hK7 => ?_
  refine rg h5 fun ops => ?_; clear h5 a5
  refine sm trivial rfl rfl ?_
  refine slTypes trivial rfl rfl ?_
  refine sm trivial rfl rfl ?_
  refine St.nil fun a8 h8 => ?_
  refine hK7 _ _ ?_
  refine wp_block ?_
  refine fr_loop (fun r a w' => ∃ q : Nat, q ≤ l.length ∧ r = l.length - q ∧ (∃ xs, ARow (Lay.tt n) 90 w' w.heap.size (.slice (some ⟨w.heap.size, 0, none⟩) q l.length) (l.take q) xs) ∧ Fr 26 a [(1, .func (.func 79) #[] #[]), (0, .slice p l.length c), (4, .slice none 0 0), (5, .slice (some ⟨w.heap.size, 0, none⟩) l.length l.length), (11, .slice p l.length c), (12, .int .i64 (l.length : Int)), (13, .int .i64 (q : Int))] ∧ Below w.heap.size w w') l.length ⟨0, Nat.zero_le _, rfl, ⟨_, ARow.start rfl hO⟩, (h8.keep (h8.keep (h8.keep (h8.keep (h8.keep (h8.keep (h8.keep h8.nil (t := 13) rfl) (t := 12) rfl) (t := 11) rfl) (t := 5) rfl) (t := 4) rfl) (t := 0) rfl) (t := 1) rfl), hbl⟩ ?_
  clear h8 hW4 hO hbl
  rintro r a9 w9 ⟨q, hq, hr, ⟨xs, hA0⟩, hF9, hB0⟩ KL hKL
  have hA : Hid _ := hA0
  have hB : Hid _ := hB0
  clear hA0 hB0
  have hW9 := Wd.start w9
  refine wp_seq_k fun K10 hK10 => ?_
  refine rg hF9 fun ops => ?_; clear hF9 a9
  refine slt trivial rfl rfl rfl ?_
  refine St.nil fun a11 h11 => ?_
  refine hK10 _ _ ?_
  refine wp_seq_k fun K12 hK12 => ?_
  refine fr_cond (t := 14) h11 rfl (fun hb => ?_) (fun hb => ?_)
  ·have hlt1 : q < l.length := by have := of_decide_eq_true hb; omega
   clear hb
   obtain ⟨x, hx1⟩ : ∃ v9, (l)[q]? = some v9 := ⟨_, List.getElem?_eq_getElem hlt1⟩
   obtain ⟨g1, o1, y1, hp1, E1, In1⟩ := type_at (Lay.below hl.out hB.out) hx1
   replace In1 : Hid _ := In1
   replace hp1 : Hid _ := hp1
   replace hx1 : Hid _ := hx1
   replace E1 : Hid _ := E1
   have hpg : Hid ((some ⟨w.heap.size, 0, none⟩ : Option Addr) = some ⟨w.heap.size, 0, none⟩) := rfl
   refine wp_skip ?_
   refine hK12 _ _ ?_
   refine wp_seq_k fun K13 hK13 => ?_
   refine wp_block ?_
   refine wp_seq_k fun K14 hK14 => ?_
   refine rg h11 fun ops => ?_; clear h11 a11
   refine sm trivial rfl rfl ?_
   refine siTypes hp1.out hlt1 trivial rfl rfl rfl ?_
   refine sSE Try.underlying90 rfl (rangeAt_bel E1.out hW9.bel) infType trivial rfl rfl ?_
   refine sAType hW9 trivial rfl ?_
   clear hW9; intro w15 B15 hW15 hN; clear hN
   refine sa trivial rfl rfl ?_
   refine sT 0 hW15 rfl rfl infType rfl rfl rfl ?_
   clear hW15; intro w16 hW16
   refine St.nil fun a17 h17 => ?_
   refine hK14 _ _ ?_
   refine rg h17 fun ops => ?_; clear h17 a17
   refine sm trivial rfl rfl ?_
   refine sm trivial rfl rfl ?_
   refine sm trivial rfl rfl ?_
   refine sS 0 3 Try.underlying90 rfl infType hW16 trivial rfl rfl rfl rfl ?_
   refine snv_1 cf79 hW16 (hf x (List.mem_of_getElem? hx1.out) y1 _ (In1.out.below hW16.bel)) trivial rfl rfl rfl ?_
   rintro v9 w18 ⟨i2, rfl, hI⟩ hb9 hW18
   refine siTypes hpg.out hlt1 trivial rfl rfl rfl ?_
   intro a19 h19
   refine St.go h19 ?_; clear h19 a19
   have hA2 := hA.out.below hW18.bel
   obtain ⟨cg, hBk, hcs⟩ := hA2.blk (s := 3) rfl
   have hb8 : Below w.heap.size w w18 := Below.andThen hB.out hW18.bel
   have hs1 : w9.heap.size ≤ w16.heap.size := hW16.bel.size
   have hs2 : w.heap.size ≤ w9.heap.size := hB.out.size
   have hs3 := (hA.out.lo_le (g := w.heap.size) rfl).2
   have hI2 : (Lay.tt n).In w18 (fun k => w.heap.size ≤ k ∧ k ≠ w.heap.size) x [.int .i64 x.kind, .int .i64 x.r, .slice i2.p x.len i2.c] := Lay.mono (type_shut hI) (fun k hk _ => ⟨by have : _ ≤ k := hk; omega, by have : _ ≤ k := hk; omega⟩)
   clear hW18 hW16
   refine sRowk (Wd.of hb8) (Nat.le_refl _) (fun i x h => by simp at h) hBk rfl rfl infType rfl (by simp only [List.length_cons, List.length_nil]; omega) ?_
   intro w20 hW20 hwe
   obtain ⟨xs2, hA3⟩ := hA2.fillq (s := 3) (w' := w20) rfl hlt1 rfl hx1.out hI2 hwe
   clear hwe hA2 hBk hcs hI2
   refine St.nil fun a21 h21 => ?_
   refine hK13 _ _ ?_
   refine rg h21 fun ops => ?_; clear h21 a21
   refine sad (by omega) trivial rfl rfl rfl ?_
   refine sm trivial rfl rfl ?_
   refine St.nil fun a22 h22 => ?_
   exact hKL _ _ (l.length - (q + 1)) (by omega) ⟨q + 1, by omega, rfl, ⟨_, hA3⟩, (h22.keep (h22.keep (h22.keep (h22.keep (h22.keep (h22.keep (h22.keep h22.nil (t := 13) rfl) (t := 12) rfl) (t := 11) rfl) (t := 5) rfl) (t := 4) rfl) (t := 0) rfl) (t := 1) rfl), hW20.bel⟩
  have hge : q = l.length := by have := of_decide_eq_false hb; omega
  clear hb
  refine wp_exit ?_
  refine hK6 _ _ ?_
  refine wp_seq_k fun K23 hK23 => ?_
  refine rg h11 fun ops => ?_; clear h11 a11
  refine sm trivial rfl rfl ?_
  refine sa trivial rfl rfl ?_
  refine St.nil fun a24 h24 => ?_
  refine hK23 _ _ ?_
  refine wp_ret ?_; with_reducible repeat first | refine of_then_ret ?_ | refine of_block_ret ?_
  exact ret_tmp (t := 4) h24 rfl rfl ⟨_, _, rfl, hA.out.done hge, hB.out⟩

set_option maxHeartbeats 4000000 in
set_option maxRecDepth 100000 in
theorem ownInss_any (l : List (MIns)) (p : Option Addr) (c : Nat) (w : World) (hl0 : insL.list.In w All l [.slice p l.length c]) (hb0 : l.length ≤ 4294967296)
    (hf : ∀ x ∈ l, ∀ (i : IP) (w : World), IIn w All x i → Calls Try.prog 101 #[.agg #[.int .i64 x.op, .int .i64 x.a, .int .i64 x.b, .int .i64 x.c, .int .i64 x.k, .int .i64 x.n, .slice i.pR x.regs.length i.cR, .slice i.pA x.args.length i.cA]] w fun e w' => ∃ v, e = .returned v ∧ (∃ i' : IP, v = .agg #[.int .i64 x.op, .int .i64 x.a, .int .i64 x.b, .int .i64 x.c, .int .i64 x.k, .int .i64 x.n, .slice i'.pR x.regs.length i'.cR, .slice i'.pA x.args.length i'.cA] ∧ IIn w' (From w.heap.size) x i') ∧ Below w.heap.size w w') :
    Calls Try.prog 100 #[.slice p l.length c, .func (.func 101) #[] #[]] w fun e w' => LyOut insL w w' l e := by
  have hl : Hid _ := hl0
  clear hl0
  obtain ⟨i0, hi, hz0, hz1, hz2⟩ := (parts_of infoIns)
  refine fr_enter (n := 26) Try.func100 rfl rfl rfl ?_
  intro a hF
  have hW := Wd.start w
  replace hF : Fr 26 a [(0, .slice p l.length c), (1, .func (.func 101) #[] #[])] := hF
  refine wp_seq_k fun K1 hK1 => ?_
  refine rg hF fun ops => ?_; clear hF a
  refine sa trivial rfl rfl ?_
  refine St.nil fun a2 h2 => ?_
  refine hK1 _ _ ?_
  refine wp_seq_k fun K3 hK3 => ?_
  refine rg h2 fun ops => ?_; clear h2 a2
  refine sm trivial rfl rfl ?_
  refine slInss trivial rfl rfl ?_
  refine sMake underIns hi hz0 hz1 (by rw [hz2]; omega) (by unfold maxLen; omega) hW trivial rfl rfl ?_
  rintro w4 g xs0 rfl hO hbl hW4
  clear hW
  refine sa trivial rfl rfl ?_
  refine St.nil fun a5 h5 => ?_
  refine hK3 _ _ ?_
  refine wp_seq_k fun K6 hK6 => ?_
  refine wp_seq_k fun K7 hK7 => ?_
  refine rg h5 fun ops => ?_; clear h5 a5
  refine sm trivial rfl rfl ?_
  refine slInss trivial rfl rfl ?_
  refine sm trivial rfl rfl ?_
  refine St.nil fun a8 h8 => ?_
  refine hK7 _ _ ?_
  refine wp_block ?_
  refine fr_loop (fun r a w' => ∃ q : Nat, q ≤ l.length ∧ r = l.length - q ∧ (∃ xs, ARow insL 46 w' w.heap.size (.slice (some ⟨w.heap.size, 0, none⟩) q l.length) (l.take q) xs) ∧ Fr 26 a [(1, .func (.func 101) #[] #[]), (0, .slice p l.length c), (4, .slice none 0 0), (5, .slice (some ⟨w.heap.size, 0, none⟩) l.length l.length), (11, .slice p l.length c), (12, .int .i64 (l.length : Int)), (13, .int .i64 (q : Int))] ∧ Below w.heap.size w w') l.length ⟨0, Nat.zero_le _, rfl, ⟨_, ARow.start rfl hO⟩, (h8.keep (h8.keep (h8.keep (h8.keep (h8.keep (h8.keep (h8.keep h8.nil (t := 13) rfl) (t := 12) rfl) (t := 11) rfl) (t := 5) rfl) (t := 4) rfl) (t := 0) rfl) (t := 1) rfl), hbl⟩ ?_
  clear h8 hW4 hO hbl
  rintro r a9 w9 ⟨q, hq, hr, ⟨xs, hA0⟩, hF9, hB0⟩ KL hKL
  have hA : Hid _ := hA0
  have hB : Hid _ := hB0
  clear hA0 hB0
  have hW9 := Wd.start w9
  refine wp_seq_k fun K10 hK10 => ?_
  refine rg hF9 fun ops => ?_; clear hF9 a9
  refine slt trivial rfl rfl rfl ?_
  refine St.nil fun a11 h11 => ?_
  refine hK10 _ _ ?_
  refine wp_seq_k fun K12 hK12 => ?_
  refine fr_cond (t := 14) h11 rfl (fun hb => ?_) (fun hb => ?_)
  ·have hlt1 : q < l.length := by have := of_decide_eq_true hb; omega
   clear hb
   obtain ⟨x, hx1⟩ : ∃ v9, (l)[q]? = some v9 := ⟨_, List.getElem?_eq_getElem hlt1⟩
   obtain ⟨g1, o1, i1, hp1, E1, In1⟩ := ins_at (Lay.below hl.out hB.out) hx1
   replace In1 : Hid _ := In1
   replace hp1 : Hid _ := hp1
   replace hx1 : Hid _ := hx1
   replace E1 : Hid _ := E1
   have hpg : Hid ((some ⟨w.heap.size, 0, none⟩ : Option Addr) = some ⟨w.heap.size, 0, none⟩) := rfl
   refine wp_skip ?_
   refine hK12 _ _ ?_
   refine wp_seq_k fun K13 hK13 => ?_
   refine wp_block ?_
   refine wp_seq_k fun K14 hK14 => ?_
   refine rg h11 fun ops => ?_; clear h11 a11
   refine sm trivial rfl rfl ?_
   refine siInss hp1.out hlt1 trivial rfl rfl rfl ?_
   refine sSE Try.underlying46 rfl (rangeAt_bel E1.out hW9.bel) infIns trivial rfl rfl ?_
   refine sAIns hW9 trivial rfl ?_
   clear hW9; intro w15 B15 hW15 hN; clear hN
   refine sa trivial rfl rfl ?_
   refine sT 0 hW15 rfl rfl infIns rfl rfl rfl ?_
   clear hW15; intro w16 hW16
   refine St.nil fun a17 h17 => ?_
   refine hK14 _ _ ?_
   refine rg h17 fun ops => ?_; clear h17 a17
   refine sm trivial rfl rfl ?_
   refine sm trivial rfl rfl ?_
   refine sm trivial rfl rfl ?_
   refine sS 0 8 Try.underlying46 rfl infIns hW16 trivial rfl rfl rfl rfl ?_
   refine snv_1 cf101 hW16 (hf x (List.mem_of_getElem? hx1.out) i1 _ (In1.out.below hW16.bel)) trivial rfl rfl rfl ?_
   rintro v9 w18 ⟨i2, rfl, hI⟩ hb9 hW18
   refine siInss hpg.out hlt1 trivial rfl rfl rfl ?_
   intro a19 h19
   refine St.go h19 ?_; clear h19 a19
   have hA2 := hA.out.below hW18.bel
   obtain ⟨cg, hBk, hcs⟩ := hA2.blk (s := 8) rfl
   have hb8 : Below w.heap.size w w18 := Below.andThen hB.out hW18.bel
   have hs1 : w9.heap.size ≤ w16.heap.size := hW16.bel.size
   have hs2 : w.heap.size ≤ w9.heap.size := hB.out.size
   have hs3 := (hA.out.lo_le (g := w.heap.size) rfl).2
   have hI2 : insL.In w18 (fun k => w.heap.size ≤ k ∧ k ≠ w.heap.size) x [.int .i64 x.op, .int .i64 x.a, .int .i64 x.b, .int .i64 x.c, .int .i64 x.k, .int .i64 x.n, .slice i2.pR x.regs.length i2.cR, .slice i2.pA x.args.length i2.cA] := Lay.mono (ins_shut hI) (fun k hk _ => ⟨by have : _ ≤ k := hk; omega, by have : _ ≤ k := hk; omega⟩)
   clear hW18 hW16
   refine sRowk (Wd.of hb8) (Nat.le_refl _) (fun i x h => by simp at h) hBk rfl rfl infIns rfl (by simp only [List.length_cons, List.length_nil]; omega) ?_
   intro w20 hW20 hwe
   obtain ⟨xs2, hA3⟩ := hA2.fillq (s := 8) (w' := w20) rfl hlt1 rfl hx1.out hI2 hwe
   clear hwe hA2 hBk hcs hI2
   refine St.nil fun a21 h21 => ?_
   refine hK13 _ _ ?_
   refine rg h21 fun ops => ?_; clear h21 a21
   refine sad (by omega) trivial rfl rfl rfl ?_
   refine sm trivial rfl rfl ?_
   refine St.nil fun a22 h22 => ?_
   exact hKL _ _ (l.length - (q + 1)) (by omega) ⟨q + 1, by omega, rfl, ⟨_, hA3⟩, (h22.keep (h22.keep (h22.keep (h22.keep (h22.keep (h22.keep (h22.keep h22.nil (t := 13) rfl) (t := 12) rfl) (t := 11) rfl) (t := 5) rfl) (t := 4) rfl) (t := 0) rfl) (t := 1) rfl), hW20.bel⟩
  have hge : q = l.length := by have := of_decide_eq_false hb; omega
  clear hb
  refine wp_exit ?_
  refine hK6 _ _ ?_
  refine wp_seq_k fun K23 hK23 => ?_
  refine rg h11 fun ops => ?_; clear h11 a11
  refine sm trivial rfl rfl ?_
  refine sa trivial rfl rfl ?_
  refine St.nil fun a24 h24 => ?_
  refine hK23 _ _ ?_
  refine wp_ret ?_; with_reducible repeat first | refine of_then_ret ?_ | refine of_block_ret ?_
  exact ret_tmp (t := 4) h24 rfl rfl ⟨_, _, rfl, hA.out.done hge, hB.out⟩

set_option maxHeartbeats 4000000 in
set_option maxRecDepth 100000 in
theorem ownBlocks_any {n : Nat} (l : List (MBlock n)) (p : Option Addr) (c : Nat) (w : World) (hl0 : (blockL n).list.In w All l [.slice p l.length c]) (hb0 : l.length ≤ 4294967296)
    (hf : ∀ x ∈ l, ∀ (i : BP) (w : World), BIn w All x i → Calls Try.prog 81 #[.agg #[.int .i64 x.regs, .slice i.pP x.params.length i.cP, .slice i.pC x.code.length i.cC, .int .i64 x.fin.op, .int .i64 x.fin.a, .int .i64 x.fin.yes.block, .slice i.e.pYR x.fin.yes.regs.length i.e.cYR, .slice i.e.pYA x.fin.yes.args.length i.e.cYA, .int .i64 x.fin.no.block, .slice i.e.pNR x.fin.no.regs.length i.e.cNR, .slice i.e.pNA x.fin.no.args.length i.e.cNA, .slice i.e.pA x.fin.args.length i.e.cA]] w fun e w' => ∃ v, e = .returned v ∧ (∃ i' : BP, v = .agg #[.int .i64 x.regs, .slice i'.pP x.params.length i'.cP, .slice i'.pC x.code.length i'.cC, .int .i64 x.fin.op, .int .i64 x.fin.a, .int .i64 x.fin.yes.block, .slice i'.e.pYR x.fin.yes.regs.length i'.e.cYR, .slice i'.e.pYA x.fin.yes.args.length i'.e.cYA, .int .i64 x.fin.no.block, .slice i'.e.pNR x.fin.no.regs.length i'.e.cNR, .slice i'.e.pNA x.fin.no.args.length i'.e.cNA, .slice i'.e.pA x.fin.args.length i'.e.cA] ∧ BIn w' (From w.heap.size) x i') ∧ Below w.heap.size w w') :
    Calls Try.prog 80 #[.slice p l.length c, .func (.func 81) #[] #[]] w fun e w' => LyOut (blockL n) w w' l e := by
  have hl : Hid _ := hl0
  clear hl0
  obtain ⟨i0, hi, hz0, hz1, hz2⟩ := (parts_of infoBlock)
  refine fr_enter (n := 26) Try.func80 rfl rfl rfl ?_
  intro a hF
  have hW := Wd.start w
  replace hF : Fr 26 a [(0, .slice p l.length c), (1, .func (.func 81) #[] #[])] := hF
  refine wp_seq_k fun K1 hK1 => ?_
  refine rg hF fun ops => ?_; clear hF a
  refine sa trivial rfl rfl ?_
  refine St.nil fun a2 h2 => ?_
  refine hK1 _ _ ?_
  refine wp_seq_k fun K3 hK3 => ?_
  refine rg h2 fun ops => ?_; clear h2 a2
  refine sm trivial rfl rfl ?_
  refine slBlocks trivial rfl rfl ?_
  refine sMake underBlocks hi hz0 hz1 (by rw [hz2]; omega) (by unfold maxLen; omega) hW trivial rfl rfl ?_
  rintro w4 g xs0 rfl hO hbl hW4
  clear hW
  refine sa trivial rfl rfl ?_
  refine St.nil fun a5 h5 => ?_
  refine hK3 _ _ ?_
  refine wp_seq_k fun K6 hK6 => ?_
  refine wp_seq_k fun K7 hK7 => ?_
  refine rg h5 fun ops => ?_; clear h5 a5
  refine sm trivial rfl rfl ?_
  refine slBlocks trivial rfl rfl ?_
  refine sm trivial rfl rfl ?_
  refine St.nil fun a8 h8 => ?_
  refine hK7 _ _ ?_
  refine wp_block ?_
  refine fr_loop (fun r a w' => ∃ q : Nat, q ≤ l.length ∧ r = l.length - q ∧ (∃ xs, ARow (blockL n) 77 w' w.heap.size (.slice (some ⟨w.heap.size, 0, none⟩) q l.length) (l.take q) xs) ∧ Fr 26 a [(1, .func (.func 81) #[] #[]), (0, .slice p l.length c), (4, .slice none 0 0), (5, .slice (some ⟨w.heap.size, 0, none⟩) l.length l.length), (11, .slice p l.length c), (12, .int .i64 (l.length : Int)), (13, .int .i64 (q : Int))] ∧ Below w.heap.size w w') l.length ⟨0, Nat.zero_le _, rfl, ⟨_, ARow.start rfl hO⟩, (h8.keep (h8.keep (h8.keep (h8.keep (h8.keep (h8.keep (h8.keep h8.nil (t := 13) rfl) (t := 12) rfl) (t := 11) rfl) (t := 5) rfl) (t := 4) rfl) (t := 0) rfl) (t := 1) rfl), hbl⟩ ?_
  clear h8 hW4 hO hbl
  rintro r a9 w9 ⟨q, hq, hr, ⟨xs, hA0⟩, hF9, hB0⟩ KL hKL
  have hA : Hid _ := hA0
  have hB : Hid _ := hB0
  clear hA0 hB0
  have hW9 := Wd.start w9
  refine wp_seq_k fun K10 hK10 => ?_
  refine rg hF9 fun ops => ?_; clear hF9 a9
  refine slt trivial rfl rfl rfl ?_
  refine St.nil fun a11 h11 => ?_
  refine hK10 _ _ ?_
  refine wp_seq_k fun K12 hK12 => ?_
  refine fr_cond (t := 14) h11 rfl (fun hb => ?_) (fun hb => ?_)
  ·have hlt1 : q < l.length := by have := of_decide_eq_true hb; omega
   clear hb
   obtain ⟨x, hx1⟩ : ∃ v9, (l)[q]? = some v9 := ⟨_, List.getElem?_eq_getElem hlt1⟩
   obtain ⟨g1, o1, b1, hp1, E1, In1⟩ := block_at (Lay.below hl.out hB.out) hx1
   replace In1 : Hid _ := In1
   replace hp1 : Hid _ := hp1
   replace hx1 : Hid _ := hx1
   replace E1 : Hid _ := E1
   have hpg : Hid ((some ⟨w.heap.size, 0, none⟩ : Option Addr) = some ⟨w.heap.size, 0, none⟩) := rfl
   refine wp_skip ?_
   refine hK12 _ _ ?_
   refine wp_seq_k fun K13 hK13 => ?_
   refine wp_block ?_
   refine wp_seq_k fun K14 hK14 => ?_
   refine rg h11 fun ops => ?_; clear h11 a11
   refine sm trivial rfl rfl ?_
   refine siBlocks hp1.out hlt1 trivial rfl rfl rfl ?_
   refine sSE Try.underlying77 rfl (rangeAt_bel E1.out hW9.bel) infBlock trivial rfl rfl ?_
   refine sABlock hW9 trivial rfl ?_
   clear hW9; intro w15 B15 hW15 hN; clear hN
   refine sa trivial rfl rfl ?_
   refine sT 0 hW15 rfl rfl infBlock rfl rfl rfl ?_
   clear hW15; intro w16 hW16
   refine St.nil fun a17 h17 => ?_
   refine hK14 _ _ ?_
   refine rg h17 fun ops => ?_; clear h17 a17
   refine sm trivial rfl rfl ?_
   refine sm trivial rfl rfl ?_
   refine sm trivial rfl rfl ?_
   refine sS 0 12 Try.underlying77 rfl infBlock hW16 trivial rfl rfl rfl rfl ?_
   refine snv_1 cf81 hW16 (hf x (List.mem_of_getElem? hx1.out) b1 _ (In1.out.below hW16.bel)) trivial rfl rfl rfl ?_
   rintro v9 w18 ⟨i2, rfl, hI⟩ hb9 hW18
   refine siBlocks hpg.out hlt1 trivial rfl rfl rfl ?_
   intro a19 h19
   refine St.go h19 ?_; clear h19 a19
   have hA2 := hA.out.below hW18.bel
   obtain ⟨cg, hBk, hcs⟩ := hA2.blk (s := 12) rfl
   have hb8 : Below w.heap.size w w18 := Below.andThen hB.out hW18.bel
   have hs1 : w9.heap.size ≤ w16.heap.size := hW16.bel.size
   have hs2 : w.heap.size ≤ w9.heap.size := hB.out.size
   have hs3 := (hA.out.lo_le (g := w.heap.size) rfl).2
   have hI2 : (blockL n).In w18 (fun k => w.heap.size ≤ k ∧ k ≠ w.heap.size) x [.int .i64 x.regs, .slice i2.pP x.params.length i2.cP, .slice i2.pC x.code.length i2.cC, .int .i64 x.fin.op, .int .i64 x.fin.a, .int .i64 x.fin.yes.block, .slice i2.e.pYR x.fin.yes.regs.length i2.e.cYR, .slice i2.e.pYA x.fin.yes.args.length i2.e.cYA, .int .i64 x.fin.no.block, .slice i2.e.pNR x.fin.no.regs.length i2.e.cNR, .slice i2.e.pNA x.fin.no.args.length i2.e.cNA, .slice i2.e.pA x.fin.args.length i2.e.cA] := Lay.mono (block_shut hI) (fun k hk _ => ⟨by have : _ ≤ k := hk; omega, by have : _ ≤ k := hk; omega⟩)
   clear hW18 hW16
   refine sRowk (Wd.of hb8) (Nat.le_refl _) (fun i x h => by simp at h) hBk rfl rfl infBlock rfl (by simp only [List.length_cons, List.length_nil]; omega) ?_
   intro w20 hW20 hwe
   obtain ⟨xs2, hA3⟩ := hA2.fillq (s := 12) (w' := w20) rfl hlt1 rfl hx1.out hI2 hwe
   clear hwe hA2 hBk hcs hI2
   refine St.nil fun a21 h21 => ?_
   refine hK13 _ _ ?_
   refine rg h21 fun ops => ?_; clear h21 a21
   refine sad (by omega) trivial rfl rfl rfl ?_
   refine sm trivial rfl rfl ?_
   refine St.nil fun a22 h22 => ?_
   exact hKL _ _ (l.length - (q + 1)) (by omega) ⟨q + 1, by omega, rfl, ⟨_, hA3⟩, (h22.keep (h22.keep (h22.keep (h22.keep (h22.keep (h22.keep (h22.keep h22.nil (t := 13) rfl) (t := 12) rfl) (t := 11) rfl) (t := 5) rfl) (t := 4) rfl) (t := 0) rfl) (t := 1) rfl), hW20.bel⟩
  have hge : q = l.length := by have := of_decide_eq_false hb; omega
  clear hb
  refine wp_exit ?_
  refine hK6 _ _ ?_
  refine wp_seq_k fun K23 hK23 => ?_
  refine rg h11 fun ops => ?_; clear h11 a11
  refine sm trivial rfl rfl ?_
  refine sa trivial rfl rfl ?_
  refine St.nil fun a24 h24 => ?_
  refine hK23 _ _ ?_
  refine wp_ret ?_; with_reducible repeat first | refine of_then_ret ?_ | refine of_block_ret ?_
  exact ret_tmp (t := 4) h24 rfl rfl ⟨_, _, rfl, hA.out.done hge, hB.out⟩

set_option maxHeartbeats 4000000 in
set_option maxRecDepth 100000 in
theorem ownFuncs_any {n : Nat} (l : List (MFunc n)) (p : Option Addr) (c : Nat) (w : World) (hl0 : (funcL n).list.In w All l [.slice p l.length c]) (hb0 : l.length ≤ 4294967296)
    (hf : ∀ x ∈ l, ∀ (i : FP) (w : World), FIn w All x i → Calls Try.prog 54 #[.agg #[.int .i64 x.regs, .slice i.pP x.params.length i.cP, .slice i.pR x.results.length i.cR, .slice i.pB x.blocks.length i.cB]] w fun e w' => ∃ v, e = .returned v ∧ (∃ i' : FP, v = .agg #[.int .i64 x.regs, .slice i'.pP x.params.length i'.cP, .slice i'.pR x.results.length i'.cR, .slice i'.pB x.blocks.length i'.cB] ∧ FIn w' (From w.heap.size) x i') ∧ Below w.heap.size w w') :
    Calls Try.prog 53 #[.slice p l.length c, .func (.func 54) #[] #[]] w fun e w' => LyOut (funcL n) w w' l e := by
  have hl : Hid _ := hl0
  clear hl0
  obtain ⟨i0, hi, hz0, hz1, hz2⟩ := (parts_of infoFunc)
  refine fr_enter (n := 26) Try.func53 rfl rfl rfl ?_
  intro a hF
  have hW := Wd.start w
  replace hF : Fr 26 a [(0, .slice p l.length c), (1, .func (.func 54) #[] #[])] := hF
  refine wp_seq_k fun K1 hK1 => ?_
  refine rg hF fun ops => ?_; clear hF a
  refine sa trivial rfl rfl ?_
  refine St.nil fun a2 h2 => ?_
  refine hK1 _ _ ?_
  refine wp_seq_k fun K3 hK3 => ?_
  refine rg h2 fun ops => ?_; clear h2 a2
  refine sm trivial rfl rfl ?_
  refine slFuncs trivial rfl rfl ?_
  refine sMake underFuncs hi hz0 hz1 (by rw [hz2]; omega) (by unfold maxLen; omega) hW trivial rfl rfl ?_
  rintro w4 g xs0 rfl hO hbl hW4
  clear hW
  refine sa trivial rfl rfl ?_
  refine St.nil fun a5 h5 => ?_
  refine hK3 _ _ ?_
  refine wp_seq_k fun K6 hK6 => ?_
  refine wp_seq_k fun K7 hK7 => ?_
  refine rg h5 fun ops => ?_; clear h5 a5
  refine sm trivial rfl rfl ?_
  refine slFuncs trivial rfl rfl ?_
  refine sm trivial rfl rfl ?_
  refine St.nil fun a8 h8 => ?_
  refine hK7 _ _ ?_
  refine wp_block ?_
  refine fr_loop (fun r a w' => ∃ q : Nat, q ≤ l.length ∧ r = l.length - q ∧ (∃ xs, ARow (funcL n) 50 w' w.heap.size (.slice (some ⟨w.heap.size, 0, none⟩) q l.length) (l.take q) xs) ∧ Fr 26 a [(1, .func (.func 54) #[] #[]), (0, .slice p l.length c), (4, .slice none 0 0), (5, .slice (some ⟨w.heap.size, 0, none⟩) l.length l.length), (11, .slice p l.length c), (12, .int .i64 (l.length : Int)), (13, .int .i64 (q : Int))] ∧ Below w.heap.size w w') l.length ⟨0, Nat.zero_le _, rfl, ⟨_, ARow.start rfl hO⟩, (h8.keep (h8.keep (h8.keep (h8.keep (h8.keep (h8.keep (h8.keep h8.nil (t := 13) rfl) (t := 12) rfl) (t := 11) rfl) (t := 5) rfl) (t := 4) rfl) (t := 0) rfl) (t := 1) rfl), hbl⟩ ?_
  clear h8 hW4 hO hbl
  rintro r a9 w9 ⟨q, hq, hr, ⟨xs, hA0⟩, hF9, hB0⟩ KL hKL
  have hA : Hid _ := hA0
  have hB : Hid _ := hB0
  clear hA0 hB0
  have hW9 := Wd.start w9
  refine wp_seq_k fun K10 hK10 => ?_
  refine rg hF9 fun ops => ?_; clear hF9 a9
  refine slt trivial rfl rfl rfl ?_
  refine St.nil fun a11 h11 => ?_
  refine hK10 _ _ ?_
  refine wp_seq_k fun K12 hK12 => ?_
  refine fr_cond (t := 14) h11 rfl (fun hb => ?_) (fun hb => ?_)
  ·have hlt1 : q < l.length := by have := of_decide_eq_true hb; omega
   clear hb
   obtain ⟨x, hx1⟩ : ∃ v9, (l)[q]? = some v9 := ⟨_, List.getElem?_eq_getElem hlt1⟩
   obtain ⟨g1, o1, f1, hp1, E1, In1⟩ := func_at (Lay.below hl.out hB.out) hx1
   replace In1 : Hid _ := In1
   replace hp1 : Hid _ := hp1
   replace hx1 : Hid _ := hx1
   replace E1 : Hid _ := E1
   have hpg : Hid ((some ⟨w.heap.size, 0, none⟩ : Option Addr) = some ⟨w.heap.size, 0, none⟩) := rfl
   refine wp_skip ?_
   refine hK12 _ _ ?_
   refine wp_seq_k fun K13 hK13 => ?_
   refine wp_block ?_
   refine wp_seq_k fun K14 hK14 => ?_
   refine rg h11 fun ops => ?_; clear h11 a11
   refine sm trivial rfl rfl ?_
   refine siFuncs hp1.out hlt1 trivial rfl rfl rfl ?_
   refine sSE Try.underlying50 rfl (rangeAt_bel E1.out hW9.bel) infFunc trivial rfl rfl ?_
   refine sAFunc hW9 trivial rfl ?_
   clear hW9; intro w15 B15 hW15 hN; clear hN
   refine sa trivial rfl rfl ?_
   refine sT 0 hW15 rfl rfl infFunc rfl rfl rfl ?_
   clear hW15; intro w16 hW16
   refine St.nil fun a17 h17 => ?_
   refine hK14 _ _ ?_
   refine rg h17 fun ops => ?_; clear h17 a17
   refine sm trivial rfl rfl ?_
   refine sm trivial rfl rfl ?_
   refine sm trivial rfl rfl ?_
   refine sS 0 4 Try.underlying50 rfl infFunc hW16 trivial rfl rfl rfl rfl ?_
   refine snv_1 cf54 hW16 (hf x (List.mem_of_getElem? hx1.out) f1 _ (In1.out.below hW16.bel)) trivial rfl rfl rfl ?_
   rintro v9 w18 ⟨i2, rfl, hI⟩ hb9 hW18
   refine siFuncs hpg.out hlt1 trivial rfl rfl rfl ?_
   intro a19 h19
   refine St.go h19 ?_; clear h19 a19
   have hA2 := hA.out.below hW18.bel
   obtain ⟨cg, hBk, hcs⟩ := hA2.blk (s := 4) rfl
   have hb8 : Below w.heap.size w w18 := Below.andThen hB.out hW18.bel
   have hs1 : w9.heap.size ≤ w16.heap.size := hW16.bel.size
   have hs2 : w.heap.size ≤ w9.heap.size := hB.out.size
   have hs3 := (hA.out.lo_le (g := w.heap.size) rfl).2
   have hI2 : (funcL n).In w18 (fun k => w.heap.size ≤ k ∧ k ≠ w.heap.size) x [.int .i64 x.regs, .slice i2.pP x.params.length i2.cP, .slice i2.pR x.results.length i2.cR, .slice i2.pB x.blocks.length i2.cB] := Lay.mono (func_shut hI) (fun k hk _ => ⟨by have : _ ≤ k := hk; omega, by have : _ ≤ k := hk; omega⟩)
   clear hW18 hW16
   refine sRowk (Wd.of hb8) (Nat.le_refl _) (fun i x h => by simp at h) hBk rfl rfl infFunc rfl (by simp only [List.length_cons, List.length_nil]; omega) ?_
   intro w20 hW20 hwe
   obtain ⟨xs2, hA3⟩ := hA2.fillq (s := 4) (w' := w20) rfl hlt1 rfl hx1.out hI2 hwe
   clear hwe hA2 hBk hcs hI2
   refine St.nil fun a21 h21 => ?_
   refine hK13 _ _ ?_
   refine rg h21 fun ops => ?_; clear h21 a21
   refine sad (by omega) trivial rfl rfl rfl ?_
   refine sm trivial rfl rfl ?_
   refine St.nil fun a22 h22 => ?_
   exact hKL _ _ (l.length - (q + 1)) (by omega) ⟨q + 1, by omega, rfl, ⟨_, hA3⟩, (h22.keep (h22.keep (h22.keep (h22.keep (h22.keep (h22.keep (h22.keep h22.nil (t := 13) rfl) (t := 12) rfl) (t := 11) rfl) (t := 5) rfl) (t := 4) rfl) (t := 0) rfl) (t := 1) rfl), hW20.bel⟩
  have hge : q = l.length := by have := of_decide_eq_false hb; omega
  clear hb
  refine wp_exit ?_
  refine hK6 _ _ ?_
  refine wp_seq_k fun K23 hK23 => ?_
  refine rg h11 fun ops => ?_; clear h11 a11
  refine sm trivial rfl rfl ?_
  refine sa trivial rfl rfl ?_
  refine St.nil fun a24 h24 => ?_
  refine hK23 _ _ ?_
  refine wp_ret ?_; with_reducible repeat first | refine of_then_ret ?_ | refine of_block_ret ?_
  exact ret_tmp (t := 4) h24 rfl rfl ⟨_, _, rfl, hA.out.done hge, hB.out⟩
end Go.Proofs.Ytmnmnokkojcodab
/-
  code.Own and its parts: types, blocks, functions in new memory.
-/
namespace Go.Proofs.Ytmnmnokkojcodab
open Go.ChangeShapes Go.WideShapes Go.ChangeAt Go.RowKit
set_option linter.unusedVariables false
set_option linter.unusedSimpArgs false

theorem made_of {α : Type} {A : Lay α} {f : FuncId} {args : Array Value} {w : World} {l : List α} (h : Calls Try.prog f args w fun e w' => LyOut A w w' l e) :
    Calls Try.prog f args w fun e w' => ∃ v, e = .returned v ∧ (∃ a' c', v = .slice a' l.length c' ∧ A.list.In w' (From w.heap.size) l [.slice a' l.length c']) ∧ Below w.heap.size w w' :=
  h.mono fun e w' ⟨a', c', h1, h2, h3⟩ => ⟨_, h1, ⟨a', c', rfl, h2⟩, h3⟩
theorem EIn.keep1 {w w' : World} {lo B : Nat} {x : MEnd} {e : EP} (h : EIn w (From lo) x e) (hk : Keep1 B w w') (hB : B < lo) : EIn w' (From lo) x e :=
  h.keep (fun k hl _ => hk k (by have : lo ≤ k := hl; omega)) (fun _ h _ => h)
theorem ins_owned {x : MIns} (hs : x.small) (i : IP) (w : World) (h : IIn w All x i) : Calls Try.prog 101 #[.agg #[.int .i64 x.op, .int .i64 x.a, .int .i64 x.b, .int .i64 x.c, .int .i64 x.k, .int .i64 x.n, .slice i.pR x.regs.length i.cR, .slice i.pA x.args.length i.cA]] w fun e w' => ∃ v, e = .returned v ∧ (∃ i' : IP, v = .agg #[.int .i64 x.op, .int .i64 x.a, .int .i64 x.b, .int .i64 x.c, .int .i64 x.k, .int .i64 x.n, .slice i'.pR x.regs.length i'.cR, .slice i'.pA x.args.length i'.cA] ∧ IIn w' (From w.heap.size) x i') ∧ Below w.heap.size w w' :=
  (cOwnIns_any x i w h (by have := hs.1; omega) (by have := hs.2; omega)).mono fun e w' ⟨i', h1, h2, h3⟩ => ⟨_, h1, ⟨i', rfl, h2⟩, h3⟩
theorem end_owned {x : MEnd} (hs : x.small) (i : EP) (w : World) (h : EIn w All x i) : Calls Try.prog 102 #[.agg #[.int .i64 x.op, .int .i64 x.a, .int .i64 x.yes.block, .slice i.pYR x.yes.regs.length i.cYR, .slice i.pYA x.yes.args.length i.cYA, .int .i64 x.no.block, .slice i.pNR x.no.regs.length i.cNR, .slice i.pNA x.no.args.length i.cNA, .slice i.pA x.args.length i.cA]] w fun e w' => ∃ v, e = .returned v ∧ (∃ i' : EP, v = .agg #[.int .i64 x.op, .int .i64 x.a, .int .i64 x.yes.block, .slice i'.pYR x.yes.regs.length i'.cYR, .slice i'.pYA x.yes.args.length i'.cYA, .int .i64 x.no.block, .slice i'.pNR x.no.regs.length i'.cNR, .slice i'.pNA x.no.args.length i'.cNA, .slice i'.pA x.args.length i'.cA] ∧ EIn w' (From w.heap.size) x i') ∧ Below w.heap.size w w' :=
  (cOwnEnd_any x i w h (by have := hs.1.1; omega) (by have := hs.1.2; omega) (by have := hs.2.1.1; omega) (by have := hs.2.1.2; omega) (by have := hs.2.2; omega)).mono fun e w' ⟨i', h1, h2, h3⟩ => ⟨_, h1, ⟨i', rfl, h2⟩, h3⟩

def COwnAt (n : Nat) : Prop := ∀ (t : TT n) (i : TP) (w : World), YIn w All t i → t.count ≤ 2000 → Calls Try.prog 79 #[.agg #[.int .i64 t.kind, .int .i64 t.r, .slice i.p t.len i.c]] w fun e w' => ∃ v, e = .returned v ∧ (∃ i' : TP, v = .agg #[.int .i64 t.kind, .int .i64 t.r, .slice i'.p t.len i'.c] ∧ YIn w' (From w.heap.size) t i') ∧ Below w.heap.size w w'

set_option maxHeartbeats 4000000 in
set_option maxRecDepth 100000 in
theorem cOwnType_any : ∀ n, COwnAt n := by
  intro n
  induction n with
  | zero => intro t; exact Empty.elim t
  | succ n ih =>
    intro t i w ht hc
    have hco : ∀ x ∈ t.2.2, x.count ≤ 2000 := fun x hx => by have := t.count_kid hx; omega
    have hlen : t.2.2.length ≤ 2000 := by have := t.len_lt_count; rw [t.len_eq] at this; omega
    have hok := ht.ok
    have hk : Hid _ := types_of_lin (c := i.c) ht.tree.list hok.2
    clear ht
    simp only [TT.len_eq]
    refine fr_enter (n := 8) Try.func79 rfl rfl rfl ?_
    intro a hF
    have hW := Wd.start w
    replace hF : Fr 8 a [(0, .agg #[.int .i64 t.kind, .int .i64 t.r, .slice i.p t.2.2.length i.c])] := hF
    refine wp_seq_k fun K1 hK1 => ?_
    refine rg hF fun ops => ?_; clear hF a
    refine sB hW trivial rfl rfl ?_
    clear hW; intro w2 B2 hW2 hN; clear hN
    refine sAType hW2 trivial rfl ?_
    clear hW2; intro w3 B3 hW3 hN; clear hN
    refine St.nil fun a4 h4 => ?_
    refine hK1 _ _ ?_
    refine wp_seq_k fun K5 hK5 => ?_
    refine rg h4 fun ops => ?_; clear h4 a4
    refine sfType2 trivial rfl rfl ?_
    refine sbTypes 1 hW3 trivial rfl rfl rfl rfl ?_
    have hlb : max B3 B2 + 1 ≤ w3.heap.size := by have h8 := (hW3.get 0 rfl).lt; have h9 := (hW3.get 1 rfl).lt; omega
    refine sn_2 cf78 hW3 (made_of (ownTypes_any t.2.2 _ _ _ (Lay.below hk.out hW3.bel) (by omega) (fun u hu i w h => ih u i w h (hco u hu)))) trivial rfl rfl rfl ?_
    rintro v9 w7 ⟨p5, c5, rfl, hN5⟩ hb9 hW7
    replace hN5 := Lay.mono hN5 (O' := From (max B3 B2 + 1)) (fun k hk _ => Nat.le_trans hlb hk)
    clear hlb hb9 hW3
    refine sfType2 trivial rfl rfl ?_
    refine s1k 1 inf1Types hW7 rfl rfl rfl rfl rfl rfl ?_
    intro w8 hKp hW8
    replace hN5 := Lay.keep1 hN5 hKp (by omega)
    clear hKp hW7
    refine St.nil fun a9 h9 => ?_
    refine hK5 _ _ ?_
    refine wp_seq_k fun K10 hK10 => ?_
    refine rg h9 fun ops => ?_; clear h9 a9
    refine sS 1 3 Try.underlying90 rfl infType hW8 trivial rfl rfl rfl rfl ?_
    refine sTk 0 hW8 rfl rfl infType rfl rfl rfl ?_
    intro w11 hKp hW11
    replace hN5 := Lay.keep1 hN5 hKp (by omega)
    clear hKp hW8
    refine St.nil fun a12 h12 => ?_
    refine hK10 _ _ ?_
    refine wp_ret ?_; with_reducible repeat first | refine of_then_ret ?_ | refine of_block_ret ?_
    have hlow : w.heap.size ≤ max B3 B2 + 1 := by have h8 := hW11.new 0 _ rfl; simp only at h8; omega
    have hZ := types_lin (Lay.mono hN5 (fun k hk _ => Nat.le_trans hlow hk))
    exact ret_box 0 h12 hW11 rfl rfl rfl Try.underlying90 rfl infType ⟨_, rfl, ⟨⟨p5, c5⟩, rfl, ⟨hZ.1, hok⟩⟩, hW11.bel⟩

set_option maxHeartbeats 4000000 in
set_option maxRecDepth 100000 in
theorem cOwnBlock_any {n : Nat} (x : MBlock n) (i : BP) (w : World) (h : BIn w All x i) (hs0 : x.small) :
    Calls Try.prog 81 #[.agg #[.int .i64 x.regs, .slice i.pP x.params.length i.cP, .slice i.pC x.code.length i.cC, .int .i64 x.fin.op, .int .i64 x.fin.a, .int .i64 x.fin.yes.block, .slice i.e.pYR x.fin.yes.regs.length i.e.cYR, .slice i.e.pYA x.fin.yes.args.length i.e.cYA, .int .i64 x.fin.no.block, .slice i.e.pNR x.fin.no.regs.length i.e.cNR, .slice i.e.pNA x.fin.no.args.length i.e.cNA, .slice i.e.pA x.fin.args.length i.e.cA]] w fun e w' => ∃ v, e = .returned v ∧ (∃ i' : BP, v = .agg #[.int .i64 x.regs, .slice i'.pP x.params.length i'.cP, .slice i'.pC x.code.length i'.cC, .int .i64 x.fin.op, .int .i64 x.fin.a, .int .i64 x.fin.yes.block, .slice i'.e.pYR x.fin.yes.regs.length i'.e.cYR, .slice i'.e.pYA x.fin.yes.args.length i'.e.cYA, .int .i64 x.fin.no.block, .slice i'.e.pNR x.fin.no.regs.length i'.e.cNR, .slice i'.e.pNA x.fin.no.args.length i'.e.cNA, .slice i'.e.pA x.fin.args.length i'.e.cA] ∧ BIn w' (From w.heap.size) x i') ∧ Below w.heap.size w w' := by
  have hx : Hid _ := h
  have hs : Hid _ := hs0
  have hbd := h.bnd
  clear h hs0
  refine fr_enter (n := 16) Try.func81 rfl rfl rfl ?_
  intro a hF
  have hW := Wd.start w
  replace hF : Fr 16 a [(0, .agg #[.int .i64 x.regs, .slice i.pP x.params.length i.cP, .slice i.pC x.code.length i.cC, .int .i64 x.fin.op, .int .i64 x.fin.a, .int .i64 x.fin.yes.block, .slice i.e.pYR x.fin.yes.regs.length i.e.cYR, .slice i.e.pYA x.fin.yes.args.length i.e.cYA, .int .i64 x.fin.no.block, .slice i.e.pNR x.fin.no.regs.length i.e.cNR, .slice i.e.pNA x.fin.no.args.length i.e.cNA, .slice i.e.pA x.fin.args.length i.e.cA])] := hF
  refine wp_seq_k fun K1 hK1 => ?_
  refine rg hF fun ops => ?_; clear hF a
  refine sB hW trivial rfl rfl ?_
  clear hW; intro w2 B2 hW2 hN; clear hN
  refine sABlock hW2 trivial rfl ?_
  clear hW2; intro w3 B3 hW3 hN; clear hN
  refine St.nil fun a4 h4 => ?_
  refine hK1 _ _ ?_
  refine wp_seq_k fun K5 hK5 => ?_
  refine rg h4 fun ops => ?_; clear h4 a4
  refine sfBlock1 trivial rfl rfl ?_
  refine sbTypes 1 hW3 trivial rfl rfl rfl rfl ?_
  have hlb : max B3 B2 + 1 ≤ w3.heap.size := by have h8 := (hW3.get 0 rfl).lt; have h9 := (hW3.get 1 rfl).lt; omega
  refine sn_2 cf78 hW3 (made_of (ownTypes_any x.params _ _ _ (Lay.below hx.out.params hW3.bel) (by have := hs.out.2.1.1; omega) (fun t ht i w h => cOwnType_any n t i w h (hs.out.2.1.2 t ht)))) trivial rfl rfl rfl ?_
  rintro v9 w7 ⟨p5, c5, rfl, hN5⟩ hb9 hW7
  replace hN5 := Lay.mono hN5 (O' := From (max B3 B2 + 1)) (fun k hk _ => Nat.le_trans hlb hk)
  clear hlb hb9 hW3
  refine sfBlock1 trivial rfl rfl ?_
  refine s1k 1 inf1Types hW7 rfl rfl rfl rfl rfl rfl ?_
  intro w8 hKp hW8
  replace hN5 := Lay.keep1 hN5 hKp (by omega)
  clear hKp hW7
  refine St.nil fun a9 h9 => ?_
  refine hK5 _ _ ?_
  refine wp_seq_k fun K10 hK10 => ?_
  refine rg h9 fun ops => ?_; clear h9 a9
  refine sfBlock2 trivial rfl rfl ?_
  refine sbInss 1 hW8 trivial rfl rfl rfl rfl ?_
  have hlb : max B3 B2 + 1 ≤ w8.heap.size := by have h8 := (hW8.get 0 rfl).lt; have h9 := (hW8.get 1 rfl).lt; omega
  refine sn_2 cf100 hW8 (made_of (ownInss_any x.code _ _ _ (Lay.below hx.out.code hW8.bel) (by have := hs.out.1; omega) (fun t ht i w h => ins_owned (hs.out.2.2.2 t ht) i w h))) trivial rfl rfl rfl ?_
  rintro v9 w12 ⟨p9, c9, rfl, hN9⟩ hb9 hW12
  replace hN5 := Lay.below hN5 hb9
  replace hN9 := Lay.mono hN9 (O' := From (max B3 B2 + 1)) (fun k hk _ => Nat.le_trans hlb hk)
  clear hlb hb9 hW8
  refine sfBlock2 trivial rfl rfl ?_
  refine s1k 1 inf1Inss hW12 rfl rfl rfl rfl rfl rfl ?_
  intro w13 hKp hW13
  replace hN5 := Lay.keep1 hN5 hKp (by omega)
  replace hN9 := Lay.keep1 hN9 hKp (by omega)
  clear hKp hW12
  refine St.nil fun a14 h14 => ?_
  refine hK10 _ _ ?_
  refine wp_seq_k fun K15 hK15 => ?_
  refine rg h14 fun ops => ?_; clear h14 a14
  refine sfBlock3 trivial rfl rfl ?_
  refine sS 1 9 Try.underlying54 rfl infEnd hW13 trivial rfl rfl rfl rfl ?_
  have hlb : max B3 B2 + 1 ≤ w13.heap.size := by have h8 := (hW13.get 0 rfl).lt; have h9 := (hW13.get 1 rfl).lt; omega
  refine sn_1 cf102 hW13 (end_owned hs.out.2.2.1 _ _ (hx.out.fin.below hW13.bel)) trivial rfl rfl ?_
  rintro v9 w17 ⟨e13, rfl, hN13⟩ hb9 hW17
  replace hN5 := Lay.below hN5 hb9
  replace hN9 := Lay.below hN9 hb9
  replace hN13 := EIn.mono hN13 (O' := From (max B3 B2 + 1)) (fun k hk _ => Nat.le_trans hlb hk)
  clear hlb hb9 hW13
  refine sfBlock3 trivial rfl rfl ?_
  refine sTk 1 hW17 rfl rfl infEnd rfl rfl rfl ?_
  intro w18 hKp hW18
  replace hN5 := Lay.keep1 hN5 hKp (by omega)
  replace hN9 := Lay.keep1 hN9 hKp (by omega)
  replace hN13 := EIn.keep1 hN13 hKp (by omega)
  clear hKp hW17
  refine St.nil fun a19 h19 => ?_
  refine hK15 _ _ ?_
  refine wp_seq_k fun K20 hK20 => ?_
  refine rg h19 fun ops => ?_; clear h19 a19
  refine sS 1 12 Try.underlying77 rfl infBlock hW18 trivial rfl rfl rfl rfl ?_
  refine sTk 0 hW18 rfl rfl infBlock rfl rfl rfl ?_
  intro w21 hKp hW21
  replace hN5 := Lay.keep1 hN5 hKp (by omega)
  replace hN9 := Lay.keep1 hN9 hKp (by omega)
  replace hN13 := EIn.keep1 hN13 hKp (by omega)
  clear hKp hW18
  refine St.nil fun a22 h22 => ?_
  refine hK20 _ _ ?_
  refine wp_ret ?_; with_reducible repeat first | refine of_then_ret ?_ | refine of_block_ret ?_
  have hlow : w.heap.size ≤ max B3 B2 + 1 := by have h8 := hW21.new 0 _ rfl; simp only at h8; omega
  exact ret_box 0 h22 hW21 rfl rfl rfl Try.underlying77 rfl infBlock ⟨_, rfl, ⟨⟨p5, c5, p9, c9, e13⟩, rfl, ⟨Lay.mono hN5 (fun k hk _ => Nat.le_trans hlow hk), Lay.mono hN9 (fun k hk _ => Nat.le_trans hlow hk), EIn.mono hN13 (fun k hk _ => Nat.le_trans hlow hk), hbd⟩⟩, hW21.bel⟩

set_option maxHeartbeats 4000000 in
set_option maxRecDepth 100000 in
theorem cOwnFunc_any {n : Nat} (x : MFunc n) (i : FP) (w : World) (h : FIn w All x i) (hs0 : x.small) :
    Calls Try.prog 54 #[.agg #[.int .i64 x.regs, .slice i.pP x.params.length i.cP, .slice i.pR x.results.length i.cR, .slice i.pB x.blocks.length i.cB]] w fun e w' => ∃ v, e = .returned v ∧ (∃ i' : FP, v = .agg #[.int .i64 x.regs, .slice i'.pP x.params.length i'.cP, .slice i'.pR x.results.length i'.cR, .slice i'.pB x.blocks.length i'.cB] ∧ FIn w' (From w.heap.size) x i') ∧ Below w.heap.size w w' := by
  have hx : Hid _ := h
  have hs : Hid _ := hs0
  have hbd := h.bnd
  clear h hs0
  refine fr_enter (n := 16) Try.func54 rfl rfl rfl ?_
  intro a hF
  have hW := Wd.start w
  replace hF : Fr 16 a [(0, .agg #[.int .i64 x.regs, .slice i.pP x.params.length i.cP, .slice i.pR x.results.length i.cR, .slice i.pB x.blocks.length i.cB])] := hF
  refine wp_seq_k fun K1 hK1 => ?_
  refine rg hF fun ops => ?_; clear hF a
  refine sB hW trivial rfl rfl ?_
  clear hW; intro w2 B2 hW2 hN; clear hN
  refine sAFunc hW2 trivial rfl ?_
  clear hW2; intro w3 B3 hW3 hN; clear hN
  refine St.nil fun a4 h4 => ?_
  refine hK1 _ _ ?_
  refine wp_seq_k fun K5 hK5 => ?_
  refine rg h4 fun ops => ?_; clear h4 a4
  refine sfFunc1 trivial rfl rfl ?_
  refine sbTypes 1 hW3 trivial rfl rfl rfl rfl ?_
  have hlb : max B3 B2 + 1 ≤ w3.heap.size := by have h8 := (hW3.get 0 rfl).lt; have h9 := (hW3.get 1 rfl).lt; omega
  refine sn_2 cf78 hW3 (made_of (ownTypes_any x.params _ _ _ (Lay.below hx.out.params hW3.bel) (by have := hs.out.2.1.1; omega) (fun t ht i w h => cOwnType_any n t i w h (hs.out.2.1.2 t ht)))) trivial rfl rfl rfl ?_
  rintro v9 w7 ⟨p5, c5, rfl, hN5⟩ hb9 hW7
  replace hN5 := Lay.mono hN5 (O' := From (max B3 B2 + 1)) (fun k hk _ => Nat.le_trans hlb hk)
  clear hlb hb9 hW3
  refine sfFunc1 trivial rfl rfl ?_
  refine s1k 1 inf1Types hW7 rfl rfl rfl rfl rfl rfl ?_
  intro w8 hKp hW8
  replace hN5 := Lay.keep1 hN5 hKp (by omega)
  clear hKp hW7
  refine St.nil fun a9 h9 => ?_
  refine hK5 _ _ ?_
  refine wp_seq_k fun K10 hK10 => ?_
  refine rg h9 fun ops => ?_; clear h9 a9
  refine sfFunc2 trivial rfl rfl ?_
  refine sbTypes 1 hW8 trivial rfl rfl rfl rfl ?_
  have hlb : max B3 B2 + 1 ≤ w8.heap.size := by have h8 := (hW8.get 0 rfl).lt; have h9 := (hW8.get 1 rfl).lt; omega
  refine sn_2 cf78 hW8 (made_of (ownTypes_any x.results _ _ _ (Lay.below hx.out.results hW8.bel) (by have := hs.out.2.2.1.1; omega) (fun t ht i w h => cOwnType_any n t i w h (hs.out.2.2.1.2 t ht)))) trivial rfl rfl rfl ?_
  rintro v9 w12 ⟨p9, c9, rfl, hN9⟩ hb9 hW12
  replace hN5 := Lay.below hN5 hb9
  replace hN9 := Lay.mono hN9 (O' := From (max B3 B2 + 1)) (fun k hk _ => Nat.le_trans hlb hk)
  clear hlb hb9 hW8
  refine sfFunc2 trivial rfl rfl ?_
  refine s1k 1 inf1Types hW12 rfl rfl rfl rfl rfl rfl ?_
  intro w13 hKp hW13
  replace hN5 := Lay.keep1 hN5 hKp (by omega)
  replace hN9 := Lay.keep1 hN9 hKp (by omega)
  clear hKp hW12
  refine St.nil fun a14 h14 => ?_
  refine hK10 _ _ ?_
  refine wp_seq_k fun K15 hK15 => ?_
  refine rg h14 fun ops => ?_; clear h14 a14
  refine sfFunc3 trivial rfl rfl ?_
  refine sbBlocks 1 hW13 trivial rfl rfl rfl rfl ?_
  have hlb : max B3 B2 + 1 ≤ w13.heap.size := by have h8 := (hW13.get 0 rfl).lt; have h9 := (hW13.get 1 rfl).lt; omega
  refine sn_2 cf80 hW13 (made_of (ownBlocks_any x.blocks _ _ _ (Lay.below hx.out.blocks hW13.bel) (by have := hs.out.1; omega) (fun t ht i w h => cOwnBlock_any t i w h (hs.out.2.2.2 t ht)))) trivial rfl rfl rfl ?_
  rintro v9 w17 ⟨p13, c13, rfl, hN13⟩ hb9 hW17
  replace hN5 := Lay.below hN5 hb9
  replace hN9 := Lay.below hN9 hb9
  replace hN13 := Lay.mono hN13 (O' := From (max B3 B2 + 1)) (fun k hk _ => Nat.le_trans hlb hk)
  clear hlb hb9 hW13
  refine sfFunc3 trivial rfl rfl ?_
  refine s1k 1 inf1Blocks hW17 rfl rfl rfl rfl rfl rfl ?_
  intro w18 hKp hW18
  replace hN5 := Lay.keep1 hN5 hKp (by omega)
  replace hN9 := Lay.keep1 hN9 hKp (by omega)
  replace hN13 := Lay.keep1 hN13 hKp (by omega)
  clear hKp hW17
  refine St.nil fun a19 h19 => ?_
  refine hK15 _ _ ?_
  refine wp_seq_k fun K20 hK20 => ?_
  refine rg h19 fun ops => ?_; clear h19 a19
  refine sS 1 4 Try.underlying50 rfl infFunc hW18 trivial rfl rfl rfl rfl ?_
  refine sTk 0 hW18 rfl rfl infFunc rfl rfl rfl ?_
  intro w21 hKp hW21
  replace hN5 := Lay.keep1 hN5 hKp (by omega)
  replace hN9 := Lay.keep1 hN9 hKp (by omega)
  replace hN13 := Lay.keep1 hN13 hKp (by omega)
  clear hKp hW18
  refine St.nil fun a22 h22 => ?_
  refine hK20 _ _ ?_
  refine wp_ret ?_; with_reducible repeat first | refine of_then_ret ?_ | refine of_block_ret ?_
  have hlow : w.heap.size ≤ max B3 B2 + 1 := by have h8 := hW21.new 0 _ rfl; simp only at h8; omega
  exact ret_box 0 h22 hW21 rfl rfl rfl Try.underlying50 rfl infFunc ⟨_, rfl, ⟨⟨p5, c5, p9, c9, p13, c13⟩, rfl, ⟨Lay.mono hN5 (fun k hk _ => Nat.le_trans hlow hk), Lay.mono hN9 (fun k hk _ => Nat.le_trans hlow hk), Lay.mono hN13 (fun k hk _ => Nat.le_trans hlow hk), hbd⟩⟩, hW21.bel⟩

set_option maxHeartbeats 4000000 in
set_option maxRecDepth 100000 in
theorem cOwn_any {n : Nat} (m : List (MFunc n)) (p : Option Addr) (c : Nat) (w : World) (h : (modL n).In w All m [.slice p m.length c]) (hs0 : msmall m) :
    Calls Try.prog 18 #[.agg #[.slice p m.length c]] w fun e w' => ∃ v, e = .returned v ∧ (∃ a' c', v = .agg #[.slice a' m.length c'] ∧ (modL n).In w' (From w.heap.size) m [.slice a' m.length c']) ∧ Below w.heap.size w w' := by
  have hx : Hid _ := h
  have hs : Hid _ := hs0
  clear h hs0
  refine fr_enter (n := 7) Try.func18 rfl rfl rfl ?_
  intro a hF
  have hW := Wd.start w
  replace hF : Fr 7 a [(0, .agg #[.slice p m.length c])] := hF
  refine wp_seq_k fun K1 hK1 => ?_
  refine rg hF fun ops => ?_; clear hF a
  refine sB hW trivial rfl rfl ?_
  clear hW; intro w2 B2 hW2 hN; clear hN
  refine sAModule hW2 trivial rfl ?_
  clear hW2; intro w3 B3 hW3 hN; clear hN
  refine St.nil fun a4 h4 => ?_
  refine hK1 _ _ ?_
  refine wp_seq_k fun K5 hK5 => ?_
  refine rg h4 fun ops => ?_; clear h4 a4
  refine sfModule0 trivial rfl rfl ?_
  refine sbFuncs 1 hW3 trivial rfl rfl rfl rfl ?_
  have hlb : max B3 B2 + 1 ≤ w3.heap.size := by have h8 := (hW3.get 0 rfl).lt; have h9 := (hW3.get 1 rfl).lt; omega
  refine sn_2 cf53 hW3 (made_of (ownFuncs_any m _ _ _ (Lay.below hx.out hW3.bel) (by have := hs.out.1; omega) (fun t ht i w h => cOwnFunc_any t i w h (hs.out.2 t ht)))) trivial rfl rfl rfl ?_
  rintro v9 w7 ⟨p5, c5, rfl, hN5⟩ hb9 hW7
  replace hN5 := Lay.mono hN5 (O' := From (max B3 B2 + 1)) (fun k hk _ => Nat.le_trans hlb hk)
  clear hlb hb9 hW3
  intro a8 h8
  refine fr_pure (t := 6) (v := .agg #[.slice p5 m.length c5]) (w' := w7) h8 rfl rfl rfl (fun K hK => ?_) ?_
  ·have k0 : a8.tmps[5]?.getD undef = .slice p5 m.length c5 := h8.sl2 5 _ rfl
   go_simp
   exact hK
  clear h8; intro a9 hF9
  refine St.go hF9 ?_; clear hF9 a9
  refine sTk 0 hW7 rfl rfl infModule rfl rfl rfl ?_
  intro w10 hKp hW10
  replace hN5 := Lay.keep1 hN5 hKp (by omega)
  clear hKp hW7
  refine St.nil fun a11 h11 => ?_
  refine hK5 _ _ ?_
  refine wp_ret ?_; with_reducible repeat first | refine of_then_ret ?_ | refine of_block_ret ?_
  have hlow : w.heap.size ≤ max B3 B2 + 1 := by have h8 := hW10.new 0 _ rfl; simp only at h8; omega
  exact ret_box 0 h11 hW10 rfl rfl rfl Try.underlying39 rfl infModule ⟨_, rfl, ⟨p5, c5, rfl, Lay.mono hN5 (fun k hk _ => Nat.le_trans hlow hk)⟩, hW10.bel⟩
end Go.Proofs.Ytmnmnokkojcodab
/-
  OwnModule (the reference): a module in new memory.
-/
namespace Go.Proofs.Ytmnmnokkojcodab
open Go.ChangeShapes Go.WideShapes Go.ChangeAt Go.RowKit
set_option linter.unusedVariables false
set_option linter.unusedSimpArgs false

set_option maxHeartbeats 4000000 in
set_option maxRecDepth 100000 in
theorem ownModule_any {n : Nat} (m : List (MFunc n)) (p : Option Addr) (c : Nat) (w : World) (h : (modL n).In w All m [.slice p m.length c]) (hs0 : msmall m) :
    Calls Try.prog 14 #[.agg #[.slice p m.length c]] w fun e w' => ∃ v, e = .returned v ∧ (∃ a' c', v = .agg #[.slice a' m.length c'] ∧ (modL n).In w' (From w.heap.size) m [.slice a' m.length c']) ∧ Below w.heap.size w w' := by
  have hm : Hid _ := h
  have hs : Hid _ := hs0
  have hn1 := hs0.1
  clear h hs0
  obtain ⟨iF, hiF, hzF0, hzF1, hzF2⟩ := parts_of infoFunc
  obtain ⟨iB, hiB, hzB0, hzB1, hzB2⟩ := parts_of infoBlock
  obtain ⟨iI, hiI, hzI0, hzI1, hzI2⟩ := parts_of infoIns
  refine fr_enter (n := 110) Try.func14 rfl rfl rfl ?_
  intro a hF
  have hW := Wd.start w
  replace hF : Fr 110 a [(0, .agg #[.slice p m.length c])] := hF
  refine wp_seq_k fun K1 hK1 => ?_
  refine rg hF fun ops => ?_; clear hF a
  refine sB hW trivial rfl rfl ?_
  clear hW; intro w2 B2 hW2 hN; clear hN
  refine sAModule hW2 trivial rfl ?_
  clear hW2; intro w3 B3 hW3 hN; clear hN
  refine St.nil fun a4 h4 => ?_
  refine hK1 _ _ ?_
  refine wp_seq_k fun K5 hK5 => ?_
  refine rg h4 fun ops => ?_; clear h4 a4
  refine sAModule hW3 trivial rfl ?_
  clear hW3; intro w6 B6 hW6 hN; clear hN
  refine St.nil fun a7 h7 => ?_
  refine hK5 _ _ ?_
  refine wp_seq_k fun K8 hK8 => ?_
  refine wp_seq_k fun K9 hK9 => ?_
  refine rg h7 fun ops => ?_; clear h7 a7
  refine sa trivial rfl rfl ?_
  refine St.nil fun a10 h10 => ?_
  refine hK9 _ _ ?_
  refine wp_block ?_
  have hlo1 : w.heap.size ≤ w6.heap.size := hW6.bel.size
  have hlB6 : B6 < w6.heap.size := (hW6.get 0 rfl).lt
  have hlB3 : B3 < w6.heap.size := (hW6.get 1 rfl).lt
  have hlB2 : B2 < w6.heap.size := (hW6.get 2 rfl).lt
  refine fr_loop (fun r a w' => ∃ q1 : Nat, q1 ≤ m.length ∧ r = m.length - q1 ∧ ∃ v1 xs, ARow (funcL n) 50 w' w6.heap.size v1 (m.take q1) xs ∧ KeepBut w6.heap.size B6 w6 w' ∧ w6.heap.size ≤ w'.heap.size ∧ Fr 110 a [(0, .agg #[.slice p m.length c]), (1, .pointer (some ⟨B2, 0, none⟩)), (2, .pointer (some ⟨B3, 0, none⟩)), (3, .pointer (some ⟨B6, 0, none⟩)), (4, .int .i64 (q1 : Int))] ∧ Wd w w' [(B6, #[v1], 39), (B3, #[.slice none 0 0], 39), (B2, #[.slice p m.length c], 39)]) (m.length) ⟨0, Nat.zero_le _, rfl, .slice none 0 0, [], ARow.nil' _ _ _ _, KeepBut.refl _ _ _, Nat.le_refl _, (h10.keep (h10.keep (h10.keep (h10.keep (h10.keep h10.nil (t := 4) rfl) (t := 3) rfl) (t := 2) rfl) (t := 1) rfl) (t := 0) rfl), hW6⟩ ?_
  clear h10 hW6
  rintro r1 a11 w11 ⟨q1, hq1, hr1, v1, xs1, hA0, hK0, hz1, hF11, hWo1⟩ KL1 hKL1
  have hA1 : Hid _ := hA0
  have hK1 : Hid _ := hK0
  clear hA0 hK0
  have hW11 := Wd.start w11
  have hkB6 : Hid (Blk w11 B6 #[v1] 39) := hWo1.get 0 rfl
  have hkB3 : Hid (Blk w11 B3 #[.slice none 0 0] 39) := hWo1.get 1 rfl
  have hkB2 : Hid (Blk w11 B2 #[.slice p m.length c] 39) := hWo1.get 2 rfl
  refine wp_seq_k fun K12 hK12 => ?_
  refine wp_seq_k fun K13 hK13 => ?_
  refine rg hF11 fun ops => ?_; clear hF11 a11
  refine sm trivial rfl rfl ?_
  refine sfModule0 trivial rfl rfl ?_
  refine scFuncs (bel_cell hW11.bel (cellOf hkB2.out 0 _ rfl)) trivial rfl rfl ?_
  refine slFuncs trivial rfl rfl ?_
  refine slt trivial rfl rfl rfl ?_
  refine St.nil fun a14 h14 => ?_
  refine hK13 _ _ ?_
  refine fr_cond (t := 16) h14 rfl (fun hb => ?_) (fun hb => ?_)
  ·have hlt1 : q1 < m.length := by have := of_decide_eq_true hb; omega
   clear hb
   obtain ⟨x, hx1⟩ : ∃ v9, (m)[q1]? = some v9 := ⟨_, List.getElem?_eq_getElem hlt1⟩
   obtain ⟨g1, o1, f1, hp1, E1, In1⟩ := func_at (Lay.below hm.out hWo1.bel) hx1
   replace In1 : Hid _ := In1
   replace hp1 : Hid _ := hp1
   replace hx1 : Hid _ := hx1
   replace E1 : Hid _ := E1
   have hs1 : Hid _ := hs.out.2 x (List.mem_of_getElem? hx1.out)
   have hn2 := hs1.out.1
   refine wp_skip ?_
   refine hK12 _ _ ?_
   refine wp_seq_k fun K15 hK15 => ?_
   refine wp_block ?_
   refine wp_seq_k fun K16 hK16 => ?_
   refine rg h14 fun ops => ?_; clear h14 a14
   refine sfModule0 trivial rfl rfl ?_
   refine scFuncs (bel_cell hW11.bel (cellOf hkB2.out 0 _ rfl)) trivial rfl rfl ?_
   refine sm trivial rfl rfl ?_
   refine siFuncs hp1.out hlt1 trivial rfl rfl rfl ?_
   refine sSE Try.underlying50 rfl (rangeAt_bel E1.out hW11.bel) infFunc trivial rfl rfl ?_
   refine sAFunc hW11 trivial rfl ?_
   clear hW11; intro w17 B17 hW17 hN; clear hN
   refine sT 0 hW17 rfl rfl infFunc rfl rfl rfl ?_
   clear hW17; intro w18 hW18
   refine St.nil fun a19 h19 => ?_
   refine hK16 _ _ ?_
   refine wp_seq_k fun K20 hK20 => ?_
   have hF21 : Fr 110 a19 [(0, .agg #[.slice p m.length c]), (1, .pointer (some ⟨B2, 0, none⟩)), (2, .pointer (some ⟨B3, 0, none⟩)), (3, .pointer (some ⟨B6, 0, none⟩)), (4, .int .i64 (q1 : Int)), (5, .pointer (some ⟨B17, 0, none⟩))] := (h19.keep (h19.keep (h19.keep (h19.keep (h19.keep (h19.keep h19.nil (t := 5) rfl) (t := 4) rfl) (t := 3) rfl) (t := 2) rfl) (t := 1) rfl) (t := 0) rfl)
   have ho5 : a19.tmps.getD 5 undef = .pointer (some ⟨B17, 0, none⟩) := h19.sl 5 _ rfl
   have hDS : DStable (Z := Option Addr × Nat × Option Addr × Nat) [(4, fun z w O => (typesL n).In w O x.params [.slice z.1 x.params.length z.2.1]), (7, fun z w O => (typesL n).In w O x.results [.slice z.2.2.1 x.results.length z.2.2.2])] := by
     intro x hx
     simp only [List.mem_cons, List.not_mem_nil, or_false] at hx
     rcases hx with rfl | rfl
     · intro z w w9 O hk h; exact (typesL n).keep hk (fun _ h _ => h) h
     · intro z w w9 O hk h; exact (typesL n).keep hk (fun _ h _ => h) h
   refine fr_draw4 (Z := Option Addr × Nat × Option Addr × Nat) [(0, 24), (1, 25), (2, 26), (3, 27), (4, 28), (5, 29), (6, 30), (7, 31), (8, 32)] [(9, 6, 4, 50)] [(10, 6, 4, 50)] (fun z => [(24, .pointer (some ⟨B17, 0, none⟩)), (25, .int .i64 x.regs), (26, .pointer (some ⟨B17, 1, none⟩)), (27, .slice f1.pP x.params.length f1.cP), (28, .slice z.1 x.params.length z.2.1), (29, .pointer (some ⟨B17, 2, none⟩)), (30, .slice f1.pR x.results.length f1.cR), (31, .slice z.2.2.1 x.results.length z.2.2.2), (32, .agg #[.int .i64 x.regs, .slice z.1 x.params.length z.2.1, .slice z.2.2.1 x.results.length z.2.2.2, .slice none 0 0])]) (fun z => [(6, [.int .i64 x.regs, .slice z.1 x.params.length z.2.1, .slice z.2.2.1 x.results.length z.2.2.2, .slice none 0 0])]) [(4, fun z w O => (typesL n).In w O x.params [.slice z.1 x.params.length z.2.1]), (7, fun z w O => (typesL n).In w O x.results [.slice z.2.2.1 x.results.length z.2.2.2])] (none, 0, none, 0) (by kernel_rfl) hF21 (by kernel_rfl) (by kernel_rfl) (fun hDB => ?hst) ?hend
   case hst =>
    refine ⟨fun S a1 w1 hS hd hcl hI0 K hK => ?_, ?_⟩
    · obtain ⟨⟨p28, c28, p31, c31⟩, hI⟩ := hI0
      have hWd := hW18.below hI.1.bel
      have k0 : a1.tmps.getD 5 undef = .pointer (some ⟨B17, 0, none⟩) := ((hI.1.outer 5 (by kernel_rfl)).trans ho5)
      go_simp
      exact hK _ _ (DMz.pure hDS hDB hI (i := 0) (t := 24) (by decide) rfl hS (Below.refl _ _) (by kernel_rfl) (by kernel_rfl) rfl)
    refine ⟨fun S a1 w1 hS hd hcl hI0 K hK => ?_, ?_⟩
    · obtain ⟨⟨p28, c28, p31, c31⟩, hI⟩ := hI0
      have hWd := hW18.below hI.1.bel
      have k0 : a1.tmps.getD 24 undef = .pointer (some ⟨B17, 0, none⟩) := (hI.1.vals (0, 24) (by decide) (hd.at 0 (by kernel_rfl)) _ rfl)
      have c0 : w1.cell? ⟨B17, 0, none⟩ = some (.int .i64 x.regs) := cellOf (hWd.get 0 rfl) 0 _ rfl
      go_simp
      exact hK _ _ (DMz.pure hDS hDB hI (i := 1) (t := 25) (by decide) rfl hS (Below.refl _ _) (by kernel_rfl) (by kernel_rfl) rfl)
    refine ⟨fun S a1 w1 hS hd hcl hI0 K hK => ?_, ?_⟩
    · obtain ⟨⟨p28, c28, p31, c31⟩, hI⟩ := hI0
      have hWd := hW18.below hI.1.bel
      have k0 : a1.tmps.getD 5 undef = .pointer (some ⟨B17, 0, none⟩) := ((hI.1.outer 5 (by kernel_rfl)).trans ho5)
      go_simp
      exact hK _ _ (DMz.pure hDS hDB hI (i := 2) (t := 26) (by decide) rfl hS (Below.refl _ _) (by kernel_rfl) (by kernel_rfl) rfl)
    refine ⟨fun S a1 w1 hS hd hcl hI0 K hK => ?_, ?_⟩
    · obtain ⟨⟨p28, c28, p31, c31⟩, hI⟩ := hI0
      have hWd := hW18.below hI.1.bel
      have k0 : a1.tmps.getD 26 undef = .pointer (some ⟨B17, 1, none⟩) := (hI.1.vals (2, 26) (by decide) (hd.at 2 (by kernel_rfl)) _ rfl)
      have c1 : w1.cell? ⟨B17, 1, none⟩ = some (.slice f1.pP x.params.length f1.cP) := cellOf (hWd.get 0 rfl) 1 _ rfl
      go_simp
      exact hK _ _ (DMz.pure hDS hDB hI (i := 3) (t := 27) (by decide) rfl hS (Below.refl _ _) (by kernel_rfl) (by kernel_rfl) rfl)
    refine ⟨fun S a1 w1 hS hd hcl hI0 K hK => ?_, ?_⟩
    · obtain ⟨⟨p28, c28, p31, c31⟩, hI⟩ := hI0
      have hWd := hW18.below hI.1.bel
      have k0 : a1.tmps.getD 27 undef = .slice f1.pP x.params.length f1.cP := (hI.1.vals (3, 27) (by decide) (hd.at 3 (by kernel_rfl)) _ rfl)
      go_simp
      refine (rOwnTypes_any (Lay.below In1.out.params hWd.bel) hs1.out.2.1).mono ?_
      rintro e w9 ⟨p28n, c28n, rfl, h9, hb⟩
      refine hK _ _ (DMz.call hDS hDB hI (z' := (p28n, c28n, p31, c31)) (i := 4) (t := 28) (by decide) rfl hS hcl hb (by kernel_rfl) (by kernel_rfl) [7, 8, 10] (by kernel_rfl) ?_ ?_ ?_)
      · intro x hx; simp only [List.mem_cons, List.not_mem_nil, or_false] at hx; rcases hx with rfl | rfl | rfl | rfl | rfl | rfl | rfl | rfl | rfl
        all_goals first | exact .inr (.inr rfl) | exact .inl (by decide) | exact .inr (.inl rfl)
      · intro x hx; simp only [List.mem_cons, List.not_mem_nil, or_false] at hx; rcases hx with rfl
        all_goals exact .inl (by decide)
      · intro x hx; simp only [List.mem_cons, List.not_mem_nil, or_false] at hx; rcases hx with rfl | rfl
        · exact .inl ⟨rfl, fun k => w1.heap.size ≤ k ∧ k < w9.heap.size, Lay.mono h9 (fun k hk hl => ⟨hk, hl⟩), fun k hk => hk⟩
        · exact .inr ⟨show (7 : Nat) ≠ 4 from by decide, fun w O h => h⟩
    refine ⟨fun S a1 w1 hS hd hcl hI0 K hK => ?_, ?_⟩
    · obtain ⟨⟨p28, c28, p31, c31⟩, hI⟩ := hI0
      have hWd := hW18.below hI.1.bel
      have k0 : a1.tmps.getD 5 undef = .pointer (some ⟨B17, 0, none⟩) := ((hI.1.outer 5 (by kernel_rfl)).trans ho5)
      go_simp
      exact hK _ _ (DMz.pure hDS hDB hI (i := 5) (t := 29) (by decide) rfl hS (Below.refl _ _) (by kernel_rfl) (by kernel_rfl) rfl)
    refine ⟨fun S a1 w1 hS hd hcl hI0 K hK => ?_, ?_⟩
    · obtain ⟨⟨p28, c28, p31, c31⟩, hI⟩ := hI0
      have hWd := hW18.below hI.1.bel
      have k0 : a1.tmps.getD 29 undef = .pointer (some ⟨B17, 2, none⟩) := (hI.1.vals (5, 29) (by decide) (hd.at 5 (by kernel_rfl)) _ rfl)
      have c2 : w1.cell? ⟨B17, 2, none⟩ = some (.slice f1.pR x.results.length f1.cR) := cellOf (hWd.get 0 rfl) 2 _ rfl
      go_simp
      exact hK _ _ (DMz.pure hDS hDB hI (i := 6) (t := 30) (by decide) rfl hS (Below.refl _ _) (by kernel_rfl) (by kernel_rfl) rfl)
    refine ⟨fun S a1 w1 hS hd hcl hI0 K hK => ?_, ?_⟩
    · obtain ⟨⟨p28, c28, p31, c31⟩, hI⟩ := hI0
      have hWd := hW18.below hI.1.bel
      have k0 : a1.tmps.getD 30 undef = .slice f1.pR x.results.length f1.cR := (hI.1.vals (6, 30) (by decide) (hd.at 6 (by kernel_rfl)) _ rfl)
      go_simp
      refine (rOwnTypes_any (Lay.below In1.out.results hWd.bel) hs1.out.2.2.1).mono ?_
      rintro e w9 ⟨p31n, c31n, rfl, h9, hb⟩
      refine hK _ _ (DMz.call hDS hDB hI (z' := (p28, c28, p31n, c31n)) (i := 7) (t := 31) (by decide) rfl hS hcl hb (by kernel_rfl) (by kernel_rfl) [8, 10] (by kernel_rfl) ?_ ?_ ?_)
      · intro x hx; simp only [List.mem_cons, List.not_mem_nil, or_false] at hx; rcases hx with rfl | rfl | rfl | rfl | rfl | rfl | rfl | rfl | rfl
        all_goals first | exact .inr (.inr rfl) | exact .inl (by decide) | exact .inr (.inl rfl)
      · intro x hx; simp only [List.mem_cons, List.not_mem_nil, or_false] at hx; rcases hx with rfl
        all_goals exact .inl (by decide)
      · intro x hx; simp only [List.mem_cons, List.not_mem_nil, or_false] at hx; rcases hx with rfl | rfl
        · exact .inr ⟨show (4 : Nat) ≠ 7 from by decide, fun w O h => h⟩
        · exact .inl ⟨rfl, fun k => w1.heap.size ≤ k ∧ k < w9.heap.size, Lay.mono h9 (fun k hk hl => ⟨hk, hl⟩), fun k hk => hk⟩
    refine ⟨fun S a1 w1 hS hd hcl hI0 K hK => ?_, ?_⟩
    · obtain ⟨⟨p28, c28, p31, c31⟩, hI⟩ := hI0
      have hWd := hW18.below hI.1.bel
      have k0 : a1.tmps[25]?.getD undef = .int .i64 x.regs := by rw [← Array.getD_eq_getD_getElem?]; exact (hI.1.vals (1, 25) (by decide) (hd.at 1 (by kernel_rfl)) _ rfl)
      have k1 : a1.tmps[28]?.getD undef = .slice p28 x.params.length c28 := by rw [← Array.getD_eq_getD_getElem?]; exact (hI.1.vals (4, 28) (by decide) (hd.at 4 (by kernel_rfl)) _ rfl)
      have k2 : a1.tmps[31]?.getD undef = .slice p31 x.results.length c31 := by rw [← Array.getD_eq_getD_getElem?]; exact (hI.1.vals (7, 31) (by decide) (hd.at 7 (by kernel_rfl)) _ rfl)
      go_simp
      exact hK _ _ (DMz.pure hDS hDB hI (i := 8) (t := 32) (by decide) rfl hS (Below.refl _ _) (by kernel_rfl) (by kernel_rfl) rfl)
    refine ⟨fun S a1 w1 hS hd hcl hI0 K hK => ?_, ?_⟩
    · obtain ⟨⟨p28, c28, p31, c31⟩, hI⟩ := hI0
      go_simp
      exact hK _ _ (DMz.alloc hDS hDB hI (i := 9) (t := 6) (s := 4) (ty := 50) (by decide) rfl hS hcl (by kernel_rfl) (by kernel_rfl) rfl)
    refine ⟨fun S a1 w1 hS hd hcl hI0 K hK => ?_, ?_⟩
    · obtain ⟨⟨p28, c28, p31, c31⟩, hI⟩ := hI0
      have k0 : a1.tmps.getD 32 undef = .agg #[.int .i64 x.regs, .slice p28 x.params.length c28, .slice p31 x.results.length c31, .slice none 0 0] := (hI.1.vals (8, 32) (by decide) (hd.at 8 (by kernel_rfl)) _ rfl)
      obtain ⟨B, kB, hlo, c0, hBk, hcs⟩ := hI.1.box (i := 9) (t := 6) (s := 4) (ty := 50) (by decide) (hd.at 9 (by kernel_rfl))
      exact wp_fill hBk kB k0 infFunc rfl hcs.symm (hK _ _ (DMz.store hDS hDB hI (i := 10) (t := 6) (s := 4) (ty := 50) (j := 9) (by decide) (by decide) (hd.at 9 (by kernel_rfl)) kB hBk hcs hlo rfl rfl hS hcl (by kernel_rfl) (by kernel_rfl) rfl))
    trivial
   case hend =>
    rintro ⟨p28, c28, p31, c31⟩ S a22 w22 hS hD hFD
    obtain ⟨BD6, hd6, hBl6, hBk6⟩ := hD.1.full (j := 9) (i := 10) (t := 6) (s := 4) (ty := 50) (by decide) (hS _ (by decide)) (by decide) (hS _ (by decide)) rfl
    have hF22 : Fr 110 a22 [(6, .pointer (some ⟨BD6, 0, none⟩)), (0, .agg #[.slice p m.length c]), (1, .pointer (some ⟨B2, 0, none⟩)), (2, .pointer (some ⟨B3, 0, none⟩)), (3, .pointer (some ⟨B6, 0, none⟩)), (4, .int .i64 (q1 : Int)), (5, .pointer (some ⟨B17, 0, none⟩))] := (hFD.cons hd6)
    obtain ⟨O9, hN28, hO9⟩ := hD.2 _ List.mem_cons_self (hS 4 (by decide))
    replace hN28 := Lay.mono (show (typesL n).In _ _ x.params [.slice p28 x.params.length c28] from hN28) (O' := fun k => w18.heap.size ≤ k ∧ k < w22.heap.size ∧ k ≠ BD6) (fun k hk _ => ⟨(hO9.1 k hk).1, (hO9.1 k hk).2, fun e => hO9.2 (9, 6, 4, 50) (by decide) (hS _ (by decide)) BD6 hd6 (e ▸ hk)⟩)
    clear hO9
    obtain ⟨O9, hN31, hO9⟩ := hD.2 _ (List.mem_cons_of_mem _ List.mem_cons_self) (hS 7 (by decide))
    replace hN31 := Lay.mono (show (typesL n).In _ _ x.results [.slice p31 x.results.length c31] from hN31) (O' := fun k => w18.heap.size ≤ k ∧ k < w22.heap.size ∧ k ≠ BD6) (fun k hk _ => ⟨(hO9.1 k hk).1, (hO9.1 k hk).2, fun e => hO9.2 (9, 6, 4, 50) (by decide) (hS _ (by decide)) BD6 hd6 (e ▸ hk)⟩)
    clear hO9
    have hsD : w18.heap.size ≤ w22.heap.size := hD.1.bel.size
    have hW22 : Wd w11 w22 [(BD6, #[.int .i64 x.regs, .slice p28 x.params.length c28, .slice p31 x.results.length c31, .slice none 0 0], 50), (B17, #[.int .i64 x.regs, .slice f1.pP x.params.length f1.cP, .slice f1.pR x.results.length f1.cR, .slice f1.pB x.blocks.length f1.cB], 50)] := Wd.add (hW18.below hD.1.bel) hBk6 hW18 hBl6
    have hsd2 : w11.heap.size ≤ w18.heap.size := hW18.bel.size
    clear hS hD hFD hDS hW18 hd6
    clear hBk6
    refine hK20 _ _ ?_
    refine wp_seq_k fun K23 hK23 => ?_
    refine wp_seq_k fun K24 hK24 => ?_
    refine rg hF22 fun ops => ?_; clear hF22 a22
    refine sa trivial rfl rfl ?_
    refine St.nil fun a25 h25 => ?_
    refine hK24 _ _ ?_
    refine wp_block ?_
    have hlo2 : w11.heap.size ≤ w22.heap.size := hW22.bel.size
    have hlBD6 : BD6 < w22.heap.size := (hW22.get 0 rfl).lt
    have hlB17 : B17 < w22.heap.size := (hW22.get 1 rfl).lt
    refine fr_loop (fun r a w' => ∃ q2 : Nat, q2 ≤ x.blocks.length ∧ r = x.blocks.length - q2 ∧ ∃ v2 xs, ARow (blockL n) 77 w' w22.heap.size v2 (x.blocks.take q2) xs ∧ KeepBut w22.heap.size BD6 w22 w' ∧ w22.heap.size ≤ w'.heap.size ∧ Fr 110 a [(0, .agg #[.slice p m.length c]), (1, .pointer (some ⟨B2, 0, none⟩)), (2, .pointer (some ⟨B3, 0, none⟩)), (3, .pointer (some ⟨B6, 0, none⟩)), (4, .int .i64 (q1 : Int)), (5, .pointer (some ⟨B17, 0, none⟩)), (6, .pointer (some ⟨BD6, 0, none⟩)), (7, .int .i64 (q2 : Int))] ∧ Wd w11 w' [(BD6, #[.int .i64 x.regs, .slice p28 x.params.length c28, .slice p31 x.results.length c31, v2], 50), (B17, #[.int .i64 x.regs, .slice f1.pP x.params.length f1.cP, .slice f1.pR x.results.length f1.cR, .slice f1.pB x.blocks.length f1.cB], 50)]) (x.blocks.length) ⟨0, Nat.zero_le _, rfl, .slice none 0 0, [], ARow.nil' _ _ _ _, KeepBut.refl _ _ _, Nat.le_refl _, (h25.keep (h25.keep (h25.keep (h25.keep (h25.keep (h25.keep (h25.keep (h25.keep h25.nil (t := 7) rfl) (t := 6) rfl) (t := 5) rfl) (t := 4) rfl) (t := 3) rfl) (t := 2) rfl) (t := 1) rfl) (t := 0) rfl), hW22⟩ ?_
    clear h25 hW22
    rintro r2 a26 w26 ⟨q2, hq2, hr2, v2, xs2, hA0, hK0, hz2, hF26, hWo2⟩ KL2 hKL2
    have hA2 : Hid _ := hA0
    have hK2 : Hid _ := hK0
    clear hA0 hK0
    have hW26 := Wd.start w26
    have hkBD6 : Hid (Blk w26 BD6 #[.int .i64 x.regs, .slice p28 x.params.length c28, .slice p31 x.results.length c31, v2] 50) := hWo2.get 0 rfl
    have hkB17 : Hid (Blk w26 B17 #[.int .i64 x.regs, .slice f1.pP x.params.length f1.cP, .slice f1.pR x.results.length f1.cR, .slice f1.pB x.blocks.length f1.cB] 50) := hWo2.get 1 rfl
    refine wp_seq_k fun K27 hK27 => ?_
    refine wp_seq_k fun K28 hK28 => ?_
    refine rg hF26 fun ops => ?_; clear hF26 a26
    refine sm trivial rfl rfl ?_
    refine sfFunc3 trivial rfl rfl ?_
    refine scBlocks (bel_cell hW26.bel (cellOf hkB17.out 3 _ rfl)) trivial rfl rfl ?_
    refine slBlocks trivial rfl rfl ?_
    refine slt trivial rfl rfl rfl ?_
    refine St.nil fun a29 h29 => ?_
    refine hK28 _ _ ?_
    refine fr_cond (t := 37) h29 rfl (fun hb => ?_) (fun hb => ?_)
    ·have hlt2 : q2 < x.blocks.length := by have := of_decide_eq_true hb; omega
     clear hb
     obtain ⟨y, hx2⟩ : ∃ v9, (x.blocks)[q2]? = some v9 := ⟨_, List.getElem?_eq_getElem hlt2⟩
     obtain ⟨g2, o2, b2, hp2, E2, In2⟩ := block_at (Lay.below In1.out.blocks hWo2.bel) hx2
     replace In2 : Hid _ := In2
     replace hp2 : Hid _ := hp2
     replace hx2 : Hid _ := hx2
     replace E2 : Hid _ := E2
     have hs2 : Hid _ := hs1.out.2.2.2 y (List.mem_of_getElem? hx2.out)
     have hn3 := hs2.out.1
     refine wp_skip ?_
     refine hK27 _ _ ?_
     refine wp_seq_k fun K30 hK30 => ?_
     refine wp_block ?_
     refine wp_seq_k fun K31 hK31 => ?_
     refine rg h29 fun ops => ?_; clear h29 a29
     refine sfFunc3 trivial rfl rfl ?_
     refine scBlocks (bel_cell hW26.bel (cellOf hkB17.out 3 _ rfl)) trivial rfl rfl ?_
     refine sm trivial rfl rfl ?_
     refine siBlocks hp2.out hlt2 trivial rfl rfl rfl ?_
     refine sSE Try.underlying77 rfl (rangeAt_bel E2.out hW26.bel) infBlock trivial rfl rfl ?_
     refine sABlock hW26 trivial rfl ?_
     clear hW26; intro w32 B32 hW32 hN; clear hN
     refine sT 0 hW32 rfl rfl infBlock rfl rfl rfl ?_
     clear hW32; intro w33 hW33
     refine St.nil fun a34 h34 => ?_
     refine hK31 _ _ ?_
     refine wp_seq_k fun K35 hK35 => ?_
     have hF36 : Fr 110 a34 [(0, .agg #[.slice p m.length c]), (1, .pointer (some ⟨B2, 0, none⟩)), (2, .pointer (some ⟨B3, 0, none⟩)), (3, .pointer (some ⟨B6, 0, none⟩)), (4, .int .i64 (q1 : Int)), (5, .pointer (some ⟨B17, 0, none⟩)), (6, .pointer (some ⟨BD6, 0, none⟩)), (7, .int .i64 (q2 : Int)), (8, .pointer (some ⟨B32, 0, none⟩))] := (h34.keep (h34.keep (h34.keep (h34.keep (h34.keep (h34.keep (h34.keep (h34.keep (h34.keep h34.nil (t := 8) rfl) (t := 7) rfl) (t := 6) rfl) (t := 5) rfl) (t := 4) rfl) (t := 3) rfl) (t := 2) rfl) (t := 1) rfl) (t := 0) rfl)
     have ho8 : a34.tmps.getD 8 undef = .pointer (some ⟨B32, 0, none⟩) := h34.sl 8 _ rfl
     have hDS : DStable (Z := Option Addr × Nat) [(4, fun z w O => (typesL n).In w O y.params [.slice z.1 y.params.length z.2])] := by
       intro x hx
       simp only [List.mem_cons, List.not_mem_nil, or_false] at hx
       rcases hx with rfl
       · intro z w w9 O hk h; exact (typesL n).keep hk (fun _ h _ => h) h
     refine fr_draw4 (Z := Option Addr × Nat) [(0, 45), (1, 46), (2, 47), (3, 48), (4, 49), (5, 50)] [(6, 9, 12, 77)] [(7, 9, 12, 77)] (fun z => [(45, .pointer (some ⟨B32, 0, none⟩)), (46, .int .i64 y.regs), (47, .pointer (some ⟨B32, 1, none⟩)), (48, .slice b2.pP y.params.length b2.cP), (49, .slice z.1 y.params.length z.2), (50, .agg #[.int .i64 y.regs, .slice z.1 y.params.length z.2, .slice none 0 0, .int .i64 0, .int .i64 0, .int .i64 0, .slice none 0 0, .slice none 0 0, .int .i64 0, .slice none 0 0, .slice none 0 0, .slice none 0 0])]) (fun z => [(9, [.int .i64 y.regs, .slice z.1 y.params.length z.2, .slice none 0 0, .int .i64 0, .int .i64 0, .int .i64 0, .slice none 0 0, .slice none 0 0, .int .i64 0, .slice none 0 0, .slice none 0 0, .slice none 0 0])]) [(4, fun z w O => (typesL n).In w O y.params [.slice z.1 y.params.length z.2])] (none, 0) (by kernel_rfl) hF36 (by kernel_rfl) (by kernel_rfl) (fun hDB => ?hst) ?hend
     case hst =>
      refine ⟨fun S a1 w1 hS hd hcl hI0 K hK => ?_, ?_⟩
      · obtain ⟨⟨p49, c49⟩, hI⟩ := hI0
        have hWd := hW33.below hI.1.bel
        have k0 : a1.tmps.getD 8 undef = .pointer (some ⟨B32, 0, none⟩) := ((hI.1.outer 8 (by kernel_rfl)).trans ho8)
        go_simp
        exact hK _ _ (DMz.pure hDS hDB hI (i := 0) (t := 45) (by decide) rfl hS (Below.refl _ _) (by kernel_rfl) (by kernel_rfl) rfl)
      refine ⟨fun S a1 w1 hS hd hcl hI0 K hK => ?_, ?_⟩
      · obtain ⟨⟨p49, c49⟩, hI⟩ := hI0
        have hWd := hW33.below hI.1.bel
        have k0 : a1.tmps.getD 45 undef = .pointer (some ⟨B32, 0, none⟩) := (hI.1.vals (0, 45) (by decide) (hd.at 0 (by kernel_rfl)) _ rfl)
        have c0 : w1.cell? ⟨B32, 0, none⟩ = some (.int .i64 y.regs) := cellOf (hWd.get 0 rfl) 0 _ rfl
        go_simp
        exact hK _ _ (DMz.pure hDS hDB hI (i := 1) (t := 46) (by decide) rfl hS (Below.refl _ _) (by kernel_rfl) (by kernel_rfl) rfl)
      refine ⟨fun S a1 w1 hS hd hcl hI0 K hK => ?_, ?_⟩
      · obtain ⟨⟨p49, c49⟩, hI⟩ := hI0
        have hWd := hW33.below hI.1.bel
        have k0 : a1.tmps.getD 8 undef = .pointer (some ⟨B32, 0, none⟩) := ((hI.1.outer 8 (by kernel_rfl)).trans ho8)
        go_simp
        exact hK _ _ (DMz.pure hDS hDB hI (i := 2) (t := 47) (by decide) rfl hS (Below.refl _ _) (by kernel_rfl) (by kernel_rfl) rfl)
      refine ⟨fun S a1 w1 hS hd hcl hI0 K hK => ?_, ?_⟩
      · obtain ⟨⟨p49, c49⟩, hI⟩ := hI0
        have hWd := hW33.below hI.1.bel
        have k0 : a1.tmps.getD 47 undef = .pointer (some ⟨B32, 1, none⟩) := (hI.1.vals (2, 47) (by decide) (hd.at 2 (by kernel_rfl)) _ rfl)
        have c1 : w1.cell? ⟨B32, 1, none⟩ = some (.slice b2.pP y.params.length b2.cP) := cellOf (hWd.get 0 rfl) 1 _ rfl
        go_simp
        exact hK _ _ (DMz.pure hDS hDB hI (i := 3) (t := 48) (by decide) rfl hS (Below.refl _ _) (by kernel_rfl) (by kernel_rfl) rfl)
      refine ⟨fun S a1 w1 hS hd hcl hI0 K hK => ?_, ?_⟩
      · obtain ⟨⟨p49, c49⟩, hI⟩ := hI0
        have hWd := hW33.below hI.1.bel
        have k0 : a1.tmps.getD 48 undef = .slice b2.pP y.params.length b2.cP := (hI.1.vals (3, 48) (by decide) (hd.at 3 (by kernel_rfl)) _ rfl)
        go_simp
        refine (rOwnTypes_any (Lay.below In2.out.params hWd.bel) hs2.out.2.1).mono ?_
        rintro e w9 ⟨p49n, c49n, rfl, h9, hb⟩
        refine hK _ _ (DMz.call hDS hDB hI (z' := (p49n, c49n)) (i := 4) (t := 49) (by decide) rfl hS hcl hb (by kernel_rfl) (by kernel_rfl) [5, 7] (by kernel_rfl) ?_ ?_ ?_)
        · intro x hx; simp only [List.mem_cons, List.not_mem_nil, or_false] at hx; rcases hx with rfl | rfl | rfl | rfl | rfl | rfl
          all_goals first | exact .inr (.inr rfl) | exact .inl (by decide) | exact .inr (.inl rfl)
        · intro x hx; simp only [List.mem_cons, List.not_mem_nil, or_false] at hx; rcases hx with rfl
          all_goals exact .inl (by decide)
        · intro x hx; simp only [List.mem_cons, List.not_mem_nil, or_false] at hx; rcases hx with rfl
          · exact .inl ⟨rfl, fun k => w1.heap.size ≤ k ∧ k < w9.heap.size, Lay.mono h9 (fun k hk hl => ⟨hk, hl⟩), fun k hk => hk⟩
      refine ⟨fun S a1 w1 hS hd hcl hI0 K hK => ?_, ?_⟩
      · obtain ⟨⟨p49, c49⟩, hI⟩ := hI0
        have hWd := hW33.below hI.1.bel
        have k0 : a1.tmps[46]?.getD undef = .int .i64 y.regs := by rw [← Array.getD_eq_getD_getElem?]; exact (hI.1.vals (1, 46) (by decide) (hd.at 1 (by kernel_rfl)) _ rfl)
        have k1 : a1.tmps[49]?.getD undef = .slice p49 y.params.length c49 := by rw [← Array.getD_eq_getD_getElem?]; exact (hI.1.vals (4, 49) (by decide) (hd.at 4 (by kernel_rfl)) _ rfl)
        go_simp
        exact hK _ _ (DMz.pure hDS hDB hI (i := 5) (t := 50) (by decide) rfl hS (Below.refl _ _) (by kernel_rfl) (by kernel_rfl) rfl)
      refine ⟨fun S a1 w1 hS hd hcl hI0 K hK => ?_, ?_⟩
      · obtain ⟨⟨p49, c49⟩, hI⟩ := hI0
        go_simp
        exact hK _ _ (DMz.alloc hDS hDB hI (i := 6) (t := 9) (s := 12) (ty := 77) (by decide) rfl hS hcl (by kernel_rfl) (by kernel_rfl) rfl)
      refine ⟨fun S a1 w1 hS hd hcl hI0 K hK => ?_, ?_⟩
      · obtain ⟨⟨p49, c49⟩, hI⟩ := hI0
        have k0 : a1.tmps.getD 50 undef = .agg #[.int .i64 y.regs, .slice p49 y.params.length c49, .slice none 0 0, .int .i64 0, .int .i64 0, .int .i64 0, .slice none 0 0, .slice none 0 0, .int .i64 0, .slice none 0 0, .slice none 0 0, .slice none 0 0] := (hI.1.vals (5, 50) (by decide) (hd.at 5 (by kernel_rfl)) _ rfl)
        obtain ⟨B, kB, hlo, c0, hBk, hcs⟩ := hI.1.box (i := 6) (t := 9) (s := 12) (ty := 77) (by decide) (hd.at 6 (by kernel_rfl))
        exact wp_fill hBk kB k0 infBlock rfl hcs.symm (hK _ _ (DMz.store hDS hDB hI (i := 7) (t := 9) (s := 12) (ty := 77) (j := 6) (by decide) (by decide) (hd.at 6 (by kernel_rfl)) kB hBk hcs hlo rfl rfl hS hcl (by kernel_rfl) (by kernel_rfl) rfl))
      trivial
     case hend =>
      rintro ⟨p49, c49⟩ S a37 w37 hS hD hFD
      obtain ⟨BD9, hd9, hBl9, hBk9⟩ := hD.1.full (j := 6) (i := 7) (t := 9) (s := 12) (ty := 77) (by decide) (hS _ (by decide)) (by decide) (hS _ (by decide)) rfl
      have hF37 : Fr 110 a37 [(9, .pointer (some ⟨BD9, 0, none⟩)), (0, .agg #[.slice p m.length c]), (1, .pointer (some ⟨B2, 0, none⟩)), (2, .pointer (some ⟨B3, 0, none⟩)), (3, .pointer (some ⟨B6, 0, none⟩)), (4, .int .i64 (q1 : Int)), (5, .pointer (some ⟨B17, 0, none⟩)), (6, .pointer (some ⟨BD6, 0, none⟩)), (7, .int .i64 (q2 : Int)), (8, .pointer (some ⟨B32, 0, none⟩))] := (hFD.cons hd9)
      obtain ⟨O9, hN49, hO9⟩ := hD.2 _ List.mem_cons_self (hS 4 (by decide))
      replace hN49 := Lay.mono (show (typesL n).In _ _ y.params [.slice p49 y.params.length c49] from hN49) (O' := fun k => w33.heap.size ≤ k ∧ k < w37.heap.size ∧ k ≠ BD9) (fun k hk _ => ⟨(hO9.1 k hk).1, (hO9.1 k hk).2, fun e => hO9.2 (6, 9, 12, 77) (by decide) (hS _ (by decide)) BD9 hd9 (e ▸ hk)⟩)
      clear hO9
      have hsD : w33.heap.size ≤ w37.heap.size := hD.1.bel.size
      have hW37 : Wd w26 w37 [(BD9, #[.int .i64 y.regs, .slice p49 y.params.length c49, .slice none 0 0, .int .i64 0, .int .i64 0, .int .i64 0, .slice none 0 0, .slice none 0 0, .int .i64 0, .slice none 0 0, .slice none 0 0, .slice none 0 0], 77), (B32, #[.int .i64 y.regs, .slice b2.pP y.params.length b2.cP, .slice b2.pC y.code.length b2.cC, .int .i64 y.fin.op, .int .i64 y.fin.a, .int .i64 y.fin.yes.block, .slice b2.e.pYR y.fin.yes.regs.length b2.e.cYR, .slice b2.e.pYA y.fin.yes.args.length b2.e.cYA, .int .i64 y.fin.no.block, .slice b2.e.pNR y.fin.no.regs.length b2.e.cNR, .slice b2.e.pNA y.fin.no.args.length b2.e.cNA, .slice b2.e.pA y.fin.args.length b2.e.cA], 77)] := Wd.add (hW33.below hD.1.bel) hBk9 hW33 hBl9
      have hsd3 : w26.heap.size ≤ w33.heap.size := hW33.bel.size
      clear hS hD hFD hDS hW33 hd9
      clear hBk9
      refine hK35 _ _ ?_
      refine wp_seq_k fun K38 hK38 => ?_
      refine wp_seq_k fun K39 hK39 => ?_
      refine rg hF37 fun ops => ?_; clear hF37 a37
      refine sa trivial rfl rfl ?_
      refine St.nil fun a40 h40 => ?_
      refine hK39 _ _ ?_
      refine wp_block ?_
      have hlo3 : w26.heap.size ≤ w37.heap.size := hW37.bel.size
      have hlBD9 : BD9 < w37.heap.size := (hW37.get 0 rfl).lt
      have hlB32 : B32 < w37.heap.size := (hW37.get 1 rfl).lt
      refine fr_loop (fun r a w' => ∃ q3 : Nat, q3 ≤ y.code.length ∧ r = y.code.length - q3 ∧ ∃ v3 xs, ARow insL 46 w' w37.heap.size v3 (y.code.take q3) xs ∧ KeepBut w37.heap.size BD9 w37 w' ∧ w37.heap.size ≤ w'.heap.size ∧ Fr 110 a [(0, .agg #[.slice p m.length c]), (1, .pointer (some ⟨B2, 0, none⟩)), (2, .pointer (some ⟨B3, 0, none⟩)), (3, .pointer (some ⟨B6, 0, none⟩)), (4, .int .i64 (q1 : Int)), (5, .pointer (some ⟨B17, 0, none⟩)), (6, .pointer (some ⟨BD6, 0, none⟩)), (7, .int .i64 (q2 : Int)), (8, .pointer (some ⟨B32, 0, none⟩)), (9, .pointer (some ⟨BD9, 0, none⟩)), (10, .int .i64 (q3 : Int))] ∧ Wd w26 w' [(BD9, #[.int .i64 y.regs, .slice p49 y.params.length c49, v3, .int .i64 0, .int .i64 0, .int .i64 0, .slice none 0 0, .slice none 0 0, .int .i64 0, .slice none 0 0, .slice none 0 0, .slice none 0 0], 77), (B32, #[.int .i64 y.regs, .slice b2.pP y.params.length b2.cP, .slice b2.pC y.code.length b2.cC, .int .i64 y.fin.op, .int .i64 y.fin.a, .int .i64 y.fin.yes.block, .slice b2.e.pYR y.fin.yes.regs.length b2.e.cYR, .slice b2.e.pYA y.fin.yes.args.length b2.e.cYA, .int .i64 y.fin.no.block, .slice b2.e.pNR y.fin.no.regs.length b2.e.cNR, .slice b2.e.pNA y.fin.no.args.length b2.e.cNA, .slice b2.e.pA y.fin.args.length b2.e.cA], 77)]) (y.code.length) ⟨0, Nat.zero_le _, rfl, .slice none 0 0, [], ARow.nil' _ _ _ _, KeepBut.refl _ _ _, Nat.le_refl _, (h40.keep (h40.keep (h40.keep (h40.keep (h40.keep (h40.keep (h40.keep (h40.keep (h40.keep (h40.keep (h40.keep h40.nil (t := 10) rfl) (t := 9) rfl) (t := 8) rfl) (t := 7) rfl) (t := 6) rfl) (t := 5) rfl) (t := 4) rfl) (t := 3) rfl) (t := 2) rfl) (t := 1) rfl) (t := 0) rfl), hW37⟩ ?_
      clear h40 hW37
      rintro r3 a41 w41 ⟨q3, hq3, hr3, v3, xs3, hA0, hK0, hz3, hF41, hWo3⟩ KL3 hKL3
      have hA3 : Hid _ := hA0
      have hK3 : Hid _ := hK0
      clear hA0 hK0
      have hW41 := Wd.start w41
      have hkBD9 : Hid (Blk w41 BD9 #[.int .i64 y.regs, .slice p49 y.params.length c49, v3, .int .i64 0, .int .i64 0, .int .i64 0, .slice none 0 0, .slice none 0 0, .int .i64 0, .slice none 0 0, .slice none 0 0, .slice none 0 0] 77) := hWo3.get 0 rfl
      have hkB32 : Hid (Blk w41 B32 #[.int .i64 y.regs, .slice b2.pP y.params.length b2.cP, .slice b2.pC y.code.length b2.cC, .int .i64 y.fin.op, .int .i64 y.fin.a, .int .i64 y.fin.yes.block, .slice b2.e.pYR y.fin.yes.regs.length b2.e.cYR, .slice b2.e.pYA y.fin.yes.args.length b2.e.cYA, .int .i64 y.fin.no.block, .slice b2.e.pNR y.fin.no.regs.length b2.e.cNR, .slice b2.e.pNA y.fin.no.args.length b2.e.cNA, .slice b2.e.pA y.fin.args.length b2.e.cA] 77) := hWo3.get 1 rfl
      refine wp_seq_k fun K42 hK42 => ?_
      refine wp_seq_k fun K43 hK43 => ?_
      refine rg hF41 fun ops => ?_; clear hF41 a41
      refine sm trivial rfl rfl ?_
      refine sfBlock2 trivial rfl rfl ?_
      refine scInss (bel_cell hW41.bel (cellOf hkB32.out 2 _ rfl)) trivial rfl rfl ?_
      refine slInss trivial rfl rfl ?_
      refine slt trivial rfl rfl rfl ?_
      refine St.nil fun a44 h44 => ?_
      refine hK43 _ _ ?_
      refine fr_cond (t := 55) h44 rfl (fun hb => ?_) (fun hb => ?_)
      ·have hlt3 : q3 < y.code.length := by have := of_decide_eq_true hb; omega
       clear hb
       obtain ⟨z, hx3⟩ : ∃ v9, (y.code)[q3]? = some v9 := ⟨_, List.getElem?_eq_getElem hlt3⟩
       obtain ⟨g3, o3, i3, hp3, E3, In3⟩ := ins_at (Lay.below In2.out.code hWo3.bel) hx3
       replace In3 : Hid _ := In3
       replace hp3 : Hid _ := hp3
       replace hx3 : Hid _ := hx3
       replace E3 : Hid _ := E3
       have hs3 : Hid _ := hs2.out.2.2.2 z (List.mem_of_getElem? hx3.out)
       refine wp_skip ?_
       refine hK42 _ _ ?_
       refine wp_seq_k fun K45 hK45 => ?_
       refine wp_block ?_
       refine wp_seq_k fun K46 hK46 => ?_
       refine rg h44 fun ops => ?_; clear h44 a44
       refine sfBlock2 trivial rfl rfl ?_
       refine scInss (bel_cell hW41.bel (cellOf hkB32.out 2 _ rfl)) trivial rfl rfl ?_
       refine sm trivial rfl rfl ?_
       refine siInss hp3.out hlt3 trivial rfl rfl rfl ?_
       refine sSE Try.underlying46 rfl (rangeAt_bel E3.out hW41.bel) infIns trivial rfl rfl ?_
       refine sAIns hW41 trivial rfl ?_
       clear hW41; intro w47 B47 hW47 hN; clear hN
       refine sT 0 hW47 rfl rfl infIns rfl rfl rfl ?_
       clear hW47; intro w48 hW48
       refine St.nil fun a49 h49 => ?_
       refine hK46 _ _ ?_
       refine wp_seq_k fun K50 hK50 => ?_
       have hF51 : Fr 110 a49 [(0, .agg #[.slice p m.length c]), (1, .pointer (some ⟨B2, 0, none⟩)), (2, .pointer (some ⟨B3, 0, none⟩)), (3, .pointer (some ⟨B6, 0, none⟩)), (4, .int .i64 (q1 : Int)), (5, .pointer (some ⟨B17, 0, none⟩)), (6, .pointer (some ⟨BD6, 0, none⟩)), (7, .int .i64 (q2 : Int)), (8, .pointer (some ⟨B32, 0, none⟩)), (9, .pointer (some ⟨BD9, 0, none⟩)), (10, .int .i64 (q3 : Int)), (11, .pointer (some ⟨B47, 0, none⟩))] := (h49.keep (h49.keep (h49.keep (h49.keep (h49.keep (h49.keep (h49.keep (h49.keep (h49.keep (h49.keep (h49.keep (h49.keep h49.nil (t := 11) rfl) (t := 10) rfl) (t := 9) rfl) (t := 8) rfl) (t := 7) rfl) (t := 6) rfl) (t := 5) rfl) (t := 4) rfl) (t := 3) rfl) (t := 2) rfl) (t := 1) rfl) (t := 0) rfl)
       have ho11 : a49.tmps.getD 11 undef = .pointer (some ⟨B47, 0, none⟩) := h49.sl 11 _ rfl
       refine fr_draw_k 7 ([(11, fun v _ => v = .pointer (some ⟨B47, 0, none⟩)), (63, fun v _ => v = .pointer (some ⟨B47, 6, none⟩)), (64, fun v _ => v = .slice i3.pR z.regs.length i3.cR), (65, fun v w' => ∃ p c, v = .slice p z.regs.length c ∧ intsL.In w' (From w48.heap.size) z.regs [.slice p z.regs.length c]), (66, fun v _ => v = .pointer (some ⟨B47, 7, none⟩)), (67, fun v _ => v = .slice i3.pA z.args.length i3.cA), (68, fun v w' => ∃ p c, v = .slice p z.args.length c ∧ intsL.In w' (From w48.heap.size) z.args [.slice p z.args.length c]), (69, fun v _ => v = .pointer (some ⟨B47, 6, none⟩))] : PTab) (fun w' => Wd w41 w' [(B47, #[.int .i64 z.op, .int .i64 z.a, .int .i64 z.b, .int .i64 z.c, .int .i64 z.k, .int .i64 z.n, .slice i3.pR z.regs.length i3.cR, .slice i3.pA z.args.length i3.cA], 46)] ∧ Below w48.heap.size w48 w') (fun w w' => Below w.heap.size w w') (outs := [11]) (gs := []) (bs := [true, true, true, true, true, true, true]) (by kernel_rfl) hF51 rfl (by kernel_rfl) (by kernel_rfl) ?hR ?hG ⟨hW48.drewN 1, drewN_below (m := 1) (Below.refl _ _)⟩ ⟨ho11, trivial⟩ ?hA ?hend
       case hR => exact ⟨fun _ _ _ _ h => h, fun _ _ _ _ h => h, fun _ _ _ _ h => h, fun v w w' hr h => by obtain ⟨p, c, h1, h2⟩ := h; exact ⟨p, c, h1, Lay.below h2 hr⟩, fun _ _ _ _ h => h, fun _ _ _ _ h => h, fun v w w' hr h => by obtain ⟨p, c, h1, h2⟩ := h; exact ⟨p, c, h1, Lay.below h2 hr⟩, fun _ _ _ _ h => h, trivial⟩
       case hG => exact trivial
       case hA =>
        refine ⟨fun a w hW hk K hK => ?_, ?_⟩
        · obtain ⟨k0, -⟩ := hk
          have k0 : a.tmps.getD 11 undef = .pointer (some ⟨B47, 0, none⟩) := k0
          go_simp
          exact hK _ _ (Below.refl _ _) hW rfl
        refine ⟨fun a w hW hk K hK => ?_, ?_⟩
        · obtain ⟨k0, -⟩ := hk
          have k0 : a.tmps.getD 63 undef = .pointer (some ⟨B47, 6, none⟩) := k0
          have c6 : w.cell? ⟨B47, 6, none⟩ = some (.slice i3.pR z.regs.length i3.cR) := cellOf (hW.1.get 0 rfl) 6 _ rfl
          go_simp
          exact hK _ _ (Below.refl _ _) hW rfl
        refine ⟨fun a w hW hk K hK => ?_, ?_⟩
        · obtain ⟨k0, -⟩ := hk
          have k0 : a.tmps.getD 64 undef = .slice i3.pR z.regs.length i3.cR := k0
          go_simp
          refine (rOwnInts_any _ _ _ w (Lay.below In3.out.regs hW.1.bel) (by have := hs3.out.1; omega)).mono ?_
          rintro e w9 ⟨p9, c9, rfl, h9, hb⟩
          exact hK _ _ hb ⟨hW.1.below hb, Below.andThen hW.2 hb⟩ ⟨p9, c9, rfl, Lay.mono h9 (fun k hk _ => Nat.le_trans hW.2.size hk)⟩
        refine ⟨fun a w hW hk K hK => ?_, ?_⟩
        · obtain ⟨k0, -⟩ := hk
          have k0 : a.tmps.getD 11 undef = .pointer (some ⟨B47, 0, none⟩) := k0
          go_simp
          exact hK _ _ (Below.refl _ _) hW rfl
        refine ⟨fun a w hW hk K hK => ?_, ?_⟩
        · obtain ⟨k0, -⟩ := hk
          have k0 : a.tmps.getD 66 undef = .pointer (some ⟨B47, 7, none⟩) := k0
          have c7 : w.cell? ⟨B47, 7, none⟩ = some (.slice i3.pA z.args.length i3.cA) := cellOf (hW.1.get 0 rfl) 7 _ rfl
          go_simp
          exact hK _ _ (Below.refl _ _) hW rfl
        refine ⟨fun a w hW hk K hK => ?_, ?_⟩
        · obtain ⟨k0, -⟩ := hk
          have k0 : a.tmps.getD 67 undef = .slice i3.pA z.args.length i3.cA := k0
          go_simp
          refine (rOwnInts_any _ _ _ w (Lay.below In3.out.args hW.1.bel) (by have := hs3.out.2; omega)).mono ?_
          rintro e w9 ⟨p9, c9, rfl, h9, hb⟩
          exact hK _ _ hb ⟨hW.1.below hb, Below.andThen hW.2 hb⟩ ⟨p9, c9, rfl, Lay.mono h9 (fun k hk _ => Nat.le_trans hW.2.size hk)⟩
        refine ⟨fun a w hW hk K hK => ?_, ?_⟩
        · obtain ⟨k0, -⟩ := hk
          have k0 : a.tmps.getD 11 undef = .pointer (some ⟨B47, 0, none⟩) := k0
          go_simp
          exact hK _ _ (Below.refl _ _) hW rfl
        trivial
       case hend =>
        intro ops a52 w52 hWD hE hFD
        obtain ⟨p65, c65, hd65, hN65⟩ := hE 65 rfl
        replace hd65 : a52.tmps.getD 65 undef = .slice p65 z.regs.length c65 := hd65
        obtain ⟨p68, c68, hd68, hN68⟩ := hE 68 rfl
        replace hd68 : a52.tmps.getD 68 undef = .slice p68 z.args.length c68 := hd68
        have hd69 : a52.tmps.getD 69 undef = .pointer (some ⟨B47, 6, none⟩) := hE 69 rfl
        have hF52 : Fr 110 a52 [(69, .pointer (some ⟨B47, 6, none⟩)), (68, .slice p68 z.args.length c68), (65, .slice p65 z.regs.length c65), (0, .agg #[.slice p m.length c]), (1, .pointer (some ⟨B2, 0, none⟩)), (2, .pointer (some ⟨B3, 0, none⟩)), (3, .pointer (some ⟨B6, 0, none⟩)), (4, .int .i64 (q1 : Int)), (5, .pointer (some ⟨B17, 0, none⟩)), (6, .pointer (some ⟨BD6, 0, none⟩)), (7, .int .i64 (q2 : Int)), (8, .pointer (some ⟨B32, 0, none⟩)), (9, .pointer (some ⟨BD9, 0, none⟩)), (10, .int .i64 (q3 : Int)), (11, .pointer (some ⟨B47, 0, none⟩))] := (((hFD.cons hd65).cons hd68).cons hd69)
        clear hd65 hd68 hd69
        have hW52 : Wd w41 w52 [(B47, #[.int .i64 z.op, .int .i64 z.a, .int .i64 z.b, .int .i64 z.c, .int .i64 z.k, .int .i64 z.n, .slice i3.pR z.regs.length i3.cR, .slice i3.pA z.args.length i3.cA], 46)] := hWD.1
        have hsa3 : w41.heap.size ≤ w48.heap.size := hW48.bel.size
        have hmB47 : B47 < w48.heap.size := (hW48.get 0 rfl).lt
        clear hFD hWD hE hF51 h49
        clear hW48
        refine St.go hF52 ?_; clear hF52 a52
        refine s1k 0 inf1Ints hW52 rfl rfl rfl rfl rfl rfl ?_
        intro w53 hKp hW53
        replace hN65 := Lay.keep1 hN65 hKp hmB47
        replace hN68 := Lay.keep1 hN68 hKp hmB47
        clear hKp hW52
        refine sfIns7 trivial rfl rfl ?_
        refine s1k 0 inf1Ints hW53 rfl rfl rfl rfl rfl rfl ?_
        intro w54 hKp hW54
        replace hN65 := Lay.keep1 hN65 hKp hmB47
        replace hN68 := Lay.keep1 hN68 hKp hmB47
        clear hKp hW53
        refine St.nil fun a55 h55 => ?_
        refine hK50 _ _ ?_
        refine rg h55 fun ops => ?_; clear h55 a55
        refine sfBlock2 trivial rfl rfl ?_
        refine scInss (bel_cell hW54.bel (cellOf hkBD9.out 2 _ rfl)) trivial rfl rfl ?_
        refine sS 0 8 Try.underlying46 rfl infIns hW54 trivial rfl rfl rfl rfl ?_
        intro a56 h56
        refine fr_row (t := 74) #[.int .i64 z.op, .int .i64 z.a, .int .i64 z.b, .int .i64 z.c, .int .i64 z.k, .int .i64 z.n, .slice p65 z.regs.length c65, .slice p68 z.args.length c68] 46 1 h56 hW54 rfl rfl rfl (fun K hK => ?_) ?_
        ·have k0 : a56.tmps[73]?.getD undef = .agg #[.int .i64 z.op, .int .i64 z.a, .int .i64 z.b, .int .i64 z.c, .int .i64 z.k, .int .i64 z.n, .slice p65 z.regs.length c65, .slice p68 z.args.length c68] := h56.sl2 73 _ rfl
         go_simp
         exact hK
        clear h56 hW54; intro a57 w58 B58 hW58 hN hF57; replace hN65 := Lay.below hN65 hN.bel; replace hN68 := Lay.below hN68 hN.bel; clear hN
        refine St.go hF57 ?_; clear hF57 a57
        have hI9 : insL.In w58 (From w41.heap.size) z [.int .i64 z.op, .int .i64 z.a, .int .i64 z.b, .int .i64 z.c, .int .i64 z.k, .int .i64 z.n, .slice p65 z.regs.length c65, .slice p68 z.args.length c68] := ins_shut (x := z) (i := ⟨p65, c65, p68, c68⟩) ⟨Lay.mono hN65 (fun k hk _ => Nat.le_trans hsa3 hk), Lay.mono hN68 (fun k hk _ => Nat.le_trans hsa3 hk), In3.out.bnd⟩
        have hAx := hA3.out.below hW58.bel
        have hzx : w37.heap.size ≤ w58.heap.size := Nat.le_trans hz3 hW58.bel.size
        have hKx := KeepBut.below hK3.out hW58.bel hz3
        refine sApp underIns hiI hzI0 hzI1 hzI2 rfl (by decide) rfl (hWo3.below hW58.bel) hlo3 (lts2 hlBD9 hlB32) hAx hzx (hW58.get 0 rfl) (Lay.mono hI9 (fun k hk _ => ⟨Nat.le_trans hz3 hk, hA3.out.own_lt hk⟩)) rfl (by rw [List.length_take]; omega) (by decide) rfl rfl rfl ?_
        intro g59 cp59 w59 hA9 hgr hW59
        have hK9 := hKx.grown hgr hzx (fun k hk => (hAx.lo_le hk).1)
        clear hAx hzx hKx hgr hI9 hW58
        refine sfBlock2 trivial rfl rfl ?_
        refine s1k 0 inf1Inss hW59 rfl rfl rfl rfl rfl rfl ?_
        intro w60 hKp hW60
        replace hA9 := ARow.keep1 hA9 hKp hlBD9
        replace hK9 := KeepBut.keep1t hK9 hKp hlBD9
        clear hKp hW59
        refine St.nil fun a61 h61 => ?_
        refine hK45 _ _ ?_
        refine rg h61 fun ops => ?_; clear h61 a61
        refine sm trivial rfl rfl ?_
        refine sad (by omega) trivial rfl rfl rfl ?_
        refine sa trivial rfl rfl ?_
        refine St.nil fun a62 h62 => ?_
        have hA8 := hA9.next hx3.out
        exact hKL3 _ _ (y.code.length - (q3 + 1)) (by omega) ⟨q3 + 1, by omega, rfl, _, _, hA8, hK9, Nat.le_of_lt (Nat.lt_of_le_of_lt (hA8.lo_le (g := g59) rfl).1 (hA8.lo_le (g := g59) rfl).2), (h62.keep (h62.keep (h62.keep (h62.keep (h62.keep (h62.keep (h62.keep (h62.keep (h62.keep (h62.keep (h62.keep h62.nil (t := 10) rfl) (t := 9) rfl) (t := 8) rfl) (t := 7) rfl) (t := 6) rfl) (t := 5) rfl) (t := 4) rfl) (t := 3) rfl) (t := 2) rfl) (t := 1) rfl) (t := 0) rfl), hW60⟩
      have hge3 : q3 = y.code.length := by have := of_decide_eq_false hb; omega
      clear hb hW41
      have hAx := hA3.out.full hge3
      obtain ⟨pL3, cL3, hv9⟩ := hAx.form
      subst hv9
      have hL3 := hAx.lay
      clear hAx
      replace hL3 := Lay.mono hL3 (O' := fun k => w26.heap.size ≤ k ∧ k ≠ BD9) (fun k hk _ => ⟨by have h9 : w37.heap.size ≤ k := hk; omega, by have h9 : w37.heap.size ≤ k := hk; omega⟩)
      replace hN49 := Lay.keepBut hN49 hK3.out (O' := fun k => w26.heap.size ≤ k ∧ k ≠ BD9) (fun k hk _ => ⟨hk.2.1, hk.2.2⟩) (fun k hk _ => ⟨Nat.le_trans hsd3 hk.1, hk.2.2⟩)
      refine wp_exit ?_
      refine hK38 _ _ ?_
      refine wp_seq_k fun K63 hK63 => ?_
      have hF64 : Fr 110 a44 [(0, .agg #[.slice p m.length c]), (1, .pointer (some ⟨B2, 0, none⟩)), (2, .pointer (some ⟨B3, 0, none⟩)), (3, .pointer (some ⟨B6, 0, none⟩)), (4, .int .i64 (q1 : Int)), (5, .pointer (some ⟨B17, 0, none⟩)), (6, .pointer (some ⟨BD6, 0, none⟩)), (7, .int .i64 (q2 : Int)), (8, .pointer (some ⟨B32, 0, none⟩)), (9, .pointer (some ⟨BD9, 0, none⟩)), (10, .int .i64 (q3 : Int))] := (h44.keep (h44.keep (h44.keep (h44.keep (h44.keep (h44.keep (h44.keep (h44.keep (h44.keep (h44.keep (h44.keep h44.nil (t := 10) rfl) (t := 9) rfl) (t := 8) rfl) (t := 7) rfl) (t := 6) rfl) (t := 5) rfl) (t := 4) rfl) (t := 3) rfl) (t := 2) rfl) (t := 1) rfl) (t := 0) rfl)
      have ho8 : a44.tmps.getD 8 undef = .pointer (some ⟨B32, 0, none⟩) := h44.sl 8 _ rfl
      have ho9 : a44.tmps.getD 9 undef = .pointer (some ⟨BD9, 0, none⟩) := h44.sl 9 _ rfl
      refine fr_draw_k 20 ([(8, fun v _ => v = .pointer (some ⟨B32, 0, none⟩)), (9, fun v _ => v = .pointer (some ⟨BD9, 0, none⟩)), (77, fun v _ => v = .pointer (some ⟨B32, 3, none⟩)), (78, fun v _ => v = .pointer (some ⟨B32, 3, none⟩)), (79, fun v _ => v = .int .i64 y.fin.op), (80, fun v _ => v = .pointer (some ⟨B32, 3, none⟩)), (81, fun v _ => v = .pointer (some ⟨B32, 4, none⟩)), (82, fun v _ => v = .int .i64 y.fin.a), (83, fun v _ => v = .pointer (some ⟨B32, 3, none⟩)), (84, fun v _ => v = .pointer (some ⟨B32, 5, none⟩)), (85, fun v _ => v = .agg #[.int .i64 y.fin.yes.block, .slice b2.e.pYR y.fin.yes.regs.length b2.e.cYR, .slice b2.e.pYA y.fin.yes.args.length b2.e.cYA]), (86, fun v w' => ∃ p c p2 c2, v = .agg #[.int .i64 y.fin.yes.block, .slice p y.fin.yes.regs.length c, .slice p2 y.fin.yes.args.length c2] ∧ TIn2 w' (From w41.heap.size) y.fin.yes p c p2 c2), (87, fun v _ => v = .pointer (some ⟨B32, 3, none⟩)), (88, fun v _ => v = .pointer (some ⟨B32, 8, none⟩)), (89, fun v _ => v = .agg #[.int .i64 y.fin.no.block, .slice b2.e.pNR y.fin.no.regs.length b2.e.cNR, .slice b2.e.pNA y.fin.no.args.length b2.e.cNA]), (90, fun v w' => ∃ p c p2 c2, v = .agg #[.int .i64 y.fin.no.block, .slice p y.fin.no.regs.length c, .slice p2 y.fin.no.args.length c2] ∧ TIn2 w' (From w41.heap.size) y.fin.no p c p2 c2), (91, fun v _ => v = .pointer (some ⟨B32, 3, none⟩)), (92, fun v _ => v = .pointer (some ⟨B32, 11, none⟩)), (93, fun v _ => v = .slice b2.e.pA y.fin.args.length b2.e.cA), (94, fun v w' => ∃ p c, v = .slice p y.fin.args.length c ∧ intsL.In w' (From w41.heap.size) y.fin.args [.slice p y.fin.args.length c]), (95, fun v w' => ∃ e : EP, v = .agg #[.int .i64 y.fin.op, .int .i64 y.fin.a, .int .i64 y.fin.yes.block, .slice e.pYR y.fin.yes.regs.length e.cYR, .slice e.pYA y.fin.yes.args.length e.cYA, .int .i64 y.fin.no.block, .slice e.pNR y.fin.no.regs.length e.cNR, .slice e.pNA y.fin.no.args.length e.cNA, .slice e.pA y.fin.args.length e.cA] ∧ EIn w' (From w41.heap.size) y.fin e), (96, fun v _ => v = .pointer (some ⟨BD9, 3, none⟩))] : PTab) (fun w' => Wd w26 w' [(BD9, #[.int .i64 y.regs, .slice p49 y.params.length c49, .slice pL3 y.code.length cL3, .int .i64 0, .int .i64 0, .int .i64 0, .slice none 0 0, .slice none 0 0, .int .i64 0, .slice none 0 0, .slice none 0 0, .slice none 0 0], 77), (B32, #[.int .i64 y.regs, .slice b2.pP y.params.length b2.cP, .slice b2.pC y.code.length b2.cC, .int .i64 y.fin.op, .int .i64 y.fin.a, .int .i64 y.fin.yes.block, .slice b2.e.pYR y.fin.yes.regs.length b2.e.cYR, .slice b2.e.pYA y.fin.yes.args.length b2.e.cYA, .int .i64 y.fin.no.block, .slice b2.e.pNR y.fin.no.regs.length b2.e.cNR, .slice b2.e.pNA y.fin.no.args.length b2.e.cNA, .slice b2.e.pA y.fin.args.length b2.e.cA], 77)] ∧ Below w41.heap.size w41 w') (fun w w' => Below w.heap.size w w') (outs := [8, 9]) (gs := []) (bs := [true, true, true, true, true, true, true, true, true, true, true, true, true, true, true, true, true, true, true, true]) (by kernel_rfl) hF64 rfl (by kernel_rfl) (by kernel_rfl) ?hR ?hG ⟨hWo3.drewN 1, drewN_below (m := 1) (Below.refl _ _)⟩ ⟨ho8, ho9, trivial⟩ ?hA ?hend
      case hR => exact ⟨fun _ _ _ _ h => h, fun _ _ _ _ h => h, fun _ _ _ _ h => h, fun _ _ _ _ h => h, fun _ _ _ _ h => h, fun _ _ _ _ h => h, fun _ _ _ _ h => h, fun _ _ _ _ h => h, fun _ _ _ _ h => h, fun _ _ _ _ h => h, fun _ _ _ _ h => h, fun v w w' hr h => by obtain ⟨p, c, p2, c2, h1, h2⟩ := h; exact ⟨p, c, p2, c2, h1, h2.below hr⟩, fun _ _ _ _ h => h, fun _ _ _ _ h => h, fun _ _ _ _ h => h, fun v w w' hr h => by obtain ⟨p, c, p2, c2, h1, h2⟩ := h; exact ⟨p, c, p2, c2, h1, h2.below hr⟩, fun _ _ _ _ h => h, fun _ _ _ _ h => h, fun _ _ _ _ h => h, fun v w w' hr h => by obtain ⟨p, c, h1, h2⟩ := h; exact ⟨p, c, h1, Lay.below h2 hr⟩, fun v w w' hr h => by obtain ⟨e, h1, h2⟩ := h; exact ⟨e, h1, h2.below hr⟩, fun _ _ _ _ h => h, trivial⟩
      case hG => exact trivial
      case hA =>
       refine ⟨fun a w hW hk K hK => ?_, ?_⟩
       · obtain ⟨k0, -⟩ := hk
         have k0 : a.tmps.getD 8 undef = .pointer (some ⟨B32, 0, none⟩) := k0
         go_simp
         exact hK _ _ (Below.refl _ _) hW rfl
       refine ⟨fun a w hW hk K hK => ?_, ?_⟩
       · obtain ⟨k0, -⟩ := hk
         have k0 : a.tmps.getD 77 undef = .pointer (some ⟨B32, 3, none⟩) := k0
         go_simp
         exact hK _ _ (Below.refl _ _) hW rfl
       refine ⟨fun a w hW hk K hK => ?_, ?_⟩
       · obtain ⟨k0, -⟩ := hk
         have k0 : a.tmps.getD 78 undef = .pointer (some ⟨B32, 3, none⟩) := k0
         have c3 : w.cell? ⟨B32, 3, none⟩ = some (.int .i64 y.fin.op) := cellOf (hW.1.get 1 rfl) 3 _ rfl
         go_simp
         exact hK _ _ (Below.refl _ _) hW rfl
       refine ⟨fun a w hW hk K hK => ?_, ?_⟩
       · obtain ⟨k0, -⟩ := hk
         have k0 : a.tmps.getD 8 undef = .pointer (some ⟨B32, 0, none⟩) := k0
         go_simp
         exact hK _ _ (Below.refl _ _) hW rfl
       refine ⟨fun a w hW hk K hK => ?_, ?_⟩
       · obtain ⟨k0, -⟩ := hk
         have k0 : a.tmps.getD 80 undef = .pointer (some ⟨B32, 3, none⟩) := k0
         go_simp
         exact hK _ _ (Below.refl _ _) hW rfl
       refine ⟨fun a w hW hk K hK => ?_, ?_⟩
       · obtain ⟨k0, -⟩ := hk
         have k0 : a.tmps.getD 81 undef = .pointer (some ⟨B32, 4, none⟩) := k0
         have c4 : w.cell? ⟨B32, 4, none⟩ = some (.int .i64 y.fin.a) := cellOf (hW.1.get 1 rfl) 4 _ rfl
         go_simp
         exact hK _ _ (Below.refl _ _) hW rfl
       refine ⟨fun a w hW hk K hK => ?_, ?_⟩
       · obtain ⟨k0, -⟩ := hk
         have k0 : a.tmps.getD 8 undef = .pointer (some ⟨B32, 0, none⟩) := k0
         go_simp
         exact hK _ _ (Below.refl _ _) hW rfl
       refine ⟨fun a w hW hk K hK => ?_, ?_⟩
       · obtain ⟨k0, -⟩ := hk
         have k0 : a.tmps.getD 83 undef = .pointer (some ⟨B32, 3, none⟩) := k0
         go_simp
         exact hK _ _ (Below.refl _ _) hW rfl
       refine ⟨fun a w hW hk K hK => ?_, ?_⟩
       · obtain ⟨k0, -⟩ := hk
         have k0 : a.tmps.getD 84 undef = .pointer (some ⟨B32, 5, none⟩) := k0
         have c5 : w.cell? ⟨B32, 5, none⟩ = some (.int .i64 y.fin.yes.block) := cellOf (hW.1.get 1 rfl) 5 _ rfl
         have c6 : w.cell? ⟨B32, 6, none⟩ = some (.slice b2.e.pYR y.fin.yes.regs.length b2.e.cYR) := cellOf (hW.1.get 1 rfl) 6 _ rfl
         have c7 : w.cell? ⟨B32, 7, none⟩ = some (.slice b2.e.pYA y.fin.yes.args.length b2.e.cYA) := cellOf (hW.1.get 1 rfl) 7 _ rfl
         go_simp
         exact hK _ _ (Below.refl _ _) hW rfl
       refine ⟨fun a w hW hk K hK => ?_, ?_⟩
       · obtain ⟨k0, -⟩ := hk
         have k0 : a.tmps.getD 85 undef = .agg #[.int .i64 y.fin.yes.block, .slice b2.e.pYR y.fin.yes.regs.length b2.e.cYR, .slice b2.e.pYA y.fin.yes.args.length b2.e.cYA] := k0
         go_simp
         refine (rOwnTo_any _ _ _ _ _ w (In2.out.fin.yes.below hW.1.bel) (by have := hs2.out.2.2.1.1.1; omega) (by have := hs2.out.2.2.1.1.2; omega)).mono ?_
         rintro e w9 ⟨p9, c9, p8, c8, rfl, h9, hb⟩
         exact hK _ _ hb ⟨hW.1.below hb, Below.andThen hW.2 hb⟩ ⟨p9, c9, p8, c8, rfl, h9.mono (fun k hk _ => Nat.le_trans hW.2.size hk)⟩
       refine ⟨fun a w hW hk K hK => ?_, ?_⟩
       · obtain ⟨k0, -⟩ := hk
         have k0 : a.tmps.getD 8 undef = .pointer (some ⟨B32, 0, none⟩) := k0
         go_simp
         exact hK _ _ (Below.refl _ _) hW rfl
       refine ⟨fun a w hW hk K hK => ?_, ?_⟩
       · obtain ⟨k0, -⟩ := hk
         have k0 : a.tmps.getD 87 undef = .pointer (some ⟨B32, 3, none⟩) := k0
         go_simp
         exact hK _ _ (Below.refl _ _) hW rfl
       refine ⟨fun a w hW hk K hK => ?_, ?_⟩
       · obtain ⟨k0, -⟩ := hk
         have k0 : a.tmps.getD 88 undef = .pointer (some ⟨B32, 8, none⟩) := k0
         have c8 : w.cell? ⟨B32, 8, none⟩ = some (.int .i64 y.fin.no.block) := cellOf (hW.1.get 1 rfl) 8 _ rfl
         have c9 : w.cell? ⟨B32, 9, none⟩ = some (.slice b2.e.pNR y.fin.no.regs.length b2.e.cNR) := cellOf (hW.1.get 1 rfl) 9 _ rfl
         have c10 : w.cell? ⟨B32, 10, none⟩ = some (.slice b2.e.pNA y.fin.no.args.length b2.e.cNA) := cellOf (hW.1.get 1 rfl) 10 _ rfl
         go_simp
         exact hK _ _ (Below.refl _ _) hW rfl
       refine ⟨fun a w hW hk K hK => ?_, ?_⟩
       · obtain ⟨k0, -⟩ := hk
         have k0 : a.tmps.getD 89 undef = .agg #[.int .i64 y.fin.no.block, .slice b2.e.pNR y.fin.no.regs.length b2.e.cNR, .slice b2.e.pNA y.fin.no.args.length b2.e.cNA] := k0
         go_simp
         refine (rOwnTo_any _ _ _ _ _ w (In2.out.fin.no.below hW.1.bel) (by have := hs2.out.2.2.1.2.1.1; omega) (by have := hs2.out.2.2.1.2.1.2; omega)).mono ?_
         rintro e w9 ⟨p9, c9, p8, c8, rfl, h9, hb⟩
         exact hK _ _ hb ⟨hW.1.below hb, Below.andThen hW.2 hb⟩ ⟨p9, c9, p8, c8, rfl, h9.mono (fun k hk _ => Nat.le_trans hW.2.size hk)⟩
       refine ⟨fun a w hW hk K hK => ?_, ?_⟩
       · obtain ⟨k0, -⟩ := hk
         have k0 : a.tmps.getD 8 undef = .pointer (some ⟨B32, 0, none⟩) := k0
         go_simp
         exact hK _ _ (Below.refl _ _) hW rfl
       refine ⟨fun a w hW hk K hK => ?_, ?_⟩
       · obtain ⟨k0, -⟩ := hk
         have k0 : a.tmps.getD 91 undef = .pointer (some ⟨B32, 3, none⟩) := k0
         go_simp
         exact hK _ _ (Below.refl _ _) hW rfl
       refine ⟨fun a w hW hk K hK => ?_, ?_⟩
       · obtain ⟨k0, -⟩ := hk
         have k0 : a.tmps.getD 92 undef = .pointer (some ⟨B32, 11, none⟩) := k0
         have c11 : w.cell? ⟨B32, 11, none⟩ = some (.slice b2.e.pA y.fin.args.length b2.e.cA) := cellOf (hW.1.get 1 rfl) 11 _ rfl
         go_simp
         exact hK _ _ (Below.refl _ _) hW rfl
       refine ⟨fun a w hW hk K hK => ?_, ?_⟩
       · obtain ⟨k0, -⟩ := hk
         have k0 : a.tmps.getD 93 undef = .slice b2.e.pA y.fin.args.length b2.e.cA := k0
         go_simp
         refine (rOwnInts_any _ _ _ w (Lay.below In2.out.fin.args hW.1.bel) (by have := hs2.out.2.2.1.2.2; omega)).mono ?_
         rintro e w9 ⟨p9, c9, rfl, h9, hb⟩
         exact hK _ _ hb ⟨hW.1.below hb, Below.andThen hW.2 hb⟩ ⟨p9, c9, rfl, Lay.mono h9 (fun k hk _ => Nat.le_trans hW.2.size hk)⟩
       refine ⟨fun a w hW hk K hK => ?_, ?_⟩
       · obtain ⟨k0, k1, k2, k3, k4, -⟩ := hk
         have k0 : a.tmps[79]?.getD undef = .int .i64 y.fin.op := by rw [← Array.getD_eq_getD_getElem?]; exact k0
         have k1 : a.tmps[82]?.getD undef = .int .i64 y.fin.a := by rw [← Array.getD_eq_getD_getElem?]; exact k1
         obtain ⟨r86, rc86, a86x, ac86, k2, hT86⟩ := k2
         have k2 : a.tmps[86]?.getD undef = .agg #[.int .i64 y.fin.yes.block, .slice r86 y.fin.yes.regs.length rc86, .slice a86x y.fin.yes.args.length ac86] := by rw [← Array.getD_eq_getD_getElem?]; exact k2
         obtain ⟨r90, rc90, a90x, ac90, k3, hT90⟩ := k3
         have k3 : a.tmps[90]?.getD undef = .agg #[.int .i64 y.fin.no.block, .slice r90 y.fin.no.regs.length rc90, .slice a90x y.fin.no.args.length ac90] := by rw [← Array.getD_eq_getD_getElem?]; exact k3
         obtain ⟨p94, c94, k4, hN94⟩ := k4
         have k4 : a.tmps[94]?.getD undef = .slice p94 y.fin.args.length c94 := by rw [← Array.getD_eq_getD_getElem?]; exact k4
         go_simp
         exact hK _ _ (Below.refl _ _) hW ⟨⟨r86, rc86, a86x, ac86, r90, rc90, a90x, ac90, p94, c94⟩, rfl, ⟨hT86, hT90, hN94, In2.out.fin.bnd⟩⟩
       refine ⟨fun a w hW hk K hK => ?_, ?_⟩
       · obtain ⟨k0, -⟩ := hk
         have k0 : a.tmps.getD 9 undef = .pointer (some ⟨BD9, 0, none⟩) := k0
         go_simp
         exact hK _ _ (Below.refl _ _) hW rfl
       trivial
      case hend =>
       intro ops a65 w65 hWD hE hFD
       obtain ⟨e95, hd95, hE95⟩ := hE 95 rfl
       replace hd95 : a65.tmps.getD 95 undef = .agg #[.int .i64 y.fin.op, .int .i64 y.fin.a, .int .i64 y.fin.yes.block, .slice e95.pYR y.fin.yes.regs.length e95.cYR, .slice e95.pYA y.fin.yes.args.length e95.cYA, .int .i64 y.fin.no.block, .slice e95.pNR y.fin.no.regs.length e95.cNR, .slice e95.pNA y.fin.no.args.length e95.cNA, .slice e95.pA y.fin.args.length e95.cA] := hd95
       have hd96 : a65.tmps.getD 96 undef = .pointer (some ⟨BD9, 3, none⟩) := hE 96 rfl
       have hF65 : Fr 110 a65 [(96, .pointer (some ⟨BD9, 3, none⟩)), (95, .agg #[.int .i64 y.fin.op, .int .i64 y.fin.a, .int .i64 y.fin.yes.block, .slice e95.pYR y.fin.yes.regs.length e95.cYR, .slice e95.pYA y.fin.yes.args.length e95.cYA, .int .i64 y.fin.no.block, .slice e95.pNR y.fin.no.regs.length e95.cNR, .slice e95.pNA y.fin.no.args.length e95.cNA, .slice e95.pA y.fin.args.length e95.cA]), (0, .agg #[.slice p m.length c]), (1, .pointer (some ⟨B2, 0, none⟩)), (2, .pointer (some ⟨B3, 0, none⟩)), (3, .pointer (some ⟨B6, 0, none⟩)), (4, .int .i64 (q1 : Int)), (5, .pointer (some ⟨B17, 0, none⟩)), (6, .pointer (some ⟨BD6, 0, none⟩)), (7, .int .i64 (q2 : Int)), (8, .pointer (some ⟨B32, 0, none⟩)), (9, .pointer (some ⟨BD9, 0, none⟩)), (10, .int .i64 (q3 : Int))] := ((hFD.cons hd95).cons hd96)
       clear hd95 hd96
       have hW65 : Wd w26 w65 [(BD9, #[.int .i64 y.regs, .slice p49 y.params.length c49, .slice pL3 y.code.length cL3, .int .i64 0, .int .i64 0, .int .i64 0, .slice none 0 0, .slice none 0 0, .int .i64 0, .slice none 0 0, .slice none 0 0, .slice none 0 0], 77), (B32, #[.int .i64 y.regs, .slice b2.pP y.params.length b2.cP, .slice b2.pC y.code.length b2.cC, .int .i64 y.fin.op, .int .i64 y.fin.a, .int .i64 y.fin.yes.block, .slice b2.e.pYR y.fin.yes.regs.length b2.e.cYR, .slice b2.e.pYA y.fin.yes.args.length b2.e.cYA, .int .i64 y.fin.no.block, .slice b2.e.pNR y.fin.no.regs.length b2.e.cNR, .slice b2.e.pNA y.fin.no.args.length b2.e.cNA, .slice b2.e.pA y.fin.args.length b2.e.cA], 77)] := hWD.1
       have hsa2 : w26.heap.size ≤ w41.heap.size := hWo3.bel.size
       have hmBD9 : BD9 < w41.heap.size := (hWo3.get 0 rfl).lt
       have hmB32 : B32 < w41.heap.size := (hWo3.get 1 rfl).lt
       replace hN49 := Lay.below hN49 hWD.2
       replace hL3 := Lay.below hL3 hWD.2
       clear hFD hWD hE hF64 h44
       clear hWo3
       refine St.go hF65 ?_; clear hF65 a65
       refine sTk 0 hW65 rfl rfl infEnd rfl rfl rfl ?_
       intro w66 hKp hW66
       replace hN49 := Lay.keepNe hN49 hKp (fun k hk => hk.2)
       replace hL3 := Lay.keepNe hL3 hKp (fun k hk => hk.2)
       replace hE95 := EIn.keep1 hE95 hKp hmBD9
       clear hKp hW65
       refine St.nil fun a67 h67 => ?_
       refine hK63 _ _ ?_
       refine rg h67 fun ops => ?_; clear h67 a67
       refine sfFunc3 trivial rfl rfl ?_
       refine scBlocks (bel_cell hW66.bel (cellOf hkBD6.out 3 _ rfl)) trivial rfl rfl ?_
       refine sS 0 12 Try.underlying77 rfl infBlock hW66 trivial rfl rfl rfl rfl ?_
       intro a68 h68
       refine fr_row (t := 100) #[.int .i64 y.regs, .slice p49 y.params.length c49, .slice pL3 y.code.length cL3, .int .i64 y.fin.op, .int .i64 y.fin.a, .int .i64 y.fin.yes.block, .slice e95.pYR y.fin.yes.regs.length e95.cYR, .slice e95.pYA y.fin.yes.args.length e95.cYA, .int .i64 y.fin.no.block, .slice e95.pNR y.fin.no.regs.length e95.cNR, .slice e95.pNA y.fin.no.args.length e95.cNA, .slice e95.pA y.fin.args.length e95.cA] 77 1 h68 hW66 rfl rfl rfl (fun K hK => ?_) ?_
       ·have k0 : a68.tmps[99]?.getD undef = .agg #[.int .i64 y.regs, .slice p49 y.params.length c49, .slice pL3 y.code.length cL3, .int .i64 y.fin.op, .int .i64 y.fin.a, .int .i64 y.fin.yes.block, .slice e95.pYR y.fin.yes.regs.length e95.cYR, .slice e95.pYA y.fin.yes.args.length e95.cYA, .int .i64 y.fin.no.block, .slice e95.pNR y.fin.no.regs.length e95.cNR, .slice e95.pNA y.fin.no.args.length e95.cNA, .slice e95.pA y.fin.args.length e95.cA] := h68.sl2 99 _ rfl
        go_simp
        exact hK
       clear h68 hW66; intro a69 w70 B70 hW70 hN hF69; replace hN49 := Lay.below hN49 hN.bel; replace hL3 := Lay.below hL3 hN.bel; replace hE95 := EIn.below hE95 hN.bel; clear hN
       refine St.go hF69 ?_; clear hF69 a69
       have hI9 : (blockL n).In w70 (From w26.heap.size) y [.int .i64 y.regs, .slice p49 y.params.length c49, .slice pL3 y.code.length cL3, .int .i64 y.fin.op, .int .i64 y.fin.a, .int .i64 y.fin.yes.block, .slice e95.pYR y.fin.yes.regs.length e95.cYR, .slice e95.pYA y.fin.yes.args.length e95.cYA, .int .i64 y.fin.no.block, .slice e95.pNR y.fin.no.regs.length e95.cNR, .slice e95.pNA y.fin.no.args.length e95.cNA, .slice e95.pA y.fin.args.length e95.cA] := block_shut (x := y) (b := ⟨p49, c49, pL3, cL3, e95⟩) ⟨Lay.mono hN49 (fun k hk _ => hk.1), Lay.mono hL3 (fun k hk _ => hk.1), EIn.mono hE95 (fun k hk _ => Nat.le_trans hsa2 hk), In2.out.bnd⟩
       have hAx := hA2.out.below hW70.bel
       have hzx : w22.heap.size ≤ w70.heap.size := Nat.le_trans hz2 hW70.bel.size
       have hKx := KeepBut.below hK2.out hW70.bel hz2
       refine sApp underBlocks hiB hzB0 hzB1 hzB2 rfl (by decide) rfl (hWo2.below hW70.bel) hlo2 (lts2 hlBD6 hlB17) hAx hzx (hW70.get 0 rfl) (Lay.mono hI9 (fun k hk _ => ⟨Nat.le_trans hz2 hk, hA2.out.own_lt hk⟩)) rfl (by rw [List.length_take]; omega) (by decide) rfl rfl rfl ?_
       intro g71 cp71 w71 hA9 hgr hW71
       have hK9 := hKx.grown hgr hzx (fun k hk => (hAx.lo_le hk).1)
       clear hAx hzx hKx hgr hI9 hW70
       refine sfFunc3 trivial rfl rfl ?_
       refine s1k 0 inf1Blocks hW71 rfl rfl rfl rfl rfl rfl ?_
       intro w72 hKp hW72
       replace hA9 := ARow.keep1 hA9 hKp hlBD6
       replace hK9 := KeepBut.keep1t hK9 hKp hlBD6
       clear hKp hW71
       refine St.nil fun a73 h73 => ?_
       refine hK30 _ _ ?_
       refine rg h73 fun ops => ?_; clear h73 a73
       refine sm trivial rfl rfl ?_
       refine sad (by omega) trivial rfl rfl rfl ?_
       refine sa trivial rfl rfl ?_
       refine St.nil fun a74 h74 => ?_
       have hA8 := hA9.next hx2.out
       exact hKL2 _ _ (x.blocks.length - (q2 + 1)) (by omega) ⟨q2 + 1, by omega, rfl, _, _, hA8, hK9, Nat.le_of_lt (Nat.lt_of_le_of_lt (hA8.lo_le (g := g71) rfl).1 (hA8.lo_le (g := g71) rfl).2), (h74.keep (h74.keep (h74.keep (h74.keep (h74.keep (h74.keep (h74.keep (h74.keep h74.nil (t := 7) rfl) (t := 6) rfl) (t := 5) rfl) (t := 4) rfl) (t := 3) rfl) (t := 2) rfl) (t := 1) rfl) (t := 0) rfl), hW72⟩
    have hge2 : q2 = x.blocks.length := by have := of_decide_eq_false hb; omega
    clear hb hW26
    have hAx := hA2.out.full hge2
    obtain ⟨pL2, cL2, hv9⟩ := hAx.form
    subst hv9
    have hL2 := hAx.lay
    clear hAx
    replace hL2 := Lay.mono hL2 (O' := fun k => w11.heap.size ≤ k ∧ k ≠ BD6) (fun k hk _ => ⟨by have h9 : w22.heap.size ≤ k := hk; omega, by have h9 : w22.heap.size ≤ k := hk; omega⟩)
    replace hN28 := Lay.keepBut hN28 hK2.out (O' := fun k => w11.heap.size ≤ k ∧ k ≠ BD6) (fun k hk _ => ⟨hk.2.1, hk.2.2⟩) (fun k hk _ => ⟨Nat.le_trans hsd2 hk.1, hk.2.2⟩)
    replace hN31 := Lay.keepBut hN31 hK2.out (O' := fun k => w11.heap.size ≤ k ∧ k ≠ BD6) (fun k hk _ => ⟨hk.2.1, hk.2.2⟩) (fun k hk _ => ⟨Nat.le_trans hsd2 hk.1, hk.2.2⟩)
    refine wp_exit ?_
    refine hK23 _ _ ?_
    refine rg h29 fun ops => ?_; clear h29 a29
    refine sfModule0 trivial rfl rfl ?_
    refine scFuncs (bel_cell hWo2.bel (cellOf hkB6.out 0 _ rfl)) trivial rfl rfl ?_
    refine sS 0 4 Try.underlying50 rfl infFunc hWo2 trivial rfl rfl rfl rfl ?_
    intro a75 h75
    refine fr_row (t := 106) #[.int .i64 x.regs, .slice p28 x.params.length c28, .slice p31 x.results.length c31, .slice pL2 x.blocks.length cL2] 50 1 h75 hWo2 rfl rfl rfl (fun K hK => ?_) ?_
    ·have k0 : a75.tmps[105]?.getD undef = .agg #[.int .i64 x.regs, .slice p28 x.params.length c28, .slice p31 x.results.length c31, .slice pL2 x.blocks.length cL2] := h75.sl2 105 _ rfl
     go_simp
     exact hK
    clear h75 hWo2; intro a76 w77 B77 hW77 hN hF76; replace hN28 := Lay.below hN28 hN.bel; replace hN31 := Lay.below hN31 hN.bel; replace hL2 := Lay.below hL2 hN.bel; clear hN
    refine St.go hF76 ?_; clear hF76 a76
    have hI9 : (funcL n).In w77 (From w11.heap.size) x [.int .i64 x.regs, .slice p28 x.params.length c28, .slice p31 x.results.length c31, .slice pL2 x.blocks.length cL2] := func_shut (x := x) (f := ⟨p28, c28, p31, c31, pL2, cL2⟩) ⟨Lay.mono hN28 (fun k hk _ => hk.1), Lay.mono hN31 (fun k hk _ => hk.1), Lay.mono hL2 (fun k hk _ => hk.1), In1.out.bnd⟩
    have hAx := hA1.out.below hW77.bel
    have hzx : w6.heap.size ≤ w77.heap.size := Nat.le_trans hz1 hW77.bel.size
    have hKx := KeepBut.below hK1.out hW77.bel hz1
    refine sApp underFuncs hiF hzF0 hzF1 hzF2 rfl (by decide) rfl (hWo1.below hW77.bel) hlo1 (lts3 hlB6 hlB3 hlB2) hAx hzx (hW77.get 0 rfl) (Lay.mono hI9 (fun k hk _ => ⟨Nat.le_trans hz1 hk, hA1.out.own_lt hk⟩)) rfl (by rw [List.length_take]; omega) (by decide) rfl rfl rfl ?_
    intro g78 cp78 w78 hA9 hgr hW78
    have hK9 := hKx.grown hgr hzx (fun k hk => (hAx.lo_le hk).1)
    clear hAx hzx hKx hgr hI9 hW77
    refine sfModule0 trivial rfl rfl ?_
    refine s1k 0 inf1Funcs hW78 rfl rfl rfl rfl rfl rfl ?_
    intro w79 hKp hW79
    replace hA9 := ARow.keep1 hA9 hKp hlB6
    replace hK9 := KeepBut.keep1t hK9 hKp hlB6
    clear hKp hW78
    refine St.nil fun a80 h80 => ?_
    refine hK15 _ _ ?_
    refine rg h80 fun ops => ?_; clear h80 a80
    refine sm trivial rfl rfl ?_
    refine sad (by omega) trivial rfl rfl rfl ?_
    refine sa trivial rfl rfl ?_
    refine St.nil fun a81 h81 => ?_
    have hA8 := hA9.next hx1.out
    exact hKL1 _ _ (m.length - (q1 + 1)) (by omega) ⟨q1 + 1, by omega, rfl, _, _, hA8, hK9, Nat.le_of_lt (Nat.lt_of_le_of_lt (hA8.lo_le (g := g78) rfl).1 (hA8.lo_le (g := g78) rfl).2), (h81.keep (h81.keep (h81.keep (h81.keep (h81.keep h81.nil (t := 4) rfl) (t := 3) rfl) (t := 2) rfl) (t := 1) rfl) (t := 0) rfl), hW79⟩
  have hge1 : q1 = m.length := by have := of_decide_eq_false hb; omega
  clear hb hW11
  have hAx := hA1.out.full hge1
  obtain ⟨pL1, cL1, hv9⟩ := hAx.form
  subst hv9
  have hL1 := hAx.lay
  clear hAx
  refine wp_exit ?_
  refine hK8 _ _ ?_
  refine wp_seq_k fun K82 hK82 => ?_
  refine rg h14 fun ops => ?_; clear h14 a14
  refine sS 0 1 Try.underlying39 rfl infModule hWo1 trivial rfl rfl rfl rfl ?_
  refine sTk 1 hWo1 rfl rfl infModule rfl rfl rfl ?_
  intro w83 hKp hW83
  replace hL1 := Lay.keep1 hL1 hKp hlB3
  clear hKp hWo1
  refine St.nil fun a84 h84 => ?_
  refine hK82 _ _ ?_
  refine wp_ret ?_; with_reducible repeat first | refine of_then_ret ?_ | refine of_block_ret ?_
  exact ret_box 1 h84 hW83 rfl rfl rfl Try.underlying39 rfl infModule ⟨_, rfl, ⟨pL1, cL1, rfl, Lay.mono hL1 (fun k hk _ => Nat.le_trans hlo1 hk)⟩, hW83.bel⟩
end Go.Proofs.Ytmnmnokkojcodab
/-
  sameBlock (the reference).
-/
namespace Go.Proofs.Ytmnmnokkojcodab
open Go.ChangeShapes Go.WideShapes Go.ChangeAt Go.RowKit
set_option linter.unusedVariables false
set_option linter.unusedSimpArgs false

set_option maxHeartbeats 4000000 in
set_option maxRecDepth 100000 in
theorem sameBlock_any {n : Nat} {x y : MBlock n} {b d : BP} {w : World} (hx0 : BIn w All x b) (hy0 : BIn w All y d) (hs0 : x.small) :
    Rd Try.prog 52 #[.agg #[.int .i64 x.regs, .slice b.pP x.params.length b.cP, .slice b.pC x.code.length b.cC, .int .i64 x.fin.op, .int .i64 x.fin.a, .int .i64 x.fin.yes.block, .slice b.e.pYR x.fin.yes.regs.length b.e.cYR, .slice b.e.pYA x.fin.yes.args.length b.e.cYA, .int .i64 x.fin.no.block, .slice b.e.pNR x.fin.no.regs.length b.e.cNR, .slice b.e.pNA x.fin.no.args.length b.e.cNA, .slice b.e.pA x.fin.args.length b.e.cA], .agg #[.int .i64 y.regs, .slice d.pP y.params.length d.cP, .slice d.pC y.code.length d.cC, .int .i64 y.fin.op, .int .i64 y.fin.a, .int .i64 y.fin.yes.block, .slice d.e.pYR y.fin.yes.regs.length d.e.cYR, .slice d.e.pYA y.fin.yes.args.length d.e.cYA, .int .i64 y.fin.no.block, .slice d.e.pNR y.fin.no.regs.length d.e.cNR, .slice d.e.pNA y.fin.no.args.length d.e.cNA, .slice d.e.pA y.fin.args.length d.e.cA]] w (.bool (bdec (x = y))) := by
  have hcl := hs0.1
  have hx : Hid _ := hx0
  have hy : Hid _ := hy0
  have hs : Hid _ := hs0
  clear hx0 hy0 hs0
  refine fr_enter (n := 90) Try.func52 rfl rfl rfl ?_
  intro a hF
  have hW := Wd.start w
  replace hF : Fr 90 a [(0, .agg #[.int .i64 x.regs, .slice b.pP x.params.length b.cP, .slice b.pC x.code.length b.cC, .int .i64 x.fin.op, .int .i64 x.fin.a, .int .i64 x.fin.yes.block, .slice b.e.pYR x.fin.yes.regs.length b.e.cYR, .slice b.e.pYA x.fin.yes.args.length b.e.cYA, .int .i64 x.fin.no.block, .slice b.e.pNR x.fin.no.regs.length b.e.cNR, .slice b.e.pNA x.fin.no.args.length b.e.cNA, .slice b.e.pA x.fin.args.length b.e.cA]), (1, .agg #[.int .i64 y.regs, .slice d.pP y.params.length d.cP, .slice d.pC y.code.length d.cC, .int .i64 y.fin.op, .int .i64 y.fin.a, .int .i64 y.fin.yes.block, .slice d.e.pYR y.fin.yes.regs.length d.e.cYR, .slice d.e.pYA y.fin.yes.args.length d.e.cYA, .int .i64 y.fin.no.block, .slice d.e.pNR y.fin.no.regs.length d.e.cNR, .slice d.e.pNA y.fin.no.args.length d.e.cNA, .slice d.e.pA y.fin.args.length d.e.cA])] := hF
  refine wp_seq_k fun K1 hK1 => ?_
  refine rg hF fun ops => ?_; clear hF a
  refine sB hW trivial rfl rfl ?_
  clear hW; intro w2 B2 hW2 hN; clear hN
  refine sB hW2 trivial rfl rfl ?_
  clear hW2; intro w3 B3 hW3 hN; clear hN
  refine sa trivial rfl rfl ?_
  refine St.nil fun a4 h4 => ?_
  refine hK1 _ _ ?_
  refine wp_seq_k fun K5 hK5 => ?_
  refine wp_seq_k fun K6 hK6 => ?_
  refine fr_region ?_
  intro ops hops
  have hg5 : (ops[5]?).bind (fun o : Oper => o.dst) = some 11 := hops 5
  have hg13 : (ops[13]?).bind (fun o : Oper => o.dst) = some 19 := hops 13
  clear hops
  refine St.go h4 ?_; clear h4 a4
  refine sfBlock0 trivial rfl rfl ?_
  refine sbInt 1 hW3 trivial rfl rfl rfl rfl ?_
  refine sfBlock0 trivial rfl rfl ?_
  refine sbInt 0 hW3 trivial rfl rfl rfl rfl ?_
  refine sne trivial rfl rfl rfl ?_
  refine sm trivial rfl rfl ?_
  intro a7 h7
  rcases Bool.eq_false_or_eq_true (x.regs != y.regs) with hb | hb
  ·rw [hb] at h7
   have h9 : ¬ x.regs = y.regs := bne_iff_ne.1 hb
   have hc8 : ¬ x.regs = y.regs := h9
   clear h9
   clear hb
   refine St.go h7 ?_; clear h7 a7
   refine so hg5 rfl rfl rfl rfl ?_
   refine so hg5 rfl rfl rfl rfl ?_
   refine so hg5 rfl rfl rfl rfl ?_
   refine so hg5 rfl rfl rfl rfl ?_
   refine so hg5 rfl rfl rfl rfl ?_
   refine so hg5 rfl rfl rfl rfl ?_
   refine sp trivial rfl rfl rfl ?_
   refine sm trivial rfl rfl ?_
   refine so hg13 rfl rfl rfl rfl ?_
   refine so hg13 rfl rfl rfl rfl ?_
   refine so hg13 rfl rfl rfl rfl ?_
   refine so hg13 rfl rfl rfl rfl ?_
   refine so hg13 rfl rfl rfl rfl ?_
   refine so hg13 rfl rfl rfl rfl ?_
   refine so hg13 rfl rfl rfl rfl ?_
   refine sp trivial rfl rfl rfl ?_
   refine St.nil fun a9 h9 => ?_
   refine hK6 _ _ ?_
   refine fr_true (t := 27) h9 rfl ?_
   refine wp_seq_k fun K10 hK10 => ?_
   refine rg h9 fun ops => ?_; clear h9 a9
   refine sa trivial rfl rfl ?_
   refine St.nil fun a11 h11 => ?_
   refine hK10 _ _ ?_
   refine wp_ret ?_; with_reducible repeat first | refine of_then_ret ?_ | refine of_block_ret ?_
   have R : ¬ x = y := fun e => hc8 (by rw [e])
   exact ret_tmp (t := 4) h11 rfl rfl ⟨by rw [bdec_false R], hW3.bel⟩
  rw [hb] at h7
  have h9 : x.regs = y.regs := bne_eq_false_iff_eq.1 hb
  have hc12 : Hid (x.regs = y.regs) := h9
  clear h9
  clear hb
  refine St.go h7 ?_; clear h7 a7
  refine sfBlock1 ⟨_, hg5, rfl, rfl⟩ rfl rfl ?_
  refine sbTypes 1 hW3 ⟨_, hg5, rfl, rfl⟩ rfl rfl rfl rfl ?_
  refine sfBlock1 ⟨_, hg5, rfl, rfl⟩ rfl rfl ?_
  refine sbTypes 0 hW3 ⟨_, hg5, rfl, rfl⟩ rfl rfl rfl rfl ?_
  refine sc_2 cf51 hW3 (sameTypes_any (Lay.below hx.out.params hW3.bel) (Lay.below hy.out.params hW3.bel) hs.out.2.1) ⟨_, hg5, rfl, rfl⟩ rfl rfl rfl ?_
  clear hW3; intro w13 hW13
  refine sn ⟨_, hg5, rfl, rfl⟩ rfl rfl ?_
  refine spf trivial rfl rfl rfl ?_
  refine sm trivial rfl rfl ?_
  intro a14 h14
  rcases Bool.eq_false_or_eq_true (!(bdec (x.params = y.params))) with hb | hb
  ·rw [hb] at h14
   have hb : (bdec (x.params = y.params)) = false := by simpa using hb
   have hc15 : ¬ (x.params = y.params) := fun h => by rw [bdec_true h] at hb; cases hb
   clear hb
   refine St.go h14 ?_; clear h14 a14
   refine so hg13 rfl rfl rfl rfl ?_
   refine so hg13 rfl rfl rfl rfl ?_
   refine so hg13 rfl rfl rfl rfl ?_
   refine so hg13 rfl rfl rfl rfl ?_
   refine so hg13 rfl rfl rfl rfl ?_
   refine so hg13 rfl rfl rfl rfl ?_
   refine so hg13 rfl rfl rfl rfl ?_
   refine sp trivial rfl rfl rfl ?_
   refine St.nil fun a16 h16 => ?_
   refine hK6 _ _ ?_
   refine fr_true (t := 27) h16 rfl ?_
   refine wp_seq_k fun K17 hK17 => ?_
   refine rg h16 fun ops => ?_; clear h16 a16
   refine sa trivial rfl rfl ?_
   refine St.nil fun a18 h18 => ?_
   refine hK17 _ _ ?_
   refine wp_ret ?_; with_reducible repeat first | refine of_then_ret ?_ | refine of_block_ret ?_
   have R : ¬ x = y := fun e => hc15 (by rw [e])
   exact ret_tmp (t := 4) h18 rfl rfl ⟨by rw [bdec_false R], hW13.bel⟩
  rw [hb] at h14
  have hb : (bdec (x.params = y.params)) = true := by simpa using hb
  have hc19 : (x.params = y.params) := bdec_iff.1 hb
  clear hb
  refine St.go h14 ?_; clear h14 a14
  refine sfBlock2 ⟨_, hg13, rfl, rfl⟩ rfl rfl ?_
  refine sbInss 1 hW13 ⟨_, hg13, rfl, rfl⟩ rfl rfl rfl rfl ?_
  refine slInss ⟨_, hg13, rfl, rfl⟩ rfl rfl ?_
  refine sfBlock2 ⟨_, hg13, rfl, rfl⟩ rfl rfl ?_
  refine sbInss 0 hW13 ⟨_, hg13, rfl, rfl⟩ rfl rfl rfl rfl ?_
  refine slInss ⟨_, hg13, rfl, rfl⟩ rfl rfl ?_
  refine sne ⟨_, hg13, rfl, rfl⟩ rfl rfl rfl ?_
  refine spf trivial rfl rfl rfl ?_
  refine St.nil fun a20 h20 => ?_
  refine hK6 _ _ ?_
  refine fr_cond (t := 27) h20 rfl (fun hb => ?_) (fun hb => ?_)
  ·have h9 : ¬ x.code.length = y.code.length := by have h8 := bne_iff_ne.1 hb; omega
   have hlen : ¬ x.code.length = y.code.length := h9
   clear h9
   clear hb
   refine wp_seq_k fun K21 hK21 => ?_
   refine rg h20 fun ops => ?_; clear h20 a20
   refine sa trivial rfl rfl ?_
   refine St.nil fun a22 h22 => ?_
   refine hK21 _ _ ?_
   refine wp_ret ?_; with_reducible repeat first | refine of_then_ret ?_ | refine of_block_ret ?_
   have R : ¬ x = y := fun e => hlen (by rw [e])
   exact ret_tmp (t := 4) h22 rfl rfl ⟨by rw [bdec_false R], hW13.bel⟩
  have h9 : x.code.length = y.code.length := by have h8 := bne_eq_false_iff_eq.1 hb; omega
  have hlen : Hid (x.code.length = y.code.length) := h9
  clear h9
  clear hb
  refine wp_skip ?_
  refine hK5 _ _ ?_
  refine wp_seq_k fun K23 hK23 => ?_
  refine wp_seq_k fun K24 hK24 => ?_
  refine rg h20 fun ops => ?_; clear h20 a20
  refine sa trivial rfl rfl ?_
  refine St.nil fun a25 h25 => ?_
  refine hK24 _ _ ?_
  refine wp_block ?_
  refine fr_loop (fun r a w' => ∃ q : Nat, q ≤ x.code.length ∧ r = x.code.length - q ∧ (∀ j, j < q → x.code[j]? = y.code[j]?) ∧ Fr 90 a [(1, .agg #[.int .i64 y.regs, .slice d.pP y.params.length d.cP, .slice d.pC y.code.length d.cC, .int .i64 y.fin.op, .int .i64 y.fin.a, .int .i64 y.fin.yes.block, .slice d.e.pYR y.fin.yes.regs.length d.e.cYR, .slice d.e.pYA y.fin.yes.args.length d.e.cYA, .int .i64 y.fin.no.block, .slice d.e.pNR y.fin.no.regs.length d.e.cNR, .slice d.e.pNA y.fin.no.args.length d.e.cNA, .slice d.e.pA y.fin.args.length d.e.cA]), (0, .agg #[.int .i64 x.regs, .slice b.pP x.params.length b.cP, .slice b.pC x.code.length b.cC, .int .i64 x.fin.op, .int .i64 x.fin.a, .int .i64 x.fin.yes.block, .slice b.e.pYR x.fin.yes.regs.length b.e.cYR, .slice b.e.pYA x.fin.yes.args.length b.e.cYA, .int .i64 x.fin.no.block, .slice b.e.pNR x.fin.no.regs.length b.e.cNR, .slice b.e.pNA x.fin.no.args.length b.e.cNA, .slice b.e.pA x.fin.args.length b.e.cA]), (2, .pointer (some ⟨B2, 0, none⟩)), (3, .pointer (some ⟨B3, 0, none⟩)), (4, .bool false), (5, .int .i64 (q : Int))] ∧ Wd w w' [(B3, #[.int .i64 y.regs, .slice d.pP y.params.length d.cP, .slice d.pC y.code.length d.cC, .int .i64 y.fin.op, .int .i64 y.fin.a, .int .i64 y.fin.yes.block, .slice d.e.pYR y.fin.yes.regs.length d.e.cYR, .slice d.e.pYA y.fin.yes.args.length d.e.cYA, .int .i64 y.fin.no.block, .slice d.e.pNR y.fin.no.regs.length d.e.cNR, .slice d.e.pNA y.fin.no.args.length d.e.cNA, .slice d.e.pA y.fin.args.length d.e.cA], 77), (B2, #[.int .i64 x.regs, .slice b.pP x.params.length b.cP, .slice b.pC x.code.length b.cC, .int .i64 x.fin.op, .int .i64 x.fin.a, .int .i64 x.fin.yes.block, .slice b.e.pYR x.fin.yes.regs.length b.e.cYR, .slice b.e.pYA x.fin.yes.args.length b.e.cYA, .int .i64 x.fin.no.block, .slice b.e.pNR x.fin.no.regs.length b.e.cNR, .slice b.e.pNA x.fin.no.args.length b.e.cNA, .slice b.e.pA x.fin.args.length b.e.cA], 77)]) (x.code.length) ⟨0, Nat.zero_le _, rfl, (fun j hj => by omega), (h25.keep (h25.keep (h25.keep (h25.keep (h25.keep (h25.keep h25.nil (t := 5) rfl) (t := 4) rfl) (t := 3) rfl) (t := 2) rfl) (t := 0) rfl) (t := 1) rfl), hW13⟩ ?_
  clear h25 hW13
  rintro r a26 w26 ⟨q, hq, hr, hall, hF26, hW26⟩ KL hKL
  refine wp_seq_k fun K27 hK27 => ?_
  refine wp_seq_k fun K28 hK28 => ?_
  refine rg hF26 fun ops => ?_; clear hF26 a26
  refine sm trivial rfl rfl ?_
  refine sfBlock2 trivial rfl rfl ?_
  refine sbInss 1 hW26 trivial rfl rfl rfl rfl ?_
  refine slInss trivial rfl rfl ?_
  refine slt trivial rfl rfl rfl ?_
  refine St.nil fun a29 h29 => ?_
  refine hK28 _ _ ?_
  refine fr_cond (t := 32) h29 rfl (fun hb => ?_) (fun hb => ?_)
  ·have hlt1 : q < x.code.length := by have := of_decide_eq_true hb; omega
   have hlt2 : q < y.code.length := by have := hlen.out; omega
   clear hb
   obtain ⟨z, hx1⟩ : ∃ v9, (x.code)[q]? = some v9 := ⟨_, List.getElem?_eq_getElem hlt1⟩
   obtain ⟨g1, o1, i1, hp1, E1, In1⟩ := ins_at hx.out.code hx1
   replace In1 : Hid _ := In1
   replace hp1 : Hid _ := hp1
   replace hx1 : Hid _ := hx1
   replace E1 : Hid _ := E1
   obtain ⟨u, hx2⟩ : ∃ v9, (y.code)[q]? = some v9 := ⟨_, List.getElem?_eq_getElem hlt2⟩
   obtain ⟨g2, o2, i2, hp2, E2, In2⟩ := ins_at hy.out.code hx2
   replace In2 : Hid _ := In2
   replace hp2 : Hid _ := hp2
   replace hx2 : Hid _ := hx2
   replace E2 : Hid _ := E2
   refine wp_skip ?_
   refine hK27 _ _ ?_
   refine wp_seq_k fun K30 hK30 => ?_
   refine wp_block ?_
   refine wp_seq_k fun K31 hK31 => ?_
   have hF32 : Fr 90 a29 [(1, .agg #[.int .i64 y.regs, .slice d.pP y.params.length d.cP, .slice d.pC y.code.length d.cC, .int .i64 y.fin.op, .int .i64 y.fin.a, .int .i64 y.fin.yes.block, .slice d.e.pYR y.fin.yes.regs.length d.e.cYR, .slice d.e.pYA y.fin.yes.args.length d.e.cYA, .int .i64 y.fin.no.block, .slice d.e.pNR y.fin.no.regs.length d.e.cNR, .slice d.e.pNA y.fin.no.args.length d.e.cNA, .slice d.e.pA y.fin.args.length d.e.cA]), (0, .agg #[.int .i64 x.regs, .slice b.pP x.params.length b.cP, .slice b.pC x.code.length b.cC, .int .i64 x.fin.op, .int .i64 x.fin.a, .int .i64 x.fin.yes.block, .slice b.e.pYR x.fin.yes.regs.length b.e.cYR, .slice b.e.pYA x.fin.yes.args.length b.e.cYA, .int .i64 x.fin.no.block, .slice b.e.pNR x.fin.no.regs.length b.e.cNR, .slice b.e.pNA x.fin.no.args.length b.e.cNA, .slice b.e.pA x.fin.args.length b.e.cA]), (2, .pointer (some ⟨B2, 0, none⟩)), (3, .pointer (some ⟨B3, 0, none⟩)), (4, .bool false), (5, .int .i64 (q : Int))] := (h29.keep (h29.keep (h29.keep (h29.keep (h29.keep (h29.keep h29.nil (t := 5) rfl) (t := 4) rfl) (t := 3) rfl) (t := 2) rfl) (t := 0) rfl) (t := 1) rfl)
   have ho2 : a29.tmps.getD 2 undef = .pointer (some ⟨B2, 0, none⟩) := h29.sl 2 _ rfl
   have ho5 : a29.tmps.getD 5 undef = .int .i64 (q : Int) := h29.sl 5 _ rfl
   have ho3 : a29.tmps.getD 3 undef = .pointer (some ⟨B3, 0, none⟩) := h29.sl 3 _ rfl
   refine fr_draw_k 12 ([(2, fun v _ => v = .pointer (some ⟨B2, 0, none⟩)), (5, fun v _ => v = .int .i64 (q : Int)), (3, fun v _ => v = .pointer (some ⟨B3, 0, none⟩)), (35, fun v _ => v = .pointer (some ⟨B2, 2, none⟩)), (36, fun v _ => v = .slice b.pC x.code.length b.cC), (37, fun v _ => v = .int .i64 (q : Int)), (38, fun v _ => v = .pointer (some ⟨g1, o1 + q * 8, none⟩)), (39, fun v _ => v = .agg #[.int .i64 z.op, .int .i64 z.a, .int .i64 z.b, .int .i64 z.c, .int .i64 z.k, .int .i64 z.n, .slice i1.pR z.regs.length i1.cR, .slice i1.pA z.args.length i1.cA]), (40, fun v _ => v = .pointer (some ⟨B3, 2, none⟩)), (41, fun v _ => v = .slice d.pC y.code.length d.cC), (42, fun v _ => v = .int .i64 (q : Int)), (43, fun v _ => v = .pointer (some ⟨g2, o2 + q * 8, none⟩)), (44, fun v _ => v = .agg #[.int .i64 u.op, .int .i64 u.a, .int .i64 u.b, .int .i64 u.c, .int .i64 u.k, .int .i64 u.n, .slice i2.pR u.regs.length i2.cR, .slice i2.pA u.args.length i2.cA]), (45, fun v _ => v = .bool (bdec (z = u))), (46, fun v _ => v = .bool (!(bdec (z = u))))] : PTab) (fun w' => Wd w w' [(B3, #[.int .i64 y.regs, .slice d.pP y.params.length d.cP, .slice d.pC y.code.length d.cC, .int .i64 y.fin.op, .int .i64 y.fin.a, .int .i64 y.fin.yes.block, .slice d.e.pYR y.fin.yes.regs.length d.e.cYR, .slice d.e.pYA y.fin.yes.args.length d.e.cYA, .int .i64 y.fin.no.block, .slice d.e.pNR y.fin.no.regs.length d.e.cNR, .slice d.e.pNA y.fin.no.args.length d.e.cNA, .slice d.e.pA y.fin.args.length d.e.cA], 77), (B2, #[.int .i64 x.regs, .slice b.pP x.params.length b.cP, .slice b.pC x.code.length b.cC, .int .i64 x.fin.op, .int .i64 x.fin.a, .int .i64 x.fin.yes.block, .slice b.e.pYR x.fin.yes.regs.length b.e.cYR, .slice b.e.pYA x.fin.yes.args.length b.e.cYA, .int .i64 x.fin.no.block, .slice b.e.pNR x.fin.no.regs.length b.e.cNR, .slice b.e.pNA x.fin.no.args.length b.e.cNA, .slice b.e.pA x.fin.args.length b.e.cA], 77)] ∧ Below w26.heap.size w26 w') (fun w w' => Below w.heap.size w w') (outs := [2, 5, 3]) (gs := []) (bs := [true, true, true, true, true, true, true, true, true, true, true, true]) (by kernel_rfl) hF32 rfl (by kernel_rfl) (by kernel_rfl) ?hR ?hG ⟨hW26.drewN 1, drewN_below (m := 1) (Below.refl _ _)⟩ ⟨ho2, ho5, ho3, trivial⟩ ?hA ?hend
   case hR => exact ⟨fun _ _ _ _ h => h, fun _ _ _ _ h => h, fun _ _ _ _ h => h, fun _ _ _ _ h => h, fun _ _ _ _ h => h, fun _ _ _ _ h => h, fun _ _ _ _ h => h, fun _ _ _ _ h => h, fun _ _ _ _ h => h, fun _ _ _ _ h => h, fun _ _ _ _ h => h, fun _ _ _ _ h => h, fun _ _ _ _ h => h, fun _ _ _ _ h => h, fun _ _ _ _ h => h, trivial⟩
   case hG => exact trivial
   case hA =>
    refine ⟨fun a w hW hk K hK => ?_, ?_⟩
    · obtain ⟨k0, -⟩ := hk
      have k0 : a.tmps.getD 2 undef = .pointer (some ⟨B2, 0, none⟩) := k0
      go_simp
      exact hK _ _ (Below.refl _ _) hW rfl
    refine ⟨fun a w hW hk K hK => ?_, ?_⟩
    · obtain ⟨k0, -⟩ := hk
      have k0 : a.tmps.getD 35 undef = .pointer (some ⟨B2, 2, none⟩) := k0
      have c2 : w.cell? ⟨B2, 2, none⟩ = some (.slice b.pC x.code.length b.cC) := cellOf (hW.1.get 1 rfl) 2 _ rfl
      go_simp
      exact hK _ _ (Below.refl _ _) hW rfl
    refine ⟨fun a w hW hk K hK => ?_, ?_⟩
    · obtain ⟨k0, -⟩ := hk
      have k0 : a.tmps.getD 5 undef = .int .i64 (q : Int) := k0
      go_simp
      exact hK _ _ (Below.refl _ _) hW rfl
    refine ⟨fun a w hW hk K hK => ?_, ?_⟩
    · obtain ⟨k0, k1, -⟩ := hk
      have k0 : a.tmps.getD 36 undef = .slice b.pC x.code.length b.cC := k0
      have k1 : a.tmps.getD 37 undef = .int .i64 (q : Int) := k1
      have hpq := hp1.out
      have hk0 : (0 : Int) ≤ q := by omega
      have hk1 : (q : Int) < (x.code.length : Int) := by omega
      go_simp
      exact hK _ _ (Below.refl _ _) hW rfl
    refine ⟨fun a w hW hk K hK => ?_, ?_⟩
    · obtain ⟨k0, -⟩ := hk
      have k0 : a.tmps.getD 38 undef = .pointer (some ⟨g1, o1 + q * 8, none⟩) := k0
      have d0 : w.cell? ⟨g1, o1 + q * 8, none⟩ = some (.int .i64 z.op) := bel_cell hW.1.bel (E1.out 0 _ rfl)
      have d1 : w.cell? ⟨g1, o1 + q * 8 + 1, none⟩ = some (.int .i64 z.a) := bel_cell hW.1.bel (E1.out 1 _ rfl)
      have d2 : w.cell? ⟨g1, o1 + q * 8 + 2, none⟩ = some (.int .i64 z.b) := bel_cell hW.1.bel (E1.out 2 _ rfl)
      have d3 : w.cell? ⟨g1, o1 + q * 8 + 3, none⟩ = some (.int .i64 z.c) := bel_cell hW.1.bel (E1.out 3 _ rfl)
      have d4 : w.cell? ⟨g1, o1 + q * 8 + 4, none⟩ = some (.int .i64 z.k) := bel_cell hW.1.bel (E1.out 4 _ rfl)
      have d5 : w.cell? ⟨g1, o1 + q * 8 + 5, none⟩ = some (.int .i64 z.n) := bel_cell hW.1.bel (E1.out 5 _ rfl)
      have d6 : w.cell? ⟨g1, o1 + q * 8 + 6, none⟩ = some (.slice i1.pR z.regs.length i1.cR) := bel_cell hW.1.bel (E1.out 6 _ rfl)
      have d7 : w.cell? ⟨g1, o1 + q * 8 + 7, none⟩ = some (.slice i1.pA z.args.length i1.cA) := bel_cell hW.1.bel (E1.out 7 _ rfl)
      go_simp
      exact hK _ _ (Below.refl _ _) hW rfl
    refine ⟨fun a w hW hk K hK => ?_, ?_⟩
    · obtain ⟨k0, -⟩ := hk
      have k0 : a.tmps.getD 3 undef = .pointer (some ⟨B3, 0, none⟩) := k0
      go_simp
      exact hK _ _ (Below.refl _ _) hW rfl
    refine ⟨fun a w hW hk K hK => ?_, ?_⟩
    · obtain ⟨k0, -⟩ := hk
      have k0 : a.tmps.getD 40 undef = .pointer (some ⟨B3, 2, none⟩) := k0
      have c2 : w.cell? ⟨B3, 2, none⟩ = some (.slice d.pC y.code.length d.cC) := cellOf (hW.1.get 0 rfl) 2 _ rfl
      go_simp
      exact hK _ _ (Below.refl _ _) hW rfl
    refine ⟨fun a w hW hk K hK => ?_, ?_⟩
    · obtain ⟨k0, -⟩ := hk
      have k0 : a.tmps.getD 5 undef = .int .i64 (q : Int) := k0
      go_simp
      exact hK _ _ (Below.refl _ _) hW rfl
    refine ⟨fun a w hW hk K hK => ?_, ?_⟩
    · obtain ⟨k0, k1, -⟩ := hk
      have k0 : a.tmps.getD 41 undef = .slice d.pC y.code.length d.cC := k0
      have k1 : a.tmps.getD 42 undef = .int .i64 (q : Int) := k1
      have hpq := hp2.out
      have hk0 : (0 : Int) ≤ q := by omega
      have hk1 : (q : Int) < (y.code.length : Int) := by omega
      go_simp
      exact hK _ _ (Below.refl _ _) hW rfl
    refine ⟨fun a w hW hk K hK => ?_, ?_⟩
    · obtain ⟨k0, -⟩ := hk
      have k0 : a.tmps.getD 43 undef = .pointer (some ⟨g2, o2 + q * 8, none⟩) := k0
      have d0 : w.cell? ⟨g2, o2 + q * 8, none⟩ = some (.int .i64 u.op) := bel_cell hW.1.bel (E2.out 0 _ rfl)
      have d1 : w.cell? ⟨g2, o2 + q * 8 + 1, none⟩ = some (.int .i64 u.a) := bel_cell hW.1.bel (E2.out 1 _ rfl)
      have d2 : w.cell? ⟨g2, o2 + q * 8 + 2, none⟩ = some (.int .i64 u.b) := bel_cell hW.1.bel (E2.out 2 _ rfl)
      have d3 : w.cell? ⟨g2, o2 + q * 8 + 3, none⟩ = some (.int .i64 u.c) := bel_cell hW.1.bel (E2.out 3 _ rfl)
      have d4 : w.cell? ⟨g2, o2 + q * 8 + 4, none⟩ = some (.int .i64 u.k) := bel_cell hW.1.bel (E2.out 4 _ rfl)
      have d5 : w.cell? ⟨g2, o2 + q * 8 + 5, none⟩ = some (.int .i64 u.n) := bel_cell hW.1.bel (E2.out 5 _ rfl)
      have d6 : w.cell? ⟨g2, o2 + q * 8 + 6, none⟩ = some (.slice i2.pR u.regs.length i2.cR) := bel_cell hW.1.bel (E2.out 6 _ rfl)
      have d7 : w.cell? ⟨g2, o2 + q * 8 + 7, none⟩ = some (.slice i2.pA u.args.length i2.cA) := bel_cell hW.1.bel (E2.out 7 _ rfl)
      go_simp
      exact hK _ _ (Below.refl _ _) hW rfl
    refine ⟨fun a w hW hk K hK => ?_, ?_⟩
    · obtain ⟨k0, k1, -⟩ := hk
      have k0 : a.tmps.getD 39 undef = .agg #[.int .i64 z.op, .int .i64 z.a, .int .i64 z.b, .int .i64 z.c, .int .i64 z.k, .int .i64 z.n, .slice i1.pR z.regs.length i1.cR, .slice i1.pA z.args.length i1.cA] := k0
      have k1 : a.tmps.getD 44 undef = .agg #[.int .i64 u.op, .int .i64 u.a, .int .i64 u.b, .int .i64 u.c, .int .i64 u.k, .int .i64 u.n, .slice i2.pR u.regs.length i2.cR, .slice i2.pA u.args.length i2.cA] := k1
      have hC : Rd Try.prog 76 #[.agg #[.int .i64 z.op, .int .i64 z.a, .int .i64 z.b, .int .i64 z.c, .int .i64 z.k, .int .i64 z.n, .slice i1.pR z.regs.length i1.cR, .slice i1.pA z.args.length i1.cA], .agg #[.int .i64 u.op, .int .i64 u.a, .int .i64 u.b, .int .i64 u.c, .int .i64 u.k, .int .i64 u.n, .slice i2.pR u.regs.length i2.cR, .slice i2.pA u.args.length i2.cA]] w (.bool (bdec (z = u))) := sameIns_any (In1.out.below hW.1.bel) (In2.out.below hW.1.bel) (hs.out.2.2.2 _ (List.mem_of_getElem? hx1.out))
      go_simp
      refine hC.mono ?_
      rintro e w9 ⟨rfl, hb⟩
      exact hK _ _ hb ⟨hW.1.below hb, Below.andThen hW.2 hb⟩ rfl
    refine ⟨fun a w hW hk K hK => ?_, ?_⟩
    · obtain ⟨k0, -⟩ := hk
      have k0 : a.tmps.getD 45 undef = .bool (bdec (z = u)) := k0
      go_simp
      exact hK _ _ (Below.refl _ _) hW rfl
    trivial
   case hend =>
    intro ops a33 w33 hWD hE hFD
    have hd46 : a33.tmps.getD 46 undef = .bool (!(bdec (z = u))) := hE 46 rfl
    have hF33 : Fr 90 a33 [(46, .bool (!(bdec (z = u)))), (1, .agg #[.int .i64 y.regs, .slice d.pP y.params.length d.cP, .slice d.pC y.code.length d.cC, .int .i64 y.fin.op, .int .i64 y.fin.a, .int .i64 y.fin.yes.block, .slice d.e.pYR y.fin.yes.regs.length d.e.cYR, .slice d.e.pYA y.fin.yes.args.length d.e.cYA, .int .i64 y.fin.no.block, .slice d.e.pNR y.fin.no.regs.length d.e.cNR, .slice d.e.pNA y.fin.no.args.length d.e.cNA, .slice d.e.pA y.fin.args.length d.e.cA]), (0, .agg #[.int .i64 x.regs, .slice b.pP x.params.length b.cP, .slice b.pC x.code.length b.cC, .int .i64 x.fin.op, .int .i64 x.fin.a, .int .i64 x.fin.yes.block, .slice b.e.pYR x.fin.yes.regs.length b.e.cYR, .slice b.e.pYA x.fin.yes.args.length b.e.cYA, .int .i64 x.fin.no.block, .slice b.e.pNR x.fin.no.regs.length b.e.cNR, .slice b.e.pNA x.fin.no.args.length b.e.cNA, .slice b.e.pA x.fin.args.length b.e.cA]), (2, .pointer (some ⟨B2, 0, none⟩)), (3, .pointer (some ⟨B3, 0, none⟩)), (4, .bool false), (5, .int .i64 (q : Int))] := (hFD.cons hd46)
    clear hd46
    have hW33 : Wd w w33 [(B3, #[.int .i64 y.regs, .slice d.pP y.params.length d.cP, .slice d.pC y.code.length d.cC, .int .i64 y.fin.op, .int .i64 y.fin.a, .int .i64 y.fin.yes.block, .slice d.e.pYR y.fin.yes.regs.length d.e.cYR, .slice d.e.pYA y.fin.yes.args.length d.e.cYA, .int .i64 y.fin.no.block, .slice d.e.pNR y.fin.no.regs.length d.e.cNR, .slice d.e.pNA y.fin.no.args.length d.e.cNA, .slice d.e.pA y.fin.args.length d.e.cA], 77), (B2, #[.int .i64 x.regs, .slice b.pP x.params.length b.cP, .slice b.pC x.code.length b.cC, .int .i64 x.fin.op, .int .i64 x.fin.a, .int .i64 x.fin.yes.block, .slice b.e.pYR x.fin.yes.regs.length b.e.cYR, .slice b.e.pYA x.fin.yes.args.length b.e.cYA, .int .i64 x.fin.no.block, .slice b.e.pNR x.fin.no.regs.length b.e.cNR, .slice b.e.pNA x.fin.no.args.length b.e.cNA, .slice b.e.pA x.fin.args.length b.e.cA], 77)] := hWD.1
    clear hFD hWD hE hF32 h29
    clear hW26
    refine wpList_nil ?_
    refine hK31 _ _ ?_
    refine fr_cond (t := 46) hF33 rfl (fun hb => ?_) (fun hb => ?_)
    ·have hb : (bdec (z = u)) = false := by simpa using hb
     have hel : ¬ (z = u) := fun h => by rw [bdec_true h] at hb; cases hb
     clear hb
     refine wp_seq_k fun K34 hK34 => ?_
     refine rg hF33 fun ops => ?_; clear hF33 a33
     refine sa trivial rfl rfl ?_
     refine St.nil fun a35 h35 => ?_
     refine hK34 _ _ ?_
     refine wp_ret ?_; with_reducible repeat first | refine of_then_ret ?_ | refine of_block_ret ?_
     have R : ¬ x = y := by
       intro e
       have h1 := hx1.out
       rw [e, hx2.out] at h1
       exact hel (Option.some.inj h1).symm
     exact ret_tmp (t := 4) h35 rfl rfl ⟨by rw [bdec_false R], hW33.bel⟩
    have hb : (bdec (z = u)) = true := by simpa using hb
    have hel : (z = u) := bdec_iff.1 hb
    clear hb
    refine wp_skip ?_
    refine hK30 _ _ ?_
    refine rg hF33 fun ops => ?_; clear hF33 a33
    refine sm trivial rfl rfl ?_
    refine sad (by omega) trivial rfl rfl rfl ?_
    refine sa trivial rfl rfl ?_
    refine St.nil fun a36 h36 => ?_
    refine hKL _ _ (x.code.length - (q + 1)) (by omega) ⟨q + 1, by omega, rfl, ?_, (h36.keep (h36.keep (h36.keep (h36.keep (h36.keep (h36.keep h36.nil (t := 5) rfl) (t := 4) rfl) (t := 3) rfl) (t := 2) rfl) (t := 0) rfl) (t := 1) rfl), hW33⟩
    ·intro j hj
     by_cases e : j = q
     · subst e; rw [hx1.out, hx2.out, hel]
     · exact hall j (by omega)
  have hge : q = x.code.length := by have := of_decide_eq_false hb; omega
  clear hb
  refine wp_exit ?_
  refine hK23 _ _ ?_
  refine wp_seq_k fun K37 hK37 => ?_
  refine fr_region ?_
  intro ops hops
  have hg7 : (ops[7]?).bind (fun o : Oper => o.dst) = some 54 := hops 7
  have hg16 : (ops[16]?).bind (fun o : Oper => o.dst) = some 63 := hops 16
  have hg25 : (ops[25]?).bind (fun o : Oper => o.dst) = some 72 := hops 25
  have hg34 : (ops[34]?).bind (fun o : Oper => o.dst) = some 81 := hops 34
  clear hops
  refine St.go h29 ?_; clear h29 a29
  refine sfBlock3 trivial rfl rfl ?_
  refine sfEnd0 trivial rfl rfl ?_
  refine sbInt 1 hW26 trivial rfl rfl rfl rfl ?_
  refine sfBlock3 trivial rfl rfl ?_
  refine sfEnd0 trivial rfl rfl ?_
  refine sbInt 0 hW26 trivial rfl rfl rfl rfl ?_
  refine seq trivial rfl rfl rfl ?_
  refine sm trivial rfl rfl ?_
  intro a38 h38
  rcases Bool.eq_false_or_eq_true (x.fin.op == y.fin.op) with hb | hb
  ·rw [hb] at h38
   have h9 : x.fin.op = y.fin.op := eq_of_beq hb
   have hc39 : Hid (x.fin.op = y.fin.op) := h9
   clear h9
   clear hb
   refine St.go h38 ?_; clear h38 a38
   refine sfBlock3 ⟨_, hg7, rfl, rfl⟩ rfl rfl ?_
   refine sfEnd1 ⟨_, hg7, rfl, rfl⟩ rfl rfl ?_
   refine sbInt 1 hW26 ⟨_, hg7, rfl, rfl⟩ rfl rfl rfl rfl ?_
   refine sfBlock3 ⟨_, hg7, rfl, rfl⟩ rfl rfl ?_
   refine sfEnd1 ⟨_, hg7, rfl, rfl⟩ rfl rfl ?_
   refine sbInt 0 hW26 ⟨_, hg7, rfl, rfl⟩ rfl rfl rfl rfl ?_
   refine seq ⟨_, hg7, rfl, rfl⟩ rfl rfl rfl ?_
   refine sp trivial rfl rfl rfl ?_
   refine sm trivial rfl rfl ?_
   intro a40 h40
   rcases Bool.eq_false_or_eq_true (x.fin.a == y.fin.a) with hb | hb
   ·rw [hb] at h40
    have h9 : x.fin.a = y.fin.a := eq_of_beq hb
    have hc41 : Hid (x.fin.a = y.fin.a) := h9
    clear h9
    clear hb
    refine St.go h40 ?_; clear h40 a40
    refine sfBlock3 ⟨_, hg16, rfl, rfl⟩ rfl rfl ?_
    refine sfEnd2 ⟨_, hg16, rfl, rfl⟩ rfl rfl ?_
    refine sS 1 3 Try.underlying52 rfl infTo hW26 ⟨_, hg16, rfl, rfl⟩ rfl rfl rfl rfl ?_
    refine sfBlock3 ⟨_, hg16, rfl, rfl⟩ rfl rfl ?_
    refine sfEnd2 ⟨_, hg16, rfl, rfl⟩ rfl rfl ?_
    refine sS 0 3 Try.underlying52 rfl infTo hW26 ⟨_, hg16, rfl, rfl⟩ rfl rfl rfl rfl ?_
    refine sc_2 cf77 hW26 (sameTo_any (hx.out.fin.yes.below hW26.bel) (hy.out.fin.yes.below hW26.bel) hs.out.2.2.1.1) ⟨_, hg16, rfl, rfl⟩ rfl rfl rfl ?_
    clear hW26; intro w42 hW42
    refine sp trivial rfl rfl rfl ?_
    refine sm trivial rfl rfl ?_
    intro a43 h43
    rcases Bool.eq_false_or_eq_true (bdec (x.fin.yes = y.fin.yes)) with hb | hb
    ·rw [hb] at h43
     have hc44 : (x.fin.yes = y.fin.yes) := bdec_iff.1 hb
     clear hb
     refine St.go h43 ?_; clear h43 a43
     refine sfBlock3 ⟨_, hg25, rfl, rfl⟩ rfl rfl ?_
     refine sfEnd3 ⟨_, hg25, rfl, rfl⟩ rfl rfl ?_
     refine sS 1 3 Try.underlying52 rfl infTo hW42 ⟨_, hg25, rfl, rfl⟩ rfl rfl rfl rfl ?_
     refine sfBlock3 ⟨_, hg25, rfl, rfl⟩ rfl rfl ?_
     refine sfEnd3 ⟨_, hg25, rfl, rfl⟩ rfl rfl ?_
     refine sS 0 3 Try.underlying52 rfl infTo hW42 ⟨_, hg25, rfl, rfl⟩ rfl rfl rfl rfl ?_
     refine sc_2 cf77 hW42 (sameTo_any (hx.out.fin.no.below hW42.bel) (hy.out.fin.no.below hW42.bel) hs.out.2.2.1.2.1) ⟨_, hg25, rfl, rfl⟩ rfl rfl rfl ?_
     clear hW42; intro w45 hW45
     refine sp trivial rfl rfl rfl ?_
     refine sm trivial rfl rfl ?_
     intro a46 h46
     rcases Bool.eq_false_or_eq_true (bdec (x.fin.no = y.fin.no)) with hb | hb
     ·rw [hb] at h46
      have hc47 : (x.fin.no = y.fin.no) := bdec_iff.1 hb
      clear hb
      refine St.go h46 ?_; clear h46 a46
      refine sfBlock3 ⟨_, hg34, rfl, rfl⟩ rfl rfl ?_
      refine sfEnd4 ⟨_, hg34, rfl, rfl⟩ rfl rfl ?_
      refine sbInts 1 hW45 ⟨_, hg34, rfl, rfl⟩ rfl rfl rfl rfl ?_
      refine sfBlock3 ⟨_, hg34, rfl, rfl⟩ rfl rfl ?_
      refine sfEnd4 ⟨_, hg34, rfl, rfl⟩ rfl rfl ?_
      refine sbInts 0 hW45 ⟨_, hg34, rfl, rfl⟩ rfl rfl rfl rfl ?_
      refine sc_2 cf32 hW45 (sameInts_any x.fin.args y.fin.args b.e.pA d.e.pA b.e.cA d.e.cA w45 (Lay.below hx.out.fin.args hW45.bel) (Lay.below hy.out.fin.args hW45.bel) (by have := hs.out.2.2.1.2.2; omega)) ⟨_, hg34, rfl, rfl⟩ rfl rfl rfl ?_
      clear hW45; intro w48 hW48
      refine sp trivial rfl rfl rfl ?_
      refine sa trivial rfl rfl ?_
      refine St.nil fun a49 h49 => ?_
      refine hK37 _ _ ?_
      refine wp_ret ?_; with_reducible repeat first | refine of_then_ret ?_ | refine of_block_ret ?_
      have RC : x.code = y.code := by
        have := hlen.out
        refine List.ext_getElem? fun i => ?_
        by_cases hi : i < q
        · exact hall i hi
        · rw [List.getElem?_eq_none (by omega), List.getElem?_eq_none (by omega)]
      have R : x.fin.args = y.fin.args ↔ x = y := ⟨fun h => MBlock.eq_of hc12.out hc19 RC (MEnd.eq_of hc39.out hc41.out hc44 hc47 h), fun e => by rw [e]⟩
      exact ret_tmp (t := 4) h49 rfl rfl ⟨by rw [bdec_congr R], hW48.bel⟩
     rw [hb] at h46
     have hc50 : ¬ (x.fin.no = y.fin.no) := fun h => by rw [bdec_true h] at hb; cases hb
     clear hb
     refine St.go h46 ?_; clear h46 a46
     refine so hg34 rfl rfl rfl rfl ?_
     refine so hg34 rfl rfl rfl rfl ?_
     refine so hg34 rfl rfl rfl rfl ?_
     refine so hg34 rfl rfl rfl rfl ?_
     refine so hg34 rfl rfl rfl rfl ?_
     refine so hg34 rfl rfl rfl rfl ?_
     refine so hg34 rfl rfl rfl rfl ?_
     refine spf trivial rfl rfl rfl ?_
     refine sa trivial rfl rfl ?_
     refine St.nil fun a51 h51 => ?_
     refine hK37 _ _ ?_
     refine wp_ret ?_; with_reducible repeat first | refine of_then_ret ?_ | refine of_block_ret ?_
     have R : ¬ x = y := fun e => hc50 (by rw [e])
     exact ret_tmp (t := 4) h51 rfl rfl ⟨by rw [bdec_false R], hW45.bel⟩
    rw [hb] at h43
    have hc52 : ¬ (x.fin.yes = y.fin.yes) := fun h => by rw [bdec_true h] at hb; cases hb
    clear hb
    refine St.go h43 ?_; clear h43 a43
    refine so hg25 rfl rfl rfl rfl ?_
    refine so hg25 rfl rfl rfl rfl ?_
    refine so hg25 rfl rfl rfl rfl ?_
    refine so hg25 rfl rfl rfl rfl ?_
    refine so hg25 rfl rfl rfl rfl ?_
    refine so hg25 rfl rfl rfl rfl ?_
    refine so hg25 rfl rfl rfl rfl ?_
    refine spf trivial rfl rfl rfl ?_
    refine sm trivial rfl rfl ?_
    refine so hg34 rfl rfl rfl rfl ?_
    refine so hg34 rfl rfl rfl rfl ?_
    refine so hg34 rfl rfl rfl rfl ?_
    refine so hg34 rfl rfl rfl rfl ?_
    refine so hg34 rfl rfl rfl rfl ?_
    refine so hg34 rfl rfl rfl rfl ?_
    refine so hg34 rfl rfl rfl rfl ?_
    refine spf trivial rfl rfl rfl ?_
    refine sa trivial rfl rfl ?_
    refine St.nil fun a53 h53 => ?_
    refine hK37 _ _ ?_
    refine wp_ret ?_; with_reducible repeat first | refine of_then_ret ?_ | refine of_block_ret ?_
    have R : ¬ x = y := fun e => hc52 (by rw [e])
    exact ret_tmp (t := 4) h53 rfl rfl ⟨by rw [bdec_false R], hW42.bel⟩
   rw [hb] at h40
   have h9 : ¬ x.fin.a = y.fin.a := ne_of_beq_false hb
   have hc54 : ¬ x.fin.a = y.fin.a := h9
   clear h9
   clear hb
   refine St.go h40 ?_; clear h40 a40
   refine so hg16 rfl rfl rfl rfl ?_
   refine so hg16 rfl rfl rfl rfl ?_
   refine so hg16 rfl rfl rfl rfl ?_
   refine so hg16 rfl rfl rfl rfl ?_
   refine so hg16 rfl rfl rfl rfl ?_
   refine so hg16 rfl rfl rfl rfl ?_
   refine so hg16 rfl rfl rfl rfl ?_
   refine spf trivial rfl rfl rfl ?_
   refine sm trivial rfl rfl ?_
   refine so hg25 rfl rfl rfl rfl ?_
   refine so hg25 rfl rfl rfl rfl ?_
   refine so hg25 rfl rfl rfl rfl ?_
   refine so hg25 rfl rfl rfl rfl ?_
   refine so hg25 rfl rfl rfl rfl ?_
   refine so hg25 rfl rfl rfl rfl ?_
   refine so hg25 rfl rfl rfl rfl ?_
   refine spf trivial rfl rfl rfl ?_
   refine sm trivial rfl rfl ?_
   refine so hg34 rfl rfl rfl rfl ?_
   refine so hg34 rfl rfl rfl rfl ?_
   refine so hg34 rfl rfl rfl rfl ?_
   refine so hg34 rfl rfl rfl rfl ?_
   refine so hg34 rfl rfl rfl rfl ?_
   refine so hg34 rfl rfl rfl rfl ?_
   refine so hg34 rfl rfl rfl rfl ?_
   refine spf trivial rfl rfl rfl ?_
   refine sa trivial rfl rfl ?_
   refine St.nil fun a55 h55 => ?_
   refine hK37 _ _ ?_
   refine wp_ret ?_; with_reducible repeat first | refine of_then_ret ?_ | refine of_block_ret ?_
   have R : ¬ x = y := fun e => hc54 (by rw [e])
   exact ret_tmp (t := 4) h55 rfl rfl ⟨by rw [bdec_false R], hW26.bel⟩
  rw [hb] at h38
  have h9 : ¬ x.fin.op = y.fin.op := ne_of_beq_false hb
  have hc56 : ¬ x.fin.op = y.fin.op := h9
  clear h9
  clear hb
  refine St.go h38 ?_; clear h38 a38
  refine so hg7 rfl rfl rfl rfl ?_
  refine so hg7 rfl rfl rfl rfl ?_
  refine so hg7 rfl rfl rfl rfl ?_
  refine so hg7 rfl rfl rfl rfl ?_
  refine so hg7 rfl rfl rfl rfl ?_
  refine so hg7 rfl rfl rfl rfl ?_
  refine so hg7 rfl rfl rfl rfl ?_
  refine spf trivial rfl rfl rfl ?_
  refine sm trivial rfl rfl ?_
  refine so hg16 rfl rfl rfl rfl ?_
  refine so hg16 rfl rfl rfl rfl ?_
  refine so hg16 rfl rfl rfl rfl ?_
  refine so hg16 rfl rfl rfl rfl ?_
  refine so hg16 rfl rfl rfl rfl ?_
  refine so hg16 rfl rfl rfl rfl ?_
  refine so hg16 rfl rfl rfl rfl ?_
  refine spf trivial rfl rfl rfl ?_
  refine sm trivial rfl rfl ?_
  refine so hg25 rfl rfl rfl rfl ?_
  refine so hg25 rfl rfl rfl rfl ?_
  refine so hg25 rfl rfl rfl rfl ?_
  refine so hg25 rfl rfl rfl rfl ?_
  refine so hg25 rfl rfl rfl rfl ?_
  refine so hg25 rfl rfl rfl rfl ?_
  refine so hg25 rfl rfl rfl rfl ?_
  refine spf trivial rfl rfl rfl ?_
  refine sm trivial rfl rfl ?_
  refine so hg34 rfl rfl rfl rfl ?_
  refine so hg34 rfl rfl rfl rfl ?_
  refine so hg34 rfl rfl rfl rfl ?_
  refine so hg34 rfl rfl rfl rfl ?_
  refine so hg34 rfl rfl rfl rfl ?_
  refine so hg34 rfl rfl rfl rfl ?_
  refine so hg34 rfl rfl rfl rfl ?_
  refine spf trivial rfl rfl rfl ?_
  refine sa trivial rfl rfl ?_
  refine St.nil fun a57 h57 => ?_
  refine hK37 _ _ ?_
  refine wp_ret ?_; with_reducible repeat first | refine of_then_ret ?_ | refine of_block_ret ?_
  have R : ¬ x = y := fun e => hc56 (by rw [e])
  exact ret_tmp (t := 4) h57 rfl rfl ⟨by rw [bdec_false R], hW26.bel⟩
end Go.Proofs.Ytmnmnokkojcodab
