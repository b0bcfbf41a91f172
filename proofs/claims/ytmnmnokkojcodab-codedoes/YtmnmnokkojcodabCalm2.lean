/-
  A region that draws its order, the last operations of which wait for all that stand ahead of them: whatever order is drawn, they come last, in their own order.
-/
import Derived.Test.YtmnmnokkojcodabCalm
import Derived.Test.YtmnmnokkojcodabFr
namespace Go.Proofs.Ytmnmnokkojcodab
open Go.RowKit
set_option linter.unusedVariables false

section
variable {P : Program} {Q : Exit → Act → World → Prop}

theorem wp_then {o : Oper} {a : Act} {w : World} {K N : Act → World → Prop} (h : o.wp P a w K (Exit.then N Q)) : o.wp P a w K Q := by
  unfold Oper.wp at *
  generalize (execOp a.eval o).run P w = r at *
  cases r with
  | ok n w' => cases n <;> exact h
  | halt x w' => cases x <;> exact h

/-- An operation of the tail waits for all that stand ahead of it. -/
def waitsB (k : Nat) (o : Oper) : Bool := (List.range k).all fun j => o.after.any fun e => Region.binds .any e && e.on == j
def tailB (k : Nat) : List Oper → Bool
  | [] => true
  | o :: l => waitsB k o && tailB (k + 1) l
def guardsB (n : Nat) (l : List Oper) : Bool := l.all fun o => match o.guard with | some (g, _) => decide (g < n) | none => true

theorem tail_at : ∀ (l : List Oper) (k i : Nat) (o : Oper), tailB k l = true → l[i]? = some o → ∀ j, j < k + i → ∃ e ∈ o.after, Region.binds .any e = true ∧ e.on = j
  | [], _, _, _, _, h => by simp at h
  | x :: l, k, 0, o, h, ho => by
    simp at ho; subst ho
    simp only [tailB, Bool.and_eq_true] at h
    intro j hj
    have := List.all_eq_true.1 h.1 j (by simpa using hj)
    obtain ⟨q, hq, he⟩ := Array.any_eq_true.1 this
    simp only [Bool.and_eq_true, beq_iff_eq] at he
    exact ⟨_, Array.getElem_mem hq, he.1, he.2⟩
  | x :: l, k, i + 1, o, h, ho => by
    simp only [tailB, Bool.and_eq_true] at h
    simp at ho
    intro j hj
    exact tail_at l (k + 1) i o h.2 ho j (by omega)

theorem ready_mem {ops : Array Oper} {listed : Array Bool} {i : Nat} : i ∈ Region.ready .any ops listed ↔ i < ops.size ∧ listed.getD i true = false ∧ ∃ o, ops[i]? = some o ∧ ∀ e ∈ o.after, Region.binds .any e = true → listed.getD e.on false = true := by
  unfold Region.ready
  rw [List.mem_filter]
  simp only [List.mem_range, Bool.and_eq_true, Bool.not_eq_true']
  refine and_congr_right fun h1 => and_congr_right fun h2 => ?_
  rw [Array.getElem?_eq_getElem h1]
  simp only [Option.map_some, Option.getD_some, Option.some.injEq, exists_eq_left']
  rw [Array.all_eq_true_iff_forall_mem]
  refine forall_congr' fun e => forall_congr' fun he => ?_
  cases Region.binds .any e <;> simp

theorem wpAny_seq {l : List Oper} (hb : backB 0 l = true) {k0 : Nat} (ht : tailB k0 (l.drop k0) = true) : ∀ (m k fuel : Nat) (listed : Array Bool) (a : Act) (w : World), k + m = l.length → k0 ≤ k → m ≤ fuel → listed.size = l.length →
    (∀ j, j < l.length → listed.getD j false = decide (j < k)) → wpList P l.toArray Q (l.drop k) a w → wpAny P .any l.toArray Q fuel listed a w := by
  intro m
  induction m with
  | zero =>
    intro k fuel listed a w hk _ _ hs hl h
    have hr : Region.ready .any l.toArray listed = [] := by
      rw [List.eq_nil_iff_forall_not_mem]
      intro i hi
      obtain ⟨h1, h2, _⟩ := ready_mem.1 hi
      have h1' : i < l.length := by simpa using h1
      have := hl i h1'
      have hd : decide (i < k) = true := by simp; omega
      rw [hd] at this
      have hi' : i < listed.size := by omega
      simp [Array.getD, hi'] at this h2
      rw [this] at h2; cases h2
    have hq : Q .normal a w := by
      rw [List.drop_of_length_le (by omega)] at h
      exact h
    cases fuel with
    | zero => exact ⟨hr, hq⟩
    | succ fuel => exact ⟨fun _ => hq, fun i hi => by rw [hr] at hi; cases hi⟩
  | succ m ih =>
    intro k fuel listed a w hk hk0 hf hs hl h
    have hlt : k < l.length := by omega
    obtain ⟨fuel, rfl⟩ : ∃ f, fuel = f + 1 := ⟨fuel - 1, by omega⟩
    have hks : k < listed.size := by omega
    have hkr : k ∈ Region.ready .any l.toArray listed := by
      refine ready_mem.2 ⟨by simpa using hlt, ?_, l[k], by simp [hlt], fun e he hbd => ?_⟩
      · have := hl k hlt
        simp [Array.getD, hks] at this ⊢; exact this
      · have := back_at l 0 k l[k] hb (by simp [hlt]) e he hbd
        rw [hl _ (by omega)]; simp; omega
    refine ⟨fun hr => absurd (hr ▸ hkr) (by simp), fun i hi => ?_⟩
    have hik : i = k := by
      obtain ⟨h1, h2, o, ho, h3⟩ := ready_mem.1 hi
      have h1' : i < l.length := by simpa using h1
      have hnl : listed.getD i false = false := by
        have hi' : i < listed.size := by omega
        simp [Array.getD, hi'] at h2 ⊢; exact h2
      have hge : k ≤ i := by
        have := hl i h1'
        rw [hnl] at this
        have : ¬ i < k := by simpa using this.symm
        omega
      rcases Nat.eq_or_lt_of_le hge with e | hgt
      · exact e.symm
      · exfalso
        obtain ⟨e, he, hbd, hon⟩ := tail_at (l.drop k0) k0 (i - k0) o ht (by rw [List.getElem?_drop, show k0 + (i - k0) = i by omega]; simpa using ho) k (by omega)
        have := h3 e he hbd
        rw [hon, hl k hlt] at this
        simp at this
    subst hik
    rw [List.drop_eq_getElem_cons hlt] at h
    have ho : l.toArray[i]? = some l[i] := by simp [hlt]
    have next : ∀ a w, wpList P l.toArray Q (l.drop (i + 1)) a w → wpAny P .any l.toArray Q fuel (listed.setIfInBounds i true) a w := fun a w h' =>
      ih (i + 1) fuel _ a w (by omega) (by omega) (by omega) (by simpa using hs) (fun j hj => by
        by_cases e : j = i
        · subst e; simp [Array.getD, hks]
        · have hne : i ≠ j := fun x => e x.symm
          rw [Array.getD_eq_getD_getElem?, Array.getElem?_setIfInBounds_ne hne, ← Array.getD_eq_getD_getElem?, hl j hj]
          simp; omega) h'
    unfold wpOp
    rw [ho]
    simp only
    unfold wpList at h
    split
    · rename_i hw
      rw [if_pos hw] at h
      exact h.imp (Oper.wp_mono next) id
    · rename_i hw
      rw [if_neg hw] at h
      exact next _ _ h

theorem wpAny_tail {l l2 : List Oper} (hb : backB 0 (l ++ l2) = true) (hg : guardsB l.length l = true) (ht : tailB l.length l2 = true) : ∀ (fuel : Nat) (listed : Array Bool) (a : Act) (w : World), listed.size = l.length →
    wpAny P .any l.toArray (Exit.then (fun a w => wpList P (l ++ l2).toArray Q l2 a w) Q) fuel listed a w →
    wpAny P .any (l ++ l2).toArray Q (fuel + l2.length) (listed ++ Array.replicate l2.length false) a w := by
  have hbl : ∀ (i : Nat) (o : Oper), l[i]? = some o → ∀ e ∈ o.after, Region.binds .any e = true → e.on < i := fun i o ho e he hbd => by
    have hi : i < l.length := (List.getElem?_eq_some_iff.1 ho).1
    have := back_at (l ++ l2) 0 i o hb (by rw [List.getElem?_append_left hi]; exact ho) e he hbd
    omega
  have get1 : ∀ (listed : Array Bool) (j : Nat) (d : Bool), listed.size = l.length → j < l.length → (listed ++ Array.replicate l2.length false).getD j d = listed.getD j d := fun listed j d hs hj => by
    rw [Array.getD_eq_getD_getElem?, Array.getD_eq_getD_getElem?, Array.getElem?_append_left (by omega)]
  have get2 : ∀ (listed : Array Bool) (j : Nat), listed.size = l.length → l.length ≤ j → (listed ++ Array.replicate l2.length false).getD j false = false := fun listed j hs hj => by
    rw [Array.getD_eq_getD_getElem?, Array.getElem?_append_right (by omega)]
    cases h : (Array.replicate l2.length false)[j - listed.size]? with
    | none => rfl
    | some b =>
      have := Array.mem_of_getElem? h
      simp at this
      simp [this.2]
  -- all of the first part are listed
  have done : ∀ (fuel : Nat) (listed : Array Bool) (a : Act) (w : World), listed.size = l.length → (∀ j, j < l.length → listed.getD j false = true) → wpList P (l ++ l2).toArray Q l2 a w →
      wpAny P .any (l ++ l2).toArray Q (fuel + l2.length) (listed ++ Array.replicate l2.length false) a w := fun fuel listed a w hs hall h => by
    refine wpAny_seq hb (k0 := l.length) (by simpa using ht) l2.length l.length _ _ a w (by simp) (Nat.le_refl _) (by omega) (by simp [hs]) (fun j hj => ?_) (by simpa using h)
    by_cases hj' : j < l.length
    · rw [get1 listed j false hs hj', hall j hj']; simp [hj']
    · rw [get2 listed j hs (by omega)]; simp; omega
  have allOf : ∀ (listed : Array Bool), listed.size = l.length → Region.ready .any l.toArray listed = [] → ∀ j, j < l.length → listed.getD j false = true := fun listed hs hr j => by
    induction j using Nat.strongRecOn with
    | _ j ih =>
      intro hj
      cases hc : listed.getD j false with
      | true => rfl
      | false =>
        exfalso
        have hj' : j < listed.size := by omega
        have hnt : listed.getD j true = false := by simp [Array.getD, hj'] at hc ⊢; exact hc
        have : j ∈ Region.ready .any l.toArray listed := ready_mem.2 ⟨by simpa using hj, hnt, l[j], by simp [hj], fun e he hbd => by
          have := hbl j l[j] (by simp [hj]) e he hbd
          exact ih e.on this (by omega)⟩
        rw [hr] at this; cases this
  intro fuel
  induction fuel with
  | zero =>
    intro listed a w hs h
    exact done 0 listed a w hs (allOf listed hs h.1) h.2
  | succ fuel ih =>
    intro listed a w hs h
    by_cases hall : ∀ j, j < l.length → listed.getD j false = true
    · refine done (fuel + 1) listed a w hs hall (h.1 ?_)
      rw [List.eq_nil_iff_forall_not_mem]
      intro i hi
      obtain ⟨h1, h2, _⟩ := ready_mem.1 hi
      have h1' : i < l.length := by simpa using h1
      have := hall i h1'
      have hi' : i < listed.size := by omega
      simp [Array.getD, hi'] at this h2
      rw [this] at h2; cases h2
    · have hnr : Region.ready .any l.toArray listed ≠ [] := fun e => hall (allOf listed hs e)
      have same : ∀ i, i ∈ Region.ready .any (l ++ l2).toArray (listed ++ Array.replicate l2.length false) ↔ i ∈ Region.ready .any l.toArray listed := fun i => by
        rw [ready_mem, ready_mem]
        by_cases hi : i < l.length
        · have e1 : (l ++ l2).toArray[i]? = l.toArray[i]? := by simp [List.getElem?_append_left hi]
          rw [get1 listed i true hs hi, e1]
          constructor
          · rintro ⟨_, h2, o, ho, h3⟩
            refine ⟨by simpa using hi, h2, o, ho, fun e he hbd => ?_⟩
            have := hbl i o (by simpa using ho) e he hbd
            have h4 := h3 e he hbd
            rwa [get1 listed e.on false hs (by omega)] at h4
          · rintro ⟨_, h2, o, ho, h3⟩
            refine ⟨by simp; omega, h2, o, ho, fun e he hbd => ?_⟩
            have := hbl i o (by simpa using ho) e he hbd
            rw [get1 listed e.on false hs (by omega)]
            exact h3 e he hbd
        · constructor
          · rintro ⟨h1, h2, o, ho, h3⟩
            exfalso
            refine hall fun j hj => ?_
            have ho' : (l ++ l2)[i]? = some o := by simpa using ho
            rw [List.getElem?_append_right (by omega)] at ho'
            obtain ⟨e, he, hbd, hon⟩ := tail_at l2 l.length (i - l.length) o ht ho' j (by omega)
            have := h3 e he hbd
            rwa [hon, get1 listed j false hs hj] at this
          · rintro ⟨h1, _⟩
            exact absurd (by simpa using h1) hi
      rw [show fuel + 1 + l2.length = (fuel + l2.length) + 1 by omega]
      refine ⟨fun hr => ?_, fun i hi => ?_⟩
      · exfalso
        apply hnr
        rw [List.eq_nil_iff_forall_not_mem]
        intro i hi
        have := (same i).2 hi
        rw [hr] at this; cases this
      · have hi' := (same i).1 hi
        have h' := h.2 i hi'
        obtain ⟨h1, _⟩ := ready_mem.1 hi'
        have hlt : i < l.length := by simpa using h1
        have ho : l.toArray[i]? = some l[i] := by simp [hlt]
        have ho2 : (l ++ l2).toArray[i]? = some l[i] := by simp [List.getElem?_append_left hlt, hlt]
        unfold wpOp at h' ⊢
        rw [ho] at h'
        rw [ho2]
        simp only at h' ⊢
        have hy : Region.wanted l[i] (yielded (l ++ l2).toArray a.tmps) = Region.wanted l[i] (yielded l.toArray a.tmps) := by
          unfold Region.wanted
          cases hgd : (l[i]).guard with
          | none => rfl
          | some gw =>
            obtain ⟨g, want⟩ := gw
            have := List.all_eq_true.1 hg l[i] (List.getElem_mem hlt)
            rw [hgd] at this
            have hgl : g < l.length := by simpa using this
            simp only
            have : yielded (l ++ l2).toArray a.tmps g = yielded l.toArray a.tmps g := by
              unfold yielded
              have : (l ++ l2).toArray[g]? = l.toArray[g]? := by simp [List.getElem?_append_left hgl]
              rw [this]
            rw [this]
        rw [hy]
        have nx : ∀ a w, wpAny P .any l.toArray (Exit.then (fun a w => wpList P (l ++ l2).toArray Q l2 a w) Q) fuel (listed.setIfInBounds i true) a w → wpAny P .any (l ++ l2).toArray Q (fuel + l2.length) ((listed ++ Array.replicate l2.length false).setIfInBounds i true) a w := fun a w hh => by
          have := ih (listed.setIfInBounds i true) a w (by simpa using hs) hh
          have e : (listed ++ Array.replicate l2.length false).setIfInBounds i true = listed.setIfInBounds i true ++ Array.replicate l2.length false := by
            rw [Array.setIfInBounds_append_left (by omega)]
          rw [e]; exact this
        split
        · rename_i hw
          rw [if_pos hw] at h'
          rcases h' with h' | h'
          · exact .inl (Oper.wp_mono nx (wp_then h'))
          · exact .inr h'
        · rename_i hw
          rw [if_neg hw] at h'
          exact nx _ _ h'
end
end Go.Proofs.Ytmnmnokkojcodab
