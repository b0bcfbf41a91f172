/-
  The rule of Calm2 where an operation of the tail waits for some that stand ahead of it by way of another.
-/
import Derived.Test.YtmnmnokkojcodabFrD
namespace Go.Proofs.Ytmnmnokkojcodab
open Go.RowKit
set_option linter.unusedVariables false

section
variable {P : Program} {Q : Exit → Act → World → Prop}

def waits1 (o : Oper) (j : Nat) : Bool := o.after.any fun e => Region.binds .any e && e.on == j
/-- .. at once, or by way of another. -/
def waits2B (l : List Oper) (k : Nat) (o : Oper) : Bool := (List.range k).all fun j => waits1 o j || o.after.any fun e => Region.binds .any e && (match l[e.on]? with | some o' => waits1 o' j | none => false)
def tail2B (all : List Oper) (k : Nat) : List Oper → Bool
  | [] => true
  | o :: l => waits2B all k o && tail2B all (k + 1) l
theorem waits1_at {o : Oper} {j : Nat} (h : waits1 o j = true) : ∃ e ∈ o.after, Region.binds .any e = true ∧ e.on = j := by
  obtain ⟨q, hq, he⟩ := Array.any_eq_true.1 h
  simp only [Bool.and_eq_true, beq_iff_eq] at he
  exact ⟨_, Array.getElem_mem hq, he.1, he.2⟩
theorem tail2_at (all : List Oper) : ∀ (l : List Oper) (k i : Nat) (o : Oper), tail2B all k l = true → l[i]? = some o → ∀ j, j < k + i → ∀ S : Nat → Prop,
    (∀ (q : Nat) (o' : Oper), all[q]? = some o' → S q → ∀ e ∈ o'.after, Region.binds .any e = true → S e.on) → (∀ e ∈ o.after, Region.binds .any e = true → S e.on) → S j
  | [], _, _, _, _, h => by simp at h
  | x :: l, k, 0, o, h, ho => by
    simp at ho; subst ho
    simp only [tail2B, Bool.and_eq_true] at h
    intro j hj S hcl hS
    have := List.all_eq_true.1 h.1 j (by simpa using hj)
    rw [Bool.or_eq_true] at this
    rcases this with h1 | h1
    · obtain ⟨e, he, hbd, rfl⟩ := waits1_at h1
      exact hS e he hbd
    · obtain ⟨q, hq, he⟩ := Array.any_eq_true.1 h1
      rw [Bool.and_eq_true] at he
      have hm := Array.getElem_mem hq
      generalize x.after[q] = e0 at he hm
      cases ho' : all[e0.on]? with
      | none => rw [ho'] at he; simp at he
      | some o' =>
        rw [ho'] at he
        obtain ⟨e, he1, hbd, rfl⟩ := waits1_at he.2
        exact hcl _ o' ho' (hS e0 hm he.1) e he1 hbd
  | x :: l, k, i + 1, o, h, ho => by
    simp only [tail2B, Bool.and_eq_true] at h
    simp at ho
    intro j hj
    exact tail2_at all l (k + 1) i o h.2 ho j (by omega)

theorem wpAny_seq2 {l : List Oper} (hb : backB 0 l = true) {k0 : Nat} (ht : tail2B l k0 (l.drop k0) = true) : ∀ (m k fuel : Nat) (listed : Array Bool) (a : Act) (w : World), k + m = l.length → k0 ≤ k → m ≤ fuel → listed.size = l.length →
    (∀ j, j < l.length → listed.getD j false = decide (j < k)) → wpList P l.toArray Q (l.drop k) a w → wpAny P .any l.toArray Q fuel listed a w := by
  intro m
  induction m with
  | zero =>
    intro k fuel listed a w hk _ _ hs hl h
    have hr : Region.ready .any l.toArray listed = [] := by
      rw [List.eq_nil_iff_forall_not_mem]
      intro i hi
      obtain ⟨h1, h2, _⟩ := ready_mem.1 hi
      have h1' : i < l.length := by simpa using h1
      have := hl i h1'
      have hd : decide (i < k) = true := by simp; omega
      rw [hd] at this
      have hi' : i < listed.size := by omega
      simp [Array.getD, hi'] at this h2
      rw [this] at h2; cases h2
    have hq : Q .normal a w := by
      rw [List.drop_of_length_le (by omega)] at h
      exact h
    cases fuel with
    | zero => exact ⟨hr, hq⟩
    | succ fuel => exact ⟨fun _ => hq, fun i hi => by rw [hr] at hi; cases hi⟩
  | succ m ih =>
    intro k fuel listed a w hk hk0 hf hs hl h
    have hlt : k < l.length := by omega
    obtain ⟨fuel, rfl⟩ : ∃ f, fuel = f + 1 := ⟨fuel - 1, by omega⟩
    have hks : k < listed.size := by omega
    have hkr : k ∈ Region.ready .any l.toArray listed := by
      refine ready_mem.2 ⟨by simpa using hlt, ?_, l[k], by simp [hlt], fun e he hbd => ?_⟩
      · have := hl k hlt
        simp [Array.getD, hks] at this ⊢; exact this
      · have := back_at l 0 k l[k] hb (by simp [hlt]) e he hbd
        rw [hl _ (by omega)]; simp; omega
    refine ⟨fun hr => absurd (hr ▸ hkr) (by simp), fun i hi => ?_⟩
    have hik : i = k := by
      obtain ⟨h1, h2, o, ho, h3⟩ := ready_mem.1 hi
      have h1' : i < l.length := by simpa using h1
      have hnl : listed.getD i false = false := by
        have hi' : i < listed.size := by omega
        simp [Array.getD, hi'] at h2 ⊢; exact h2
      have hge : k ≤ i := by
        have := hl i h1'
        rw [hnl] at this
        have : ¬ i < k := by simpa using this.symm
        omega
      rcases Nat.eq_or_lt_of_le hge with e | hgt
      · exact e.symm
      · exfalso
        have := tail2_at l (l.drop k0) k0 (i - k0) o ht (by rw [List.getElem?_drop, show k0 + (i - k0) = i by omega]; simpa using ho) k (by omega) (fun j => listed.getD j false = true)
          (fun q o' hq hS e he hbd => by
            have hql : q < l.length := (List.getElem?_eq_some_iff.1 hq).1
            have hqe := back_at l 0 q o' hb hq e he hbd
            have h5 : listed.getD q false = true := hS
            rw [hl q hql] at h5
            have h6 : q < k := by simpa using h5
            show listed.getD e.on false = true
            rw [hl e.on (by omega)]; simp; omega) h3
        rw [hl k hlt] at this
        simp at this
    subst hik
    rw [List.drop_eq_getElem_cons hlt] at h
    have ho : l.toArray[i]? = some l[i] := by simp [hlt]
    have next : ∀ a w, wpList P l.toArray Q (l.drop (i + 1)) a w → wpAny P .any l.toArray Q fuel (listed.setIfInBounds i true) a w := fun a w h' =>
      ih (i + 1) fuel _ a w (by omega) (by omega) (by omega) (by simpa using hs) (fun j hj => by
        by_cases e : j = i
        · subst e; simp [Array.getD, hks]
        · have hne : i ≠ j := fun x => e x.symm
          rw [Array.getD_eq_getD_getElem?, Array.getElem?_setIfInBounds_ne hne, ← Array.getD_eq_getD_getElem?, hl j hj]
          simp; omega) h'
    unfold wpOp
    rw [ho]
    simp only
    unfold wpList at h
    split
    · rename_i hw
      rw [if_pos hw] at h
      exact h.imp (Oper.wp_mono next) id
    · rename_i hw
      rw [if_neg hw] at h
      exact next _ _ h

theorem wpAny_tail2 {l l2 : List Oper} (hb : backB 0 (l ++ l2) = true) (hg : guardsB l.length l = true) (ht : tail2B (l ++ l2) l.length l2 = true) : ∀ (fuel : Nat) (listed : Array Bool) (a : Act) (w : World), listed.size = l.length → (∀ (q : Nat) (o : Oper), l[q]? = some o → listed.getD q false = true → ∀ e ∈ o.after, Region.binds .any e = true → listed.getD e.on false = true) →
    wpAny P .any l.toArray (Exit.then (fun a w => wpList P (l ++ l2).toArray Q l2 a w) Q) fuel listed a w →
    wpAny P .any (l ++ l2).toArray Q (fuel + l2.length) (listed ++ Array.replicate l2.length false) a w := by
  have hbl : ∀ (i : Nat) (o : Oper), l[i]? = some o → ∀ e ∈ o.after, Region.binds .any e = true → e.on < i := fun i o ho e he hbd => by
    have hi : i < l.length := (List.getElem?_eq_some_iff.1 ho).1
    have := back_at (l ++ l2) 0 i o hb (by rw [List.getElem?_append_left hi]; exact ho) e he hbd
    omega
  have get1 : ∀ (listed : Array Bool) (j : Nat) (d : Bool), listed.size = l.length → j < l.length → (listed ++ Array.replicate l2.length false).getD j d = listed.getD j d := fun listed j d hs hj => by
    rw [Array.getD_eq_getD_getElem?, Array.getD_eq_getD_getElem?, Array.getElem?_append_left (by omega)]
  have get2 : ∀ (listed : Array Bool) (j : Nat), listed.size = l.length → l.length ≤ j → (listed ++ Array.replicate l2.length false).getD j false = false := fun listed j hs hj => by
    rw [Array.getD_eq_getD_getElem?, Array.getElem?_append_right (by omega)]
    cases h : (Array.replicate l2.length false)[j - listed.size]? with
    | none => rfl
    | some b =>
      have := Array.mem_of_getElem? h
      simp at this
      simp [this.2]
  -- all of the first part are listed
  have done : ∀ (fuel : Nat) (listed : Array Bool) (a : Act) (w : World), listed.size = l.length → (∀ j, j < l.length → listed.getD j false = true) → wpList P (l ++ l2).toArray Q l2 a w →
      wpAny P .any (l ++ l2).toArray Q (fuel + l2.length) (listed ++ Array.replicate l2.length false) a w := fun fuel listed a w hs hall h => by
    refine wpAny_seq2 hb (k0 := l.length) (by simpa using ht) l2.length l.length _ _ a w (by simp) (Nat.le_refl _) (by omega) (by simp [hs]) (fun j hj => ?_) (by simpa using h)
    by_cases hj' : j < l.length
    · rw [get1 listed j false hs hj', hall j hj']; simp [hj']
    · rw [get2 listed j hs (by omega)]; simp; omega
  have allOf : ∀ (listed : Array Bool), listed.size = l.length → Region.ready .any l.toArray listed = [] → ∀ j, j < l.length → listed.getD j false = true := fun listed hs hr j => by
    induction j using Nat.strongRecOn with
    | _ j ih =>
      intro hj
      cases hc : listed.getD j false with
      | true => rfl
      | false =>
        exfalso
        have hj' : j < listed.size := by omega
        have hnt : listed.getD j true = false := by simp [Array.getD, hj'] at hc ⊢; exact hc
        have : j ∈ Region.ready .any l.toArray listed := ready_mem.2 ⟨by simpa using hj, hnt, l[j], by simp [hj], fun e he hbd => by
          have := hbl j l[j] (by simp [hj]) e he hbd
          exact ih e.on this (by omega)⟩
        rw [hr] at this; cases this
  intro fuel
  induction fuel with
  | zero =>
    intro listed a w hs hcl h
    exact done 0 listed a w hs (allOf listed hs h.1) h.2
  | succ fuel ih =>
    intro listed a w hs hcl h
    by_cases hall : ∀ j, j < l.length → listed.getD j false = true
    · refine done (fuel + 1) listed a w hs hall (h.1 ?_)
      rw [List.eq_nil_iff_forall_not_mem]
      intro i hi
      obtain ⟨h1, h2, _⟩ := ready_mem.1 hi
      have h1' : i < l.length := by simpa using h1
      have := hall i h1'
      have hi' : i < listed.size := by omega
      simp [Array.getD, hi'] at this h2
      rw [this] at h2; cases h2
    · have hnr : Region.ready .any l.toArray listed ≠ [] := fun e => hall (allOf listed hs e)
      have same : ∀ i, i ∈ Region.ready .any (l ++ l2).toArray (listed ++ Array.replicate l2.length false) ↔ i ∈ Region.ready .any l.toArray listed := fun i => by
        rw [ready_mem, ready_mem]
        by_cases hi : i < l.length
        · have e1 : (l ++ l2).toArray[i]? = l.toArray[i]? := by simp [List.getElem?_append_left hi]
          rw [get1 listed i true hs hi, e1]
          constructor
          · rintro ⟨_, h2, o, ho, h3⟩
            refine ⟨by simpa using hi, h2, o, ho, fun e he hbd => ?_⟩
            have := hbl i o (by simpa using ho) e he hbd
            have h4 := h3 e he hbd
            rwa [get1 listed e.on false hs (by omega)] at h4
          · rintro ⟨_, h2, o, ho, h3⟩
            refine ⟨by simp; omega, h2, o, ho, fun e he hbd => ?_⟩
            have := hbl i o (by simpa using ho) e he hbd
            rw [get1 listed e.on false hs (by omega)]
            exact h3 e he hbd
        · constructor
          · rintro ⟨h1, h2, o, ho, h3⟩
            exfalso
            refine hall fun j hj => ?_
            have ho' : (l ++ l2)[i]? = some o := by simpa using ho
            rw [List.getElem?_append_right (by omega)] at ho'
            have := tail2_at (l ++ l2) l2 l.length (i - l.length) o ht ho' j (by omega) (fun q => (listed ++ Array.replicate l2.length false).getD q false = true)
              (fun q o' hq hS e he hbd => by
                have h5 : (listed ++ Array.replicate l2.length false).getD q false = true := hS
                by_cases hql : q < l.length
                · rw [get1 listed q false hs hql] at h5
                  rw [List.getElem?_append_left hql] at hq
                  have h6 := hbl q o' hq e he hbd
                  show (listed ++ Array.replicate l2.length false).getD e.on false = true
                  rw [get1 listed e.on false hs (by omega)]
                  exact hcl q o' hq h5 e he hbd
                · rw [get2 listed q hs (by omega)] at h5
                  cases h5) h3
            rwa [get1 listed j false hs hj] at this
          · rintro ⟨h1, _⟩
            exact absurd (by simpa using h1) hi
      rw [show fuel + 1 + l2.length = (fuel + l2.length) + 1 by omega]
      refine ⟨fun hr => ?_, fun i hi => ?_⟩
      · exfalso
        apply hnr
        rw [List.eq_nil_iff_forall_not_mem]
        intro i hi
        have := (same i).2 hi
        rw [hr] at this; cases this
      · have hi' := (same i).1 hi
        have h' := h.2 i hi'
        obtain ⟨h1, _⟩ := ready_mem.1 hi'
        have hlt : i < l.length := by simpa using h1
        have ho : l.toArray[i]? = some l[i] := by simp [hlt]
        have ho2 : (l ++ l2).toArray[i]? = some l[i] := by simp [List.getElem?_append_left hlt, hlt]
        unfold wpOp at h' ⊢
        rw [ho] at h'
        rw [ho2]
        simp only at h' ⊢
        have hy : Region.wanted l[i] (yielded (l ++ l2).toArray a.tmps) = Region.wanted l[i] (yielded l.toArray a.tmps) := by
          unfold Region.wanted
          cases hgd : (l[i]).guard with
          | none => rfl
          | some gw =>
            obtain ⟨g, want⟩ := gw
            have := List.all_eq_true.1 hg l[i] (List.getElem_mem hlt)
            rw [hgd] at this
            have hgl : g < l.length := by simpa using this
            simp only
            have : yielded (l ++ l2).toArray a.tmps g = yielded l.toArray a.tmps g := by
              unfold yielded
              have : (l ++ l2).toArray[g]? = l.toArray[g]? := by simp [List.getElem?_append_left hgl]
              rw [this]
            rw [this]
        rw [hy]
        have nx : ∀ a w, wpAny P .any l.toArray (Exit.then (fun a w => wpList P (l ++ l2).toArray Q l2 a w) Q) fuel (listed.setIfInBounds i true) a w → wpAny P .any (l ++ l2).toArray Q (fuel + l2.length) ((listed ++ Array.replicate l2.length false).setIfInBounds i true) a w := fun a w hh => by
          have hcl2 : ∀ (q : Nat) (o : Oper), l[q]? = some o → (listed.setIfInBounds i true).getD q false = true → ∀ e ∈ o.after, Region.binds .any e = true → (listed.setIfInBounds i true).getD e.on false = true := fun q o hq hS e he hbd => by
            have up : ∀ j, listed.getD j false = true → (listed.setIfInBounds i true).getD j false = true := fun j hj => by
              by_cases ej : i = j
              · subst ej
                have : i < listed.size := by omega
                simp [Array.getD, this]
              · rw [Array.getD_eq_getD_getElem?, Array.getElem?_setIfInBounds_ne ej, ← Array.getD_eq_getD_getElem?]; exact hj
            by_cases ej : i = q
            · subst ej
              obtain ⟨_, _, o2, ho2', h3⟩ := ready_mem.1 hi'
              have : o2 = o := by
                have h7 : l[i]? = some o2 := by simpa using ho2'
                rw [hq] at h7; exact (Option.some.inj h7).symm
              subst this
              exact up _ (h3 e he hbd)
            · rw [Array.getD_eq_getD_getElem?, Array.getElem?_setIfInBounds_ne ej, ← Array.getD_eq_getD_getElem?] at hS
              exact up _ (hcl q o hq hS e he hbd)
          have := ih (listed.setIfInBounds i true) a w (by simpa using hs) hcl2 hh
          have e : (listed ++ Array.replicate l2.length false).setIfInBounds i true = listed.setIfInBounds i true ++ Array.replicate l2.length false := by
            rw [Array.setIfInBounds_append_left (by omega)]
          rw [e]; exact this
        split
        · rename_i hw
          rw [if_pos hw] at h'
          rcases h' with h' | h'
          · exact .inl (Oper.wp_mono nx (wp_then h'))
          · exact .inr h'
        · rename_i hw
          rw [if_neg hw] at h'
          exact nx _ _ h'
end
theorem fr_draw2 {P : Program} {n id : Nat} {l l2 : List Oper} {outs : List Tmp} {gs : List (Nat × Option Bool)} {bs : List Bool} {a : Act} {w : World} {L : List (Tmp × Value)} {Q : Exit → Act → World → Prop}
    (M : PTab) (W : World → Prop) (R : World → World → Prop)
    (hm : P.follows .mixedOrders = true) (hF : Fr n a L) (hL : (L.all fun p => !(dstsOf l).contains p.1) = true) (hB : calmB l n outs gs bs = true)
    (hT : (backB 0 (l ++ l2) && (guardsB l.length l && tail2B (l ++ l2) l.length l2)) = true)
    (hR : Stable R M) (hG : GuardOk (PTab.E M) W l.toArray gs) (hW : W w.drew) (hO : OutsOk (PTab.E M) a w.drew outs)
    (hA : AllOk (PTab.E M) W R P l bs)
    (hend : ∀ a' w', W w' → (∀ t, (dstsOf l).contains t = true → PTab.E M t (a'.tmps.getD t undef) w') → Fr n a' L → wpList P (l ++ l2).toArray Q l2 a' w') :
    (Code.region id (l ++ l2).toArray true).wp P Q a w := by
  simp only [Bool.and_eq_true] at hT
  obtain ⟨hT1, hT2, hT3⟩ := hT
  refine wp_region_any hm ?_
  have key : wpAny P .any l.toArray (Exit.then (fun a w => wpList P (l ++ l2).toArray Q l2 a w) Q) l.length (Array.replicate l.length false) a w.drew := by
    refine wpAny_calm (E := PTab.E M) (W := W) (R := R) (a0 := a) (outs := outs) (gs := gs) (bs := bs) (by rw [hF.size]; exact hB) (PTab_stable M hR) hG hA ?_ _ _ _ _ (by simp) ?_ ⟨hW, rfl, rfl, fun _ _ => rfl, fun t ht _ => outs_mem outs hO t ht, ?_⟩
    · intro vs w' hw' hE
      have hlt : ∀ t, (dstsOf l).contains t = true → t < a.tmps.size := fun t ht => by
        simp only [calmB, Bool.and_eq_true] at hB
        have := List.all_eq_true.1 hB.1.1.1.2 t (by simpa using ht)
        rw [hF.size]; simpa using this
      have hat : ∀ t, (dstsOf l).contains t = true → (puts a vs (dstsOf l)).tmps.getD t undef = vs t := fun t ht => by
        have := puts_at vs (dstsOf l) a t (hlt t ht)
        rw [if_pos (by simpa using ht)] at this
        rw [Array.getD_eq_getD_getElem?, this]; rfl
      refine hend _ w' hw' (fun t ht => by rw [hat t ht]; exact hE t ht) ⟨by rw [puts_size, hF.size], by rw [puts_defers, hF.defers], fun t v hl => ?_⟩
      have hm : ∃ p ∈ L, p.1 = t := by
        clear hL hO hend
        have : ∀ (L : List (Tmp × Value)), L.lookup t = some v → ∃ p ∈ L, p.1 = t := by
          intro L
          induction L with
          | nil => intro h; simp at h
          | cons x r ih =>
            intro h
            by_cases e : t = x.1
            · exact ⟨x, by simp, e.symm⟩
            · have e' : (t == x.1) = false := beq_false_of_ne e
              rw [List.lookup_cons, e'] at h
              obtain ⟨p, hp, he⟩ := ih h
              exact ⟨p, by simp [hp], he⟩
        exact this L hl
      obtain ⟨p, hp, rfl⟩ := hm
      have hn : ¬ p.1 ∈ dstsOf l := by
        have := List.all_eq_true.1 hL p hp
        simpa using this
      rw [← hF.sl p.1 v hl]
      by_cases hlt' : p.1 < a.tmps.size
      · have := puts_at vs (dstsOf l) a p.1 hlt'
        rw [if_neg hn] at this
        rw [Array.getD_eq_getD_getElem?, Array.getD_eq_getD_getElem?, this]
      · have h9 : a.tmps.size ≤ p.1 := Nat.le_of_not_lt hlt'
        rw [Array.getD_eq_getD_getElem?, Array.getD_eq_getD_getElem?, Array.getElem?_eq_none (by rw [puts_size]; exact h9), Array.getElem?_eq_none h9]
    · simp only [Array.toList_replicate]
      exact Nat.le_trans (List.length_filter_le _ _) (by simp)
    · intro j o t hj hd hl
      simp [Array.getD] at hl
  have := wpAny_tail2 (Q := Q) hT1 hT2 hT3 l.length (Array.replicate l.length false) a w.drew (by simp) (fun q o hq hS => by simp [Array.getD] at hS) key
  have e : (Array.replicate l.length false ++ Array.replicate l2.length false : Array Bool) = Array.replicate (l ++ l2).toArray.size false := by
    simp
  have e2 : l.length + l2.length = (l ++ l2).toArray.size := by simp
  rw [e, e2] at this
  exact this

/-- The same, cut behind the operation k. -/
theorem fr_draw2_k {P : Program} {n id : Nat} {lo : List Oper} {outs : List Tmp} {gs : List (Nat × Option Bool)} {bs : List Bool} {a : Act} {w : World} {L : List (Tmp × Value)} {Q : Exit → Act → World → Prop}
    (k : Nat) (M : PTab) (W : World → Prop) (R : World → World → Prop)
    (hm : P.follows .mixedOrders = true) (hF : Fr n a L) (hL : (L.all fun p => !(dstsOf (lo.take k)).contains p.1) = true) (hB : calmB (lo.take k) n outs gs bs = true)
    (hT : (backB 0 lo && (guardsB (lo.take k).length (lo.take k) && tail2B lo (lo.take k).length (lo.drop k))) = true)
    (hR : Stable R M) (hG : GuardOk (PTab.E M) W (lo.take k).toArray gs) (hW : W w.drew) (hO : OutsOk (PTab.E M) a w.drew outs)
    (hA : AllOk (PTab.E M) W R P (lo.take k) bs)
    (hend : ∀ ops a' w', W w' → (∀ t, (dstsOf (lo.take k)).contains t = true → PTab.E M t (a'.tmps.getD t undef) w') → Fr n a' L → wpList P ops Q (lo.drop k) a' w') :
    (Code.region id lo.toArray true).wp P Q a w := by
  have h := fr_draw2 (id := id) (l := lo.take k) (l2 := lo.drop k) (Q := Q) M W R hm hF hL hB (by rw [List.take_append_drop]; exact hT) hR hG hW hO hA (hend _)
  rwa [List.take_append_drop] at h

end Go.Proofs.Ytmnmnokkojcodab
