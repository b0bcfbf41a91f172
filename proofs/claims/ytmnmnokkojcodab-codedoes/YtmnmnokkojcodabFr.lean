/-
  A walk over a frame that is a letter: of a frame is known how many slots it has and what lies in some of them (a list); a rule for each kind of step. The steps cost by what they read, not by the frame's width. No function of the program is spoken of.
-/
import Derived.Test.YtmnmnokkojcodabCalm
import Derived.Test.YtmnmnokkojcodabCore
namespace Go.Proofs.Ytmnmnokkojcodab
open Go.RowKit
set_option linter.unusedVariables false

/-- What is known of a frame. -/
structure Fr (n : Nat) (a : Act) (L : List (Tmp × Value)) : Prop where
  size : a.tmps.size = n
  defers : a.defers = []
  sl : ∀ t v, L.lookup t = some v → a.tmps.getD t undef = v

section
variable {P : Program} {n : Nat} {a : Act} {L : List (Tmp × Value)} {w w' : World} {Q : Exit → Act → World → Prop} {ops : Array Oper} {o : Oper} {rest : List Oper} {t : Tmp} {v : Value}

theorem Fr.put (h : Fr n a L) (ht : Nat.blt t n = true) : Fr n (a.put (some t) v) ((t, v) :: L) := by
  have ht' : t < n := by simpa [Nat.blt, Nat.ble_eq, Nat.succ_le_iff] using ht
  refine ⟨by simpa [Act.put] using h.size, h.defers, fun s u hs => ?_⟩
  by_cases e : s = t
  · subst e
    simp at hs
    subst hs
    have : s < a.tmps.size := by rw [h.size]; exact ht'
    simp [Act.put, Array.getD, this]
  · have e' : (s == t) = false := by simpa using e
    simp only [List.lookup_cons, e'] at hs
    have := h.sl s u hs
    have hne : t ≠ s := fun x => e x.symm
    rw [Array.getD_eq_getD_getElem?] at this ⊢
    simp only [Act.put]
    rw [Array.getElem?_setIfInBounds_ne hne]
    exact this
theorem Fr.cons (h : Fr n a L) (e : a.tmps.getD t undef = v) : Fr n a ((t, v) :: L) := by
  refine ⟨h.size, h.defers, fun s u hs => ?_⟩
  by_cases e' : s = t
  · subst e'
    simp at hs
    subst hs
    exact e
  · have e'' : (s == t) = false := by simpa using e'
    simp only [List.lookup_cons, e''] at hs
    exact h.sl s u hs
theorem Fr.nil (h : Fr n a L) : Fr n a [] := ⟨h.size, h.defers, fun s u hs => by simp at hs⟩
/-- Kept of what is known: the slot t. -/
theorem Fr.keep {L' : List (Tmp × Value)} (h : Fr n a L) (k : Fr n a L') (e : L.lookup t = some v) : Fr n a ((t, v) :: L') := k.cons (h.sl t v e)

/-- The region's list, and which slot each guard names. -/
theorem fr_region {id : Nat} {l : List Oper} (h : ∀ ops : Array Oper, (∀ g : Nat, (ops[g]?).bind (fun o : Oper => o.dst) = (l[g]?).bind (fun o : Oper => o.dst)) → wpList P ops Q l a w) : (Code.region id l.toArray false).wp P Q a w :=
  wp_region_lit (h _ fun g => by simp)

theorem fr_pure (hF : Fr n a L) (hd : o.dst = some t) (hg : o.guard = none) (ht : Nat.blt t n = true)
    (h : ∀ K : Act → World → Prop, K (a.put (some t) v) w' → o.wp P a w K Q)
    (k : ∀ a', Fr n a' ((t, v) :: L) → wpList P ops Q rest a' w') : wpList P ops Q (o :: rest) a w :=
  wpList_plain hg fun K hK => h K (hK _ _ (k _ (hF.put ht)))
theorem fr_skip (hF : Fr n a L) (hd : o.dst = none) (hg : o.guard = none)
    (h : ∀ K : Act → World → Prop, K a w' → o.wp P a w K Q)
    (k : wpList P ops Q rest a w') : wpList P ops Q (o :: rest) a w :=
  wpList_plain hg fun K hK => h K (hK _ _ k)
theorem fr_call (R : Value → World → Prop) (hF : Fr n a L) (hd : o.dst = some t) (hg : o.guard = none) (ht : Nat.blt t n = true)
    (h : ∀ K : Act → World → Prop, (∀ v w', R v w' → K (a.put (some t) v) w') → o.wp P a w K Q)
    (k : ∀ a' v w', R v w' → Fr n a' ((t, v) :: L) → wpList P ops Q rest a' w') : wpList P ops Q (o :: rest) a w :=
  wpList_plain hg fun K hK => h K fun v w' hR => hK _ _ (k _ _ _ hR (hF.put ht))

/-- Is a guarded operation wanted? -/
theorem wanted_g {g tg : Nat} {want : Bool} {u : Value} (hF : Fr n a L) (hg : o.guard = some (g, want)) (hs : (ops[g]?).bind (fun o : Oper => o.dst) = some tg) (htg : Nat.blt tg n = true) (hv : L.lookup tg = some u) :
    Region.wanted o (yielded ops a.tmps) = (match u with | .bool b => b == want | _ => false) := by
  have htg' : tg < a.tmps.size := by rw [hF.size]; simpa [Nat.blt, Nat.ble_eq, Nat.succ_le_iff] using htg
  have := hF.sl tg u hv
  have hx : a.tmps[tg]? = some u := by rw [← this]; simp [Array.getD, htg']
  simp only [Region.wanted, hg, yielded, hs, Option.bind_some, hx]
  cases u <;> simp
theorem fr_pure_g {g tg : Nat} {want : Bool} (hF : Fr n a L) (hd : o.dst = some t) (hg : o.guard = some (g, want)) (hs : (ops[g]?).bind (fun o : Oper => o.dst) = some tg) (htg : Nat.blt tg n = true) (hv : L.lookup tg = some (.bool want)) (ht : Nat.blt t n = true)
    (h : ∀ K : Act → World → Prop, K (a.put (some t) v) w' → o.wp P a w K Q)
    (k : ∀ a', Fr n a' ((t, v) :: L) → wpList P ops Q rest a' w') : wpList P ops Q (o :: rest) a w :=
  wpList_step fun K hK => by
    rw [wanted_g hF hg hs htg hv]
    simp only [beq_self_eq_true, if_true]
    exact h K (hK _ _ (k _ (hF.put ht)))
theorem fr_call_g {g tg : Nat} {want : Bool} (R : Value → World → Prop) (hF : Fr n a L) (hd : o.dst = some t) (hg : o.guard = some (g, want)) (hs : (ops[g]?).bind (fun o : Oper => o.dst) = some tg) (htg : Nat.blt tg n = true) (hv : L.lookup tg = some (.bool want)) (ht : Nat.blt t n = true)
    (h : ∀ K : Act → World → Prop, (∀ v w', R v w' → K (a.put (some t) v) w') → o.wp P a w K Q)
    (k : ∀ a' v w', R v w' → Fr n a' ((t, v) :: L) → wpList P ops Q rest a' w') : wpList P ops Q (o :: rest) a w :=
  wpList_step fun K hK => by
    rw [wanted_g hF hg hs htg hv]
    simp only [beq_self_eq_true, if_true]
    exact h K fun v w' hR => hK _ _ (k _ _ _ hR (hF.put ht))
theorem fr_off {g tg : Nat} {want : Bool} {u : Value} (hF : Fr n a L) (hd : o.dst = some t) (hg : o.guard = some (g, want)) (hs : (ops[g]?).bind (fun o : Oper => o.dst) = some tg) (htg : Nat.blt tg n = true) (hv : L.lookup tg = some u) (hu : (match u with | .bool b => b == want | _ => false) = false) (ht : Nat.blt t n = true)
    (k : ∀ a', Fr n a' ((t, undef) :: L) → wpList P ops Q rest a' w) : wpList P ops Q (o :: rest) a w :=
  wpList_step fun K hK => by
    rw [wanted_g hF hg hs htg hv, hu]
    simp only [Bool.false_eq_true, if_false, hd]
    exact hK _ _ (k _ (hF.put ht))
/-- Wanted or not: a guard that is a letter, itself reached or not (c). -/
theorem fr_sym {g tg : Nat} {want b c : Bool} (hF : Fr n a L) (hd : o.dst = some t) (hg : o.guard = some (g, want)) (hs : (ops[g]?).bind (fun o : Oper => o.dst) = some tg) (htg : Nat.blt tg n = true) (hv : L.lookup tg = some (bif c then .bool b else undef)) (ht : Nat.blt t n = true)
    (h : c = true → b = want → ∀ K : Act → World → Prop, K (a.put (some t) v) w → o.wp P a w K Q)
    (k : ∀ a', Fr n a' ((t, bif (c && (b == want)) then v else undef) :: L) → wpList P ops Q rest a' w) : wpList P ops Q (o :: rest) a w :=
  wpList_step fun K hK => by
    rw [wanted_g hF hg hs htg hv]
    cases c with
    | false =>
      simp only [cond_false, undef, Bool.false_eq_true, if_false, hd]
      exact hK _ _ (k _ (hF.put ht))
    | true =>
      simp only [cond_true]
      by_cases e : b = want
      · subst e
        simp only [beq_self_eq_true, if_true]
        refine h rfl rfl K (hK _ _ (k _ ?_))
        have := hF.put (v := v) ht
        simpa using this
      · have e' : (b == want) = false := by simpa using e
        simp only [e', Bool.false_eq_true, if_false, hd]
        refine hK _ _ (k _ ?_)
        have := hF.put (v := undef) ht
        simpa [e'] using this

theorem fr_cond {x y : Code} {b : Bool} (hF : Fr n a L) (hv : L.lookup t = some (.bool b)) (ht : b = true → x.wp P Q a w) (hf : b = false → y.wp P Q a w) : (Code.cond (.tmp t) x y).wp P Q a w :=
  wp_cond_split (hF.sl t _ hv) ht hf
theorem fr_true {x y : Code} (hF : Fr n a L) (hv : L.lookup t = some (.bool true)) (h : x.wp P Q a w) : (Code.cond (.tmp t) x y).wp P Q a w := wp_cond_true (hF.sl t _ hv) h
theorem fr_false {x y : Code} (hF : Fr n a L) (hv : L.lookup t = some (.bool false)) (h : y.wp P Q a w) : (Code.cond (.tmp t) x y).wp P Q a w := wp_cond_false (hF.sl t _ hv) h

theorem wpList_append {l1 l2 : List Oper} (h : wpList P ops (Exit.then (fun a w => wpList P ops Q l2 a w) Q) l1 a w) : wpList P ops Q (l1 ++ l2) a w := by
  induction l1 generalizing a w with
  | nil => exact h
  | cons o l ih =>
    simp only [List.cons_append]
    unfold wpList at h ⊢
    split
    · rename_i hw
      rw [if_pos hw] at h
      refine h.imp (fun h => Oper.wp_mono (fun a w h' => ih h') ?_) id
      unfold Oper.wp at *
      generalize (execOp a.eval o).run P w = r at *
      cases r with
      | ok n w' => cases n <;> exact h
      | halt x w' => cases x <;> exact h
    · rename_i hw
      rw [if_neg hw] at h
      exact ih h
/-- A cut behind the first k operations. -/
theorem cut_k {l : List Oper} (k : Nat) (Φ : Act → World → Prop) (h1 : ∀ K : Act → World → Prop, (∀ a w, Φ a w → K a w) → wpList P ops (Exit.then K Q) (l.take k) a w) (h2 : ∀ a w, Φ a w → wpList P ops Q (l.drop k) a w) : wpList P ops Q l a w := by
  have := wpList_append (l1 := l.take k) (l2 := l.drop k) (h1 _ h2)
  rwa [List.take_append_drop] at this
theorem of_then_ret {K : Act → World → Prop} (h : Q .ret a w) : Exit.then K Q .ret a w := h
theorem of_block_ret {id : Nat} (h : Q .ret a w) : Exit.inBlock id Q .ret a w := h

open Classical in
/-- A loop, by a number that goes down. -/
theorem fr_loop {c : Code} (I : Nat → Act → World → Prop) (q : Nat) (h0 : I q a w)
    (round : ∀ q a w, I q a w → ∀ K : Act → World → Prop, (∀ a' w' q', q' < q → I q' a' w' → K a' w') → c.wp P (Exit.then K Q) a w) : (Code.loop c).wp P Q a w := by
  have hex : ∀ {a w}, (∃ q, I q a w) → ∃ q, I q a w ∧ ∀ r, I r a w → q ≤ r := by
    rintro a w ⟨q, hq⟩
    induction q using Nat.strongRecOn with
    | _ q ih =>
      by_cases hl : ∃ r, r < q ∧ I r a w
      · obtain ⟨r, hr, hi⟩ := hl
        exact ih r hr hi
      · exact ⟨q, hq, fun r hr => Nat.le_of_not_lt fun h => hl ⟨r, h, hr⟩⟩
  refine wp_loop (fun a w => ∃ q, I q a w) (fun a w => if h : ∃ q, I q a w then Classical.choose (hex h) else 0) ⟨q, h0⟩ fun a w hI => ?_
  have hs := Classical.choose_spec (hex hI)
  refine round _ a w hs.1 _ fun a' w' q' hq' hI' => ⟨⟨q', hI'⟩, ?_⟩
  have h' : ∃ q, I q a' w' := ⟨q', hI'⟩
  have hs' := Classical.choose_spec (hex h')
  rw [dif_pos h', dif_pos hI]
  exact Nat.lt_of_le_of_lt (hs'.2 q' hI') hq'

/-- A call's beginning: the frame as a letter. -/
theorem fr_enter {f : FuncId} {fn : Func} {c : Code} {args : Array Value} {R : Ending → World → Prop} (hf : P.funcs[f]? = some fn) (hb : fn.body = some c) (hn : fn.ntmps = n) (ha : Nat.ble args.size n = true)
    (h : ∀ a, Fr n a (args.toList.zipIdx.map fun x => (x.2, x.1)) → c.wp P (bodyPost P fn R) a w) : Calls P f args w R := by
  have ha' : args.size ≤ n := by simpa [Nat.ble_eq] using ha
  refine calls_of_wp hf hb (h _ ⟨by simp [hn]; omega, rfl, fun t v hl => ?_⟩)
  have : ∀ (l : List Value) (k t : Nat), ((l.zipIdx k).map fun x => (x.2, x.1)).lookup t = some v → k ≤ t ∧ l[t - k]? = some v := by
    intro l
    induction l with
    | nil => intro k t h; simp at h
    | cons x l ih =>
      intro k t h
      by_cases e : t = k
      · subst e; simp at h; subst h; simp
      · have e' : (t == k) = false := by simpa using e
        simp only [List.zipIdx_cons, List.map_cons, List.lookup_cons, e'] at h
        obtain ⟨h1, h2⟩ := ih (k + 1) t h
        refine ⟨by omega, ?_⟩
        have : t - k = (t - (k + 1)) + 1 := by omega
        rw [this]
        simpa using h2
  obtain ⟨_, h2⟩ := this _ 0 t hl
  simp at h2
  have hlt : t < args.size := (Array.getElem?_eq_some_iff.1 h2).1
  rw [Array.getD_eq_getD_getElem?, Array.getElem?_append_left hlt, h2]
  rfl
end
end Go.Proofs.Ytmnmnokkojcodab
