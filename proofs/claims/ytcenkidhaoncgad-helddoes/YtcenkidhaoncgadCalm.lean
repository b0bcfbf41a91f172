/-
  A region that draws its order and in which nothing that lies in memory is turned (reads, calls, new memory): every order comes to an end of which is known what one rule for each slot says.
-/
import Derived.Orders
import Derived.Below
import Derived.RowKit
namespace Go.Proofs.Ytcenkidhaoncgad
open Go.RowKit

/-- The slots that an operation's operands name. -/
def opTmps (o : Oper) : List Tmp := o.op.operands.toList.filterMap fun | .tmp t => some t | _ => none
def dstsOf (l : List Oper) : List Tmp := l.filterMap (·.dst)

def nodupB : List Tmp → Bool
  | [] => true
  | t :: r => !r.contains t && nodupB r
/-- Wanted or not, by the table of the guards. -/
def onB (gs : List (Nat × Option Bool)) (o : Oper) (b : Bool) : Bool :=
  match o.guard with
  | none => b
  | some (g, want) => match gs.lookup g with
    | some c => b == (c == some want)
    | none => false
def onsB (gs : List (Nat × Option Bool)) : List Oper → List Bool → Bool
  | [], [] => true
  | o :: l, b :: bs => onB gs o b && onsB gs l bs
  | _, _ => false
/-- What an operation looks at is an outer slot, or the slot of one that it waits for. -/
def looksB (ops : Array Oper) (ds outs : List Tmp) (o : Oper) : Bool :=
  (o.looksAt ops).all fun t => (outs.contains t && !ds.contains t) || o.after.any fun e => Region.binds .any e && ((ops[e.on]?).bind (·.dst) == some t)
def backB (i : Nat) : List Oper → Bool
  | [] => true
  | o :: l => (o.after.all fun e => !Region.binds .any e || decide (e.on < i)) && backB (i + 1) l
def calmB (l : List Oper) (n : Nat) (outs : List Tmp) (gs : List (Nat × Option Bool)) (bs : List Bool) : Bool :=
  (gs.all fun g => ((l.toArray[g.1]?).bind (·.dst)).isSome) && nodupB (dstsOf l) && ((dstsOf l).all fun t => decide (t < n)) && (l.all (looksB l.toArray (dstsOf l) outs)) && onsB gs l bs && backB 0 l

section
variable {P : Program} (E : Tmp → Value → World → Prop) (W : World → Prop) (R : World → World → Prop)

def EO : Option Tmp → Value → World → Prop
  | some t => E t
  | none => fun _ _ => True
def Known (a : Act) (w : World) : List Tmp → Prop
  | [] => True
  | t :: r => E t (a.tmps.getD t undef) w ∧ Known a w r
/-- An operation that is carried out. -/
def StepOn (P : Program) (o : Oper) : Prop :=
  ∀ a w, W w → Known E a w (opTmps o) → ∀ K : Act → World → Prop, (∀ v w', R w w' → W w' → EO E o.dst v w' → K (a.put o.dst v) w') → o.wp P a w K (fun _ _ _ => False)
/-- An operation that is passed by. -/
def StepOff (o : Oper) : Prop := ∀ w, W w → EO E o.dst undef w
def AllOk (P : Program) : List Oper → List Bool → Prop
  | o :: l, true :: bs => StepOn E W R P o ∧ AllOk P l bs
  | o :: l, false :: bs => StepOff E W o ∧ AllOk P l bs
  | _, _ => True
/-- What the guards' slots hold. -/
def GuardOk (ops : Array Oper) : List (Nat × Option Bool) → Prop
  | [] => True
  | (g, c) :: r => (∀ t, (ops[g]?).bind (·.dst) = some t → ∀ v w, W w → E t v w → match c with | some b => v = .bool b | none => v = undef) ∧ GuardOk ops r
def OutsOk (a : Act) (w : World) : List Tmp → Prop
  | [] => True
  | t :: r => E t (a.tmps.getD t undef) w ∧ OutsOk a w r
def puts (a : Act) (vs : Tmp → Value) : List Tmp → Act
  | [] => a
  | t :: r => puts (a.put (some t) (vs t)) vs r
end

theorem wpq {P : Program} {o : Oper} {a : Act} {w : World} {K K' : Act → World → Prop} {Q : Exit → Act → World → Prop} (h : ∀ a w, K a w → K' a w)
    (hh : o.wp P a w K (fun _ _ _ => False)) : o.wp P a w K' Q := by
  unfold Oper.wp at *
  generalize (execOp a.eval o).run P w = r at *
  cases r with
  | ok n w' =>
    cases n <;> simp only [Oper.upon] at hh ⊢ <;>
      first
        | exact h _ _ hh
        | exact Calls.mono hh (fun e w'' he => by cases e <;> first | exact h _ _ he | exact he.elim | (obtain ⟨_, _, he⟩ := he; exact he.elim))
        | exact Rows.mono hh (fun _ _ he => h _ _ he)
  | halt x w' => cases x <;> simp only [Oper.upon] at hh ⊢

theorem puts_defers (vs : Tmp → Value) : ∀ (ds : List Tmp) (a : Act), (puts a vs ds).defers = a.defers
  | [], _ => rfl
  | _ :: r, a => by rw [puts, puts_defers vs r]; rfl
theorem puts_size (vs : Tmp → Value) : ∀ (ds : List Tmp) (a : Act), (puts a vs ds).tmps.size = a.tmps.size
  | [], _ => rfl
  | _ :: r, a => by rw [puts, puts_size vs r]; simp [Act.put]
theorem puts_at (vs : Tmp → Value) : ∀ (ds : List Tmp) (a : Act) (t : Nat), t < a.tmps.size → (puts a vs ds).tmps[t]? = if t ∈ ds then some (vs t) else a.tmps[t]?
  | [], _, _, _ => by simp [puts]
  | d :: r, a, t, ht => by
    rw [puts, puts_at vs r _ t (by simpa [Act.put] using ht)]
    by_cases h1 : t ∈ r
    · simp [h1]
    · by_cases h2 : d = t
      · subst h2; simp [h1, Act.put, ht]
      · have : t ≠ d := fun e => h2 e.symm
        simp [h1, this, Act.put, h2]

theorem nodup_apart : ∀ (l : List Oper) (i j : Nat) (oi oj : Oper) (t : Tmp), nodupB (dstsOf l) = true → l[i]? = some oi → l[j]? = some oj → oi.dst = some t → oj.dst = some t → i = j
  | [], _, _, _, _, _, _, hi, _, _, _ => by simp at hi
  | o :: l, i, j, oi, oj, t, h, hi, hj, di, dj => by
    have hh : ∀ {k : Nat} {ok : Oper}, l[k]? = some ok → ok.dst = some t → t ∈ dstsOf l := fun {k ok} hk hd => List.mem_filterMap.2 ⟨ok, List.mem_of_getElem? hk, hd⟩
    have hn : nodupB (dstsOf l) = true := by
      unfold dstsOf at h ⊢
      cases hd : o.dst with
      | none => simpa [List.filterMap_cons, hd] using h
      | some d => simp [hd, nodupB] at h; exact h.2
    have hx : o.dst = some t → t ∉ dstsOf l := fun hd => by
      unfold dstsOf at h ⊢
      simp only [List.filterMap_cons, hd, nodupB, Bool.and_eq_true, Bool.not_eq_true'] at h
      intro hm
      have := h.1
      simp at this
      simp at hm
      obtain ⟨x, hx, he⟩ := hm
      exact this x hx he
    cases i with
    | zero =>
      cases j with
      | zero => rfl
      | succ j => simp at hi hj; subst hi; exact absurd (hh hj dj) (hx di)
    | succ i =>
      cases j with
      | zero => simp at hi hj; subst hj; exact absurd (hh hi di) (hx dj)
      | succ j => simp at hi hj; rw [nodup_apart l i j oi oj t hn hi hj di dj]

section
variable {P : Program} {E : Tmp → Value → World → Prop} {W : World → Prop} {R : World → World → Prop}

theorem known_of {a : Act} {w : World} : ∀ (l : List Tmp), (∀ t ∈ l, E t (a.tmps.getD t undef) w) → Known E a w l
  | [], _ => trivial
  | t :: r, h => ⟨h t (by simp), known_of r fun x hx => h x (by simp [hx])⟩
theorem outs_mem {a : Act} {w : World} : ∀ (l : List Tmp), OutsOk E a w l → ∀ t ∈ l, E t (a.tmps.getD t undef) w
  | [], _, _, h => by simp at h
  | x :: r, h, t, ht => by
    rcases List.mem_cons.1 ht with rfl | ht
    · exact h.1
    · exact outs_mem r h.2 t ht
theorem guard_mem {ops : Array Oper} : ∀ (gs : List (Nat × Option Bool)), GuardOk E W ops gs → ∀ g c, gs.lookup g = some c → ∀ t, (ops[g]?).bind (·.dst) = some t → ∀ v w, W w → E t v w → match c with | some b => v = .bool b | none => v = undef
  | [], _, _, _, h => by simp at h
  | (g', c') :: r, h, g, c, hl => by
    by_cases e : g = g'
    · subst e; simp at hl; subst hl; exact h.1
    · have e' : (g == g') = false := by simpa using e
      simp [List.lookup_cons, e'] at hl; exact guard_mem r h.2 g c hl
theorem mem_of_lookup : ∀ (gs : List (Nat × Option Bool)) (g : Nat) (c : Option Bool), gs.lookup g = some c → (g, c) ∈ gs
  | [], _, _, h => by simp at h
  | (g', c') :: r, g, c, hl => by
    by_cases e : g = g'
    · subst e; simp at hl; subst hl; simp
    · have e' : (g == g') = false := by simpa using e
      simp [List.lookup_cons, e'] at hl; exact List.mem_cons_of_mem _ (mem_of_lookup r g c hl)
theorem filter_set : ∀ (l : List Bool) (i : Nat) (h : i < l.length), l[i] = false → ((l.set i true).filter (· == false)).length + 1 = (l.filter (· == false)).length
  | [], _, h, _ => by simp at h
  | x :: l, 0, _, h => by simp at h; subst h; simp
  | x :: l, i + 1, hi, h => by
    simp at h hi
    have := filter_set l i hi h
    cases x <;> simp at this ⊢ <;> omega
theorem all_at (gs : List (Nat × Option Bool)) : ∀ (l : List Oper) (bs : List Bool), onsB gs l bs = true → AllOk E W R P l bs → ∀ (i : Nat) (o : Oper), l[i]? = some o → (onB gs o true = true ∧ StepOn E W R P o) ∨ (onB gs o false = true ∧ StepOff E W o)
  | [], _, _, _, _, _, h => by simp at h
  | _ :: _, [], h, _, _, _, _ => by simp [onsB] at h
  | x :: l, b :: bs, h, ha, i, o, ho => by
    simp only [onsB, Bool.and_eq_true] at h
    cases i with
    | zero =>
      simp at ho; subst ho
      cases b with
      | true => exact .inl ⟨h.1, ha.1⟩
      | false => exact .inr ⟨h.1, ha.1⟩
    | succ i =>
      simp at ho
      cases b with
      | true => exact all_at gs l bs h.2 ha.2 i o ho
      | false => exact all_at gs l bs h.2 ha.2 i o ho
theorem back_at : ∀ (l : List Oper) (k i : Nat) (o : Oper), backB k l = true → l[i]? = some o → ∀ e ∈ o.after, Region.binds .any e = true → e.on < k + i
  | [], _, _, _, _, h => by simp at h
  | x :: l, k, i, o, h, ho => by
    simp only [backB, Bool.and_eq_true] at h
    cases i with
    | zero =>
      simp at ho; subst ho
      intro e he hb
      have := Array.all_eq_true_iff_forall_mem.1 h.1 e he
      simpa [hb] using this
    | succ i =>
      simp at ho
      intro e he hb
      have := back_at l (k + 1) i o h.2 ho e he hb
      omega

structure Calm (E : Tmp → Value → World → Prop) (W : World → Prop) (l : List Oper) (outs : List Tmp) (a0 : Act) (listed : Array Bool) (a : Act) (w : World) : Prop where
  world : W w
  defers : a.defers = a0.defers
  size : a.tmps.size = a0.tmps.size
  outer : ∀ t, t ∉ dstsOf l → a.tmps[t]? = a0.tmps[t]?
  outs : ∀ t ∈ outs, t ∉ dstsOf l → E t (a.tmps.getD t undef) w
  known : ∀ j o t, l[j]? = some o → o.dst = some t → listed.getD j false = true → E t (a.tmps.getD t undef) w

theorem wpAny_calm {l : List Oper} {outs : List Tmp} {gs : List (Nat × Option Bool)} {bs : List Bool} {a0 : Act} {Q : Exit → Act → World → Prop}
    (hB : calmB l a0.tmps.size outs gs bs = true) (hR : ∀ t v w w', R w w' → E t v w → E t v w') (hG : GuardOk E W l.toArray gs) (hA : AllOk E W R P l bs)
    (hend : ∀ (vs : Tmp → Value) w', W w' → (∀ t, (dstsOf l).contains t = true → E t (vs t) w') → Q .normal (puts a0 vs (dstsOf l)) w') :
    ∀ (fuel : Nat) (listed : Array Bool) (a : Act) (w : World), listed.size = l.length → (listed.toList.filter (· == false)).length ≤ fuel → Calm E W l outs a0 listed a w →
      wpAny P .any l.toArray Q fuel listed a w := by
  simp only [calmB, Bool.and_eq_true] at hB
  obtain ⟨⟨⟨⟨⟨hgd, hnd⟩, hsz⟩, hlk⟩, hon⟩, hbk⟩ := hB
  have fin : ∀ (listed : Array Bool) (a : Act) (w : World), listed.size = l.length → Region.ready .any l.toArray listed = [] → Calm E W l outs a0 listed a w → Q .normal a w := by
    intro listed a w hs hr hc
    have hall : ∀ j, j < l.length → listed.getD j false = true := by
      intro j
      induction j using Nat.strongRecOn with
      | _ j ih =>
        intro hj
        cases hb : listed.getD j false with
        | true => rfl
        | false =>
          exfalso
          have : j ∈ Region.ready .any l.toArray listed := by
            unfold Region.ready
            refine List.mem_filter.2 ⟨by simpa using hj, ?_⟩
            have e1 : listed.getD j true = false := by
              have hj' : j < listed.size := by omega
              simp [Array.getD, hj'] at hb ⊢; exact hb
            have e2 : l.toArray[j]? = some l[j] := by simp [hj]
            rw [e1, e2]
            simp only [Bool.not_false, Bool.true_and, Option.map_some, Option.getD_some]
            rw [Array.all_eq_true_iff_forall_mem]
            intro e he
            cases hbd : Region.binds .any e with
            | false => rfl
            | true =>
              have := back_at l 0 j l[j] hbk (by simp [hj]) e he hbd
              simp only [Bool.not_true, Bool.false_or]
              exact ih e.on (by omega) (by omega)
          rw [hr] at this
          cases this
    have hmem : ∀ t ∈ dstsOf l, E t (a.tmps.getD t undef) w ∧ t < a0.tmps.size := by
      intro t ht
      obtain ⟨o, ho, hd⟩ := List.mem_filterMap.1 ht
      obtain ⟨j, hj⟩ := List.getElem?_of_mem ho
      have hlt : j < l.length := by
        rcases Nat.lt_or_ge j l.length with h | h
        · exact h
        · rw [List.getElem?_eq_none h] at hj; cases hj
      exact ⟨hc.known j o t hj hd (hall j hlt), by simpa using List.all_eq_true.1 hsz t ht⟩
    have he : a = puts a0 (fun t => a.tmps.getD t undef) (dstsOf l) := by
      have e1 : a.tmps = (puts a0 (fun t => a.tmps.getD t undef) (dstsOf l)).tmps := by
        refine Array.ext (by rw [puts_size, hc.size]) fun t h1 h2 => ?_
        have h3 : t < a0.tmps.size := by rw [← hc.size]; exact h1
        have := puts_at (fun t => a.tmps.getD t undef) (dstsOf l) a0 t h3
        rw [Array.getElem?_eq_getElem h2] at this
        by_cases hm : t ∈ dstsOf l
        · rw [if_pos hm] at this
          simp only [Option.some.injEq] at this
          rw [this]; simp [Array.getD, h1]
        · rw [if_neg hm, ← hc.outer t hm, Array.getElem?_eq_getElem h1] at this
          exact (Option.some.inj this).symm
      have e2 : a.defers = (puts a0 (fun t => a.tmps.getD t undef) (dstsOf l)).defers := by rw [puts_defers, hc.defers]
      cases a with
      | mk t d =>
        simp only at e1 e2
        generalize hp : puts a0 (fun x => t.getD x undef) (dstsOf l) = p at e1 e2 ⊢
        cases p; simp only at e1 e2; rw [e1, e2]
    rw [he]
    exact hend _ _ hc.world fun t ht => (hmem t (by simpa using ht)).1
  intro fuel
  induction fuel with
  | zero =>
    intro listed a w hs hf hc
    have hr : Region.ready .any l.toArray listed = [] := by
      rw [List.eq_nil_iff_forall_not_mem]
      intro i hi
      obtain ⟨h1, h2⟩ := List.mem_filter.1 hi
      have hlt : i < l.length := by simpa using h1
      simp only [Bool.and_eq_true, Bool.not_eq_true'] at h2
      have : listed[i]'(by omega) = false := by
        have := h2.1; simp [Array.getD, show i < listed.size by omega] at this; exact this
      have hm : false ∈ listed.toList.filter (· == false) := List.mem_filter.2 ⟨by rw [← this]; simp, by simp⟩
      have := List.length_pos_of_mem hm
      omega
    exact ⟨hr, fin listed a w hs hr hc⟩
  | succ fuel ih =>
    intro listed a w hs hf hc
    refine ⟨fun hr => fin listed a w hs hr hc, fun i hi => ?_⟩
    obtain ⟨h1, h2⟩ := List.mem_filter.1 hi
    have hlt : i < l.length := by simpa using h1
    simp only [Bool.and_eq_true, Bool.not_eq_true'] at h2
    obtain ⟨hun, hdone⟩ := h2
    have hil : i < listed.size := by omega
    have hun' : listed[i] = false := by simp [Array.getD, hil] at hun; exact hun
    have ho : l.toArray[i]? = some l[i] := by simp [hlt]
    have ho' : l[i]? = some l[i] := by simp [hlt]
    generalize hoo : l[i] = o at ho ho'
    rw [ho] at hdone
    simp only [Option.map_some, Option.getD_some] at hdone
    rw [Array.all_eq_true_iff_forall_mem] at hdone
    have hlooks : ∀ t ∈ o.looksAt l.toArray, E t (a.tmps.getD t undef) w := by
      intro t ht
      have := List.all_eq_true.1 (List.all_eq_true.1 hlk o (List.mem_of_getElem? ho')) t ht
      rw [Bool.or_eq_true] at this
      rcases this with h | h
      · simp only [Bool.and_eq_true, Bool.not_eq_true'] at h
        exact hc.outs t (by simpa using h.1) (by simpa using h.2)
      · obtain ⟨k, hk, h⟩ := Array.any_eq_true.1 h
        simp only [Bool.and_eq_true, beq_iff_eq] at h
        obtain ⟨hb, hd⟩ := h
        have hl := hdone _ (Array.getElem_mem hk)
        rw [hb] at hl
        simp only [Bool.not_true, Bool.false_or] at hl
        generalize o.after[k] = e at *
        obtain ⟨oj, hoj, hdj⟩ := Option.bind_eq_some_iff.1 hd
        exact hc.known e.on oj t (by simpa using hoj) hdj hl
    have hkn : Known E a w (opTmps o) := known_of _ fun t ht => hlooks t (by
      unfold Oper.looksAt; exact List.mem_append_left _ ht)
    have hw : ∀ b, onB gs o b = true → Region.wanted o (yielded l.toArray a.tmps) = b := by
      intro b hb
      unfold onB at hb
      unfold Region.wanted
      cases hg : o.guard with
      | none => rw [hg] at hb; simp only at hb ⊢; exact hb.symm
      | some gw =>
        obtain ⟨g, want⟩ := gw
        rw [hg] at hb
        simp only at hb ⊢
        cases hl : gs.lookup g with
        | none => rw [hl] at hb; cases hb
        | some c =>
          rw [hl] at hb
          simp only [beq_iff_eq] at hb
          have hy : yielded l.toArray a.tmps g = c := by
            unfold yielded
            have hmg : (g, c) ∈ gs := mem_of_lookup gs g c hl
            have hsome := List.all_eq_true.1 hgd _ hmg
            cases hd : (l.toArray[g]?).bind (·.dst) with
            | none => rw [hd] at hsome; cases hsome
            | some t =>
              have hE := hlooks t (by unfold Oper.looksAt; rw [hg]; simp only [hd]; simp)
              have hv := guard_mem gs hG g c hl t hd _ _ hc.world hE
              obtain ⟨og, hog, hdg⟩ := Option.bind_eq_some_iff.1 hd
              have htl : t < a.tmps.size := by
                rw [hc.size]
                have := List.all_eq_true.1 hsz t (List.mem_filterMap.2 ⟨og, List.mem_of_getElem? (by simpa using hog), hdg⟩)
                simpa using this
              have ht : a.tmps[t]? = some (a.tmps.getD t undef) := by simp [Array.getD, htl]
              simp only [Option.bind_some, ht]
              cases c with
              | none => simp only at hv; rw [hv]; rfl
              | some b => simp only at hv; rw [hv]
          rw [hy, hb]
    have hlen : ((listed.setIfInBounds i true).toList.filter (· == false)).length ≤ fuel := by
      have h3 := filter_set listed.toList i (by simpa using hil) (by simpa using hun')
      rw [Array.toList_setIfInBounds]
      omega
    have next : ∀ v w', W w' → (∀ t v, E t v w → E t v w') → EO E o.dst v w' → Calm E W l outs a0 (listed.setIfInBounds i true) (a.put o.dst v) w' := by
      intro v w' hw' hst hv
      have hput : ∀ t, o.dst ≠ some t → (a.put o.dst v).tmps[t]? = a.tmps[t]? := by
        intro t ht
        cases hd : o.dst with
        | none => rfl
        | some d =>
          have : d ≠ t := fun e => ht (by rw [hd, e])
          simp [Act.put, this]
      have hgetD : ∀ (b c : Array Value) (t : Nat), b[t]? = c[t]? → b.getD t undef = c.getD t undef := by
        intro b c t h
        rw [Array.getD_eq_getD_getElem?, Array.getD_eq_getD_getElem?, h]
      refine ⟨hw', ?_, ?_, ?_, ?_, ?_⟩
      · rw [← hc.defers]; cases o.dst <;> rfl
      · rw [← hc.size]; cases o.dst <;> simp [Act.put]
      · intro t ht
        rw [hput t (fun e => ht (List.mem_filterMap.2 ⟨o, List.mem_of_getElem? ho', e⟩)), hc.outer t ht]
      · intro t ht hn
        rw [hgetD _ _ t (hput t (fun e => hn (List.mem_filterMap.2 ⟨o, List.mem_of_getElem? ho', e⟩)))]
        exact hst _ _ (hc.outs t ht hn)
      · intro j oj t hj hd hlj
        by_cases hji : j = i
        · subst hji
          rw [ho'] at hj
          obtain rfl := Option.some.inj hj
          have htl : t < a.tmps.size := by
            rw [hc.size]
            have := List.all_eq_true.1 hsz t (List.mem_filterMap.2 ⟨o, List.mem_of_getElem? ho', hd⟩)
            simpa using this
          rw [hd] at hv ⊢
          have : (a.put (some t) v).tmps.getD t undef = v := by simp [Act.put, Array.getD, htl]
          rw [this]; exact hv
        · have hne : o.dst ≠ some t := fun e => hji (nodup_apart l j i oj o t hnd hj ho' hd e)
          rw [hgetD _ _ t (hput t hne)]
          refine hst _ _ (hc.known j oj t hj hd ?_)
          have hne' : i ≠ j := fun e => hji e.symm
          rw [Array.getD_eq_getD_getElem?, Array.getElem?_setIfInBounds_ne hne'] at hlj
          rw [Array.getD_eq_getD_getElem?]; exact hlj
    unfold wpOp
    rw [ho]
    simp only
    rcases all_at gs l bs hon hA i o ho' with ⟨h, hst⟩ | ⟨h, hst⟩
    · rw [hw true h, if_pos rfl]
      refine .inl (wpq (fun a' w' hh => hh) (hst a w hc.world hkn _ fun v w' hr hw' hv => ?_))
      exact ih _ _ _ (by simpa using hs) hlen (next v w' hw' (fun t v he => hR t v w w' hr he) hv)
    · rw [hw false h]
      simp only [Bool.false_eq_true, if_false]
      exact ih _ _ _ (by simpa using hs) hlen (next undef w hc.world (fun _ _ h => h) (hst w hc.world))

theorem calmB_mono {l : List Oper} {n m : Nat} {outs : List Tmp} {gs : List (Nat × Option Bool)} {bs : List Bool} (h : n ≤ m) (hB : calmB l n outs gs bs = true) : calmB l m outs gs bs = true := by
  simp only [calmB, Bool.and_eq_true] at hB ⊢
  obtain ⟨⟨⟨⟨⟨h1, h2⟩, h3⟩, h4⟩, h5⟩, h6⟩ := hB
  refine ⟨⟨⟨⟨⟨h1, h2⟩, ?_⟩, h4⟩, h5⟩, h6⟩
  rw [List.all_eq_true] at h3 ⊢
  intro t ht
  have h7 : t < n := by simpa using h3 t ht
  have h8 : t < m := Nat.lt_of_lt_of_le h7 h
  simpa using h8

/-- The rule. -/
theorem wp_region_calm {id : Nat} {l : List Oper} {outs : List Tmp} {gs : List (Nat × Option Bool)} {bs : List Bool} {a : Act} {w : World} {Q : Exit → Act → World → Prop}
    (E : Tmp → Value → World → Prop) (W : World → Prop) (R : World → World → Prop)
    (hm : P.follows .mixedOrders = true) {n m : Nat} (hn : a.tmps.size = m) (hnm : n ≤ m) (hB : calmB l n outs gs bs = true)
    (hR : ∀ t v w w', R w w' → E t v w → E t v w') (hG : GuardOk E W l.toArray gs) (hW : W w.drew) (hO : OutsOk E a w.drew outs)
    (hA : AllOk E W R P l bs)
    (hend : ∀ (vs : Tmp → Value) w', W w' → (∀ t, (dstsOf l).contains t = true → E t (vs t) w') → Q .normal (puts a vs (dstsOf l)) w') :
    (Code.region id l.toArray true).wp P Q a w := by
  refine wp_region_any hm ?_
  refine wpAny_calm (calmB_mono (hn ▸ hnm) hB) hR hG hA hend _ _ _ _ (by simp) ?_ ⟨hW, rfl, rfl, fun _ _ => rfl, fun t ht _ => outs_mem outs hO t ht, ?_⟩
  · simp only [Array.toList_replicate]
    exact Nat.le_trans (List.length_filter_le _ _) (by simp)
  · intro j o t hj hd hl
    simp [Array.getD] at hl
end
end Go.Proofs.Ytcenkidhaoncgad
