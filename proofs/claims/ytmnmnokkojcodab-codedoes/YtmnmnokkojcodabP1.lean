import Derived.Orders
import Derived.Below
import Derived.RowKit
import Derived.Test.YtmnmnokkojcodabRows
import Derived.WalkKit
import Derived.WalkLawsBesides
import Derived.ProofKit
import Derived.OpenShut
import Derived.Deep.OwnRows
import Derived.Deep.AppendLies
import Derived.Deep.Draws
import Derived.Deep.Slices
import Derived.Deep.Strs
import Derived.ChangeOld
import Derived.Deep.QuietTactic
import Derived.Deep.DeepCutAuto
import Derived.Deep.CutBlock
import Derived.Deep.MidRow
import Derived.Deep.RegionWith
/-
  A region that draws its order and in which nothing that lies in memory is turned (reads, calls, new memory): every order comes to an end of which is known what one rule for each slot says.
-/
namespace Go.Proofs.Ytmnmnokkojcodab
open Go.RowKit

/-- The slots that an operation's operands name. -/
def opTmps (o : Oper) : List Tmp := o.op.operands.toList.filterMap fun | .tmp t => some t | _ => none
def dstsOf (l : List Oper) : List Tmp := l.filterMap (·.dst)

def nodupB : List Tmp → Bool
  | [] => true
  | t :: r => !r.contains t && nodupB r
/-- Wanted or not, by the table of the guards. -/
def onB (gs : List (Nat × Option Bool)) (o : Oper) (b : Bool) : Bool :=
  match o.guard with
  | none => b
  | some (g, want) => match gs.lookup g with
    | some c => b == (c == some want)
    | none => false
def onsB (gs : List (Nat × Option Bool)) : List Oper → List Bool → Bool
  | [], [] => true
  | o :: l, b :: bs => onB gs o b && onsB gs l bs
  | _, _ => false
/-- What an operation looks at is an outer slot, or the slot of one that it waits for. -/
def looksB (ops : Array Oper) (ds outs : List Tmp) (o : Oper) : Bool :=
  (o.looksAt ops).all fun t => (outs.contains t && !ds.contains t) || o.after.any fun e => Region.binds .any e && ((ops[e.on]?).bind (·.dst) == some t)
def backB (i : Nat) : List Oper → Bool
  | [] => true
  | o :: l => (o.after.all fun e => !Region.binds .any e || decide (e.on < i)) && backB (i + 1) l
def calmB (l : List Oper) (n : Nat) (outs : List Tmp) (gs : List (Nat × Option Bool)) (bs : List Bool) : Bool :=
  (gs.all fun g => ((l.toArray[g.1]?).bind (·.dst)).isSome) && nodupB (dstsOf l) && ((dstsOf l).all fun t => decide (t < n)) && (l.all (looksB l.toArray (dstsOf l) outs)) && onsB gs l bs && backB 0 l

section
variable {P : Program} (E : Tmp → Value → World → Prop) (W : World → Prop) (R : World → World → Prop)

def EO : Option Tmp → Value → World → Prop
  | some t => E t
  | none => fun _ _ => True
def Known (a : Act) (w : World) : List Tmp → Prop
  | [] => True
  | t :: r => E t (a.tmps.getD t undef) w ∧ Known a w r
/-- An operation that is carried out. -/
def StepOn (P : Program) (o : Oper) : Prop :=
  ∀ a w, W w → Known E a w (opTmps o) → ∀ K : Act → World → Prop, (∀ v w', R w w' → W w' → EO E o.dst v w' → K (a.put o.dst v) w') → o.wp P a w K (fun _ _ _ => False)
/-- An operation that is passed by. -/
def StepOff (o : Oper) : Prop := ∀ w, W w → EO E o.dst undef w
def AllOk (P : Program) : List Oper → List Bool → Prop
  | o :: l, true :: bs => StepOn E W R P o ∧ AllOk P l bs
  | o :: l, false :: bs => StepOff E W o ∧ AllOk P l bs
  | _, _ => True
/-- What the guards' slots hold. -/
def GuardOk (ops : Array Oper) : List (Nat × Option Bool) → Prop
  | [] => True
  | (g, c) :: r => (∀ t, (ops[g]?).bind (·.dst) = some t → ∀ v w, W w → E t v w → match c with | some b => v = .bool b | none => v = undef) ∧ GuardOk ops r
def OutsOk (a : Act) (w : World) : List Tmp → Prop
  | [] => True
  | t :: r => E t (a.tmps.getD t undef) w ∧ OutsOk a w r
def puts (a : Act) (vs : Tmp → Value) : List Tmp → Act
  | [] => a
  | t :: r => puts (a.put (some t) (vs t)) vs r
end

theorem wpq {P : Program} {o : Oper} {a : Act} {w : World} {K K' : Act → World → Prop} {Q : Exit → Act → World → Prop} (h : ∀ a w, K a w → K' a w)
    (hh : o.wp P a w K (fun _ _ _ => False)) : o.wp P a w K' Q := by
  unfold Oper.wp at *
  generalize (execOp a.eval o).run P w = r at *
  cases r with
  | ok n w' =>
    cases n <;> simp only [Oper.upon] at hh ⊢ <;>
      first
        | exact h _ _ hh
        | exact Calls.mono hh (fun e w'' he => by cases e <;> first | exact h _ _ he | exact he.elim | (obtain ⟨_, _, he⟩ := he; exact he.elim))
        | exact Rows.mono hh (fun _ _ he => h _ _ he)
  | halt x w' => cases x <;> simp only [Oper.upon] at hh ⊢

theorem puts_defers (vs : Tmp → Value) : ∀ (ds : List Tmp) (a : Act), (puts a vs ds).defers = a.defers
  | [], _ => rfl
  | _ :: r, a => by rw [puts, puts_defers vs r]; rfl
theorem puts_size (vs : Tmp → Value) : ∀ (ds : List Tmp) (a : Act), (puts a vs ds).tmps.size = a.tmps.size
  | [], _ => rfl
  | _ :: r, a => by rw [puts, puts_size vs r]; simp [Act.put]
theorem puts_at (vs : Tmp → Value) : ∀ (ds : List Tmp) (a : Act) (t : Nat), t < a.tmps.size → (puts a vs ds).tmps[t]? = if t ∈ ds then some (vs t) else a.tmps[t]?
  | [], _, _, _ => by simp [puts]
  | d :: r, a, t, ht => by
    rw [puts, puts_at vs r _ t (by simpa [Act.put] using ht)]
    by_cases h1 : t ∈ r
    · simp [h1]
    · by_cases h2 : d = t
      · subst h2; simp [h1, Act.put, ht]
      · have : t ≠ d := fun e => h2 e.symm
        simp [h1, this, Act.put, h2]

theorem nodup_apart : ∀ (l : List Oper) (i j : Nat) (oi oj : Oper) (t : Tmp), nodupB (dstsOf l) = true → l[i]? = some oi → l[j]? = some oj → oi.dst = some t → oj.dst = some t → i = j
  | [], _, _, _, _, _, _, hi, _, _, _ => by simp at hi
  | o :: l, i, j, oi, oj, t, h, hi, hj, di, dj => by
    have hh : ∀ {k : Nat} {ok : Oper}, l[k]? = some ok → ok.dst = some t → t ∈ dstsOf l := fun {k ok} hk hd => List.mem_filterMap.2 ⟨ok, List.mem_of_getElem? hk, hd⟩
    have hn : nodupB (dstsOf l) = true := by
      unfold dstsOf at h ⊢
      cases hd : o.dst with
      | none => simpa [List.filterMap_cons, hd] using h
      | some d => simp [hd, nodupB] at h; exact h.2
    have hx : o.dst = some t → t ∉ dstsOf l := fun hd => by
      unfold dstsOf at h ⊢
      simp only [List.filterMap_cons, hd, nodupB, Bool.and_eq_true, Bool.not_eq_true'] at h
      intro hm
      have := h.1
      simp at this
      simp at hm
      obtain ⟨x, hx, he⟩ := hm
      exact this x hx he
    cases i with
    | zero =>
      cases j with
      | zero => rfl
      | succ j => simp at hi hj; subst hi; exact absurd (hh hj dj) (hx di)
    | succ i =>
      cases j with
      | zero => simp at hi hj; subst hj; exact absurd (hh hi di) (hx dj)
      | succ j => simp at hi hj; rw [nodup_apart l i j oi oj t hn hi hj di dj]

section
variable {P : Program} {E : Tmp → Value → World → Prop} {W : World → Prop} {R : World → World → Prop}

theorem known_of {a : Act} {w : World} : ∀ (l : List Tmp), (∀ t ∈ l, E t (a.tmps.getD t undef) w) → Known E a w l
  | [], _ => trivial
  | t :: r, h => ⟨h t (by simp), known_of r fun x hx => h x (by simp [hx])⟩
theorem outs_mem {a : Act} {w : World} : ∀ (l : List Tmp), OutsOk E a w l → ∀ t ∈ l, E t (a.tmps.getD t undef) w
  | [], _, _, h => by simp at h
  | x :: r, h, t, ht => by
    rcases List.mem_cons.1 ht with rfl | ht
    · exact h.1
    · exact outs_mem r h.2 t ht
theorem guard_mem {ops : Array Oper} : ∀ (gs : List (Nat × Option Bool)), GuardOk E W ops gs → ∀ g c, gs.lookup g = some c → ∀ t, (ops[g]?).bind (·.dst) = some t → ∀ v w, W w → E t v w → match c with | some b => v = .bool b | none => v = undef
  | [], _, _, _, h => by simp at h
  | (g', c') :: r, h, g, c, hl => by
    by_cases e : g = g'
    · subst e; simp at hl; subst hl; exact h.1
    · have e' : (g == g') = false := by simpa using e
      simp [List.lookup_cons, e'] at hl; exact guard_mem r h.2 g c hl
theorem mem_of_lookup : ∀ (gs : List (Nat × Option Bool)) (g : Nat) (c : Option Bool), gs.lookup g = some c → (g, c) ∈ gs
  | [], _, _, h => by simp at h
  | (g', c') :: r, g, c, hl => by
    by_cases e : g = g'
    · subst e; simp at hl; subst hl; simp
    · have e' : (g == g') = false := by simpa using e
      simp [List.lookup_cons, e'] at hl; exact List.mem_cons_of_mem _ (mem_of_lookup r g c hl)
theorem filter_set : ∀ (l : List Bool) (i : Nat) (h : i < l.length), l[i] = false → ((l.set i true).filter (· == false)).length + 1 = (l.filter (· == false)).length
  | [], _, h, _ => by simp at h
  | x :: l, 0, _, h => by simp at h; subst h; simp
  | x :: l, i + 1, hi, h => by
    simp at h hi
    have := filter_set l i hi h
    cases x <;> simp at this ⊢ <;> omega
theorem all_at (gs : List (Nat × Option Bool)) : ∀ (l : List Oper) (bs : List Bool), onsB gs l bs = true → AllOk E W R P l bs → ∀ (i : Nat) (o : Oper), l[i]? = some o → (onB gs o true = true ∧ StepOn E W R P o) ∨ (onB gs o false = true ∧ StepOff E W o)
  | [], _, _, _, _, _, h => by simp at h
  | _ :: _, [], h, _, _, _, _ => by simp [onsB] at h
  | x :: l, b :: bs, h, ha, i, o, ho => by
    simp only [onsB, Bool.and_eq_true] at h
    cases i with
    | zero =>
      simp at ho; subst ho
      cases b with
      | true => exact .inl ⟨h.1, ha.1⟩
      | false => exact .inr ⟨h.1, ha.1⟩
    | succ i =>
      simp at ho
      cases b with
      | true => exact all_at gs l bs h.2 ha.2 i o ho
      | false => exact all_at gs l bs h.2 ha.2 i o ho
theorem back_at : ∀ (l : List Oper) (k i : Nat) (o : Oper), backB k l = true → l[i]? = some o → ∀ e ∈ o.after, Region.binds .any e = true → e.on < k + i
  | [], _, _, _, _, h => by simp at h
  | x :: l, k, i, o, h, ho => by
    simp only [backB, Bool.and_eq_true] at h
    cases i with
    | zero =>
      simp at ho; subst ho
      intro e he hb
      have := Array.all_eq_true_iff_forall_mem.1 h.1 e he
      simpa [hb] using this
    | succ i =>
      simp at ho
      intro e he hb
      have := back_at l (k + 1) i o h.2 ho e he hb
      omega

structure Calm (E : Tmp → Value → World → Prop) (W : World → Prop) (l : List Oper) (outs : List Tmp) (a0 : Act) (listed : Array Bool) (a : Act) (w : World) : Prop where
  world : W w
  defers : a.defers = a0.defers
  size : a.tmps.size = a0.tmps.size
  outer : ∀ t, t ∉ dstsOf l → a.tmps[t]? = a0.tmps[t]?
  outs : ∀ t ∈ outs, t ∉ dstsOf l → E t (a.tmps.getD t undef) w
  known : ∀ j o t, l[j]? = some o → o.dst = some t → listed.getD j false = true → E t (a.tmps.getD t undef) w

theorem wpAny_calm {l : List Oper} {outs : List Tmp} {gs : List (Nat × Option Bool)} {bs : List Bool} {a0 : Act} {Q : Exit → Act → World → Prop}
    (hB : calmB l a0.tmps.size outs gs bs = true) (hR : ∀ t v w w', R w w' → E t v w → E t v w') (hG : GuardOk E W l.toArray gs) (hA : AllOk E W R P l bs)
    (hend : ∀ (vs : Tmp → Value) w', W w' → (∀ t, (dstsOf l).contains t = true → E t (vs t) w') → Q .normal (puts a0 vs (dstsOf l)) w') :
    ∀ (fuel : Nat) (listed : Array Bool) (a : Act) (w : World), listed.size = l.length → (listed.toList.filter (· == false)).length ≤ fuel → Calm E W l outs a0 listed a w →
      wpAny P .any l.toArray Q fuel listed a w := by
  simp only [calmB, Bool.and_eq_true] at hB
  obtain ⟨⟨⟨⟨⟨hgd, hnd⟩, hsz⟩, hlk⟩, hon⟩, hbk⟩ := hB
  have fin : ∀ (listed : Array Bool) (a : Act) (w : World), listed.size = l.length → Region.ready .any l.toArray listed = [] → Calm E W l outs a0 listed a w → Q .normal a w := by
    intro listed a w hs hr hc
    have hall : ∀ j, j < l.length → listed.getD j false = true := by
      intro j
      induction j using Nat.strongRecOn with
      | _ j ih =>
        intro hj
        cases hb : listed.getD j false with
        | true => rfl
        | false =>
          exfalso
          have : j ∈ Region.ready .any l.toArray listed := by
            unfold Region.ready
            refine List.mem_filter.2 ⟨by simpa using hj, ?_⟩
            have e1 : listed.getD j true = false := by
              have hj' : j < listed.size := by omega
              simp [Array.getD, hj'] at hb ⊢; exact hb
            have e2 : l.toArray[j]? = some l[j] := by simp [hj]
            rw [e1, e2]
            simp only [Bool.not_false, Bool.true_and, Option.map_some, Option.getD_some]
            rw [Array.all_eq_true_iff_forall_mem]
            intro e he
            cases hbd : Region.binds .any e with
            | false => rfl
            | true =>
              have := back_at l 0 j l[j] hbk (by simp [hj]) e he hbd
              simp only [Bool.not_true, Bool.false_or]
              exact ih e.on (by omega) (by omega)
          rw [hr] at this
          cases this
    have hmem : ∀ t ∈ dstsOf l, E t (a.tmps.getD t undef) w ∧ t < a0.tmps.size := by
      intro t ht
      obtain ⟨o, ho, hd⟩ := List.mem_filterMap.1 ht
      obtain ⟨j, hj⟩ := List.getElem?_of_mem ho
      have hlt : j < l.length := by
        rcases Nat.lt_or_ge j l.length with h | h
        · exact h
        · rw [List.getElem?_eq_none h] at hj; cases hj
      exact ⟨hc.known j o t hj hd (hall j hlt), by simpa using List.all_eq_true.1 hsz t ht⟩
    have he : a = puts a0 (fun t => a.tmps.getD t undef) (dstsOf l) := by
      have e1 : a.tmps = (puts a0 (fun t => a.tmps.getD t undef) (dstsOf l)).tmps := by
        refine Array.ext (by rw [puts_size, hc.size]) fun t h1 h2 => ?_
        have h3 : t < a0.tmps.size := by rw [← hc.size]; exact h1
        have := puts_at (fun t => a.tmps.getD t undef) (dstsOf l) a0 t h3
        rw [Array.getElem?_eq_getElem h2] at this
        by_cases hm : t ∈ dstsOf l
        · rw [if_pos hm] at this
          simp only [Option.some.injEq] at this
          rw [this]; simp [Array.getD, h1]
        · rw [if_neg hm, ← hc.outer t hm, Array.getElem?_eq_getElem h1] at this
          exact (Option.some.inj this).symm
      have e2 : a.defers = (puts a0 (fun t => a.tmps.getD t undef) (dstsOf l)).defers := by rw [puts_defers, hc.defers]
      cases a with
      | mk t d =>
        simp only at e1 e2
        generalize hp : puts a0 (fun x => t.getD x undef) (dstsOf l) = p at e1 e2 ⊢
        cases p; simp only at e1 e2; rw [e1, e2]
    rw [he]
    exact hend _ _ hc.world fun t ht => (hmem t (by simpa using ht)).1
  intro fuel
  induction fuel with
  | zero =>
    intro listed a w hs hf hc
    have hr : Region.ready .any l.toArray listed = [] := by
      rw [List.eq_nil_iff_forall_not_mem]
      intro i hi
      obtain ⟨h1, h2⟩ := List.mem_filter.1 hi
      have hlt : i < l.length := by simpa using h1
      simp only [Bool.and_eq_true, Bool.not_eq_true'] at h2
      have : listed[i]'(by omega) = false := by
        have := h2.1; simp [Array.getD, show i < listed.size by omega] at this; exact this
      have hm : false ∈ listed.toList.filter (· == false) := List.mem_filter.2 ⟨by rw [← this]; simp, by simp⟩
      have := List.length_pos_of_mem hm
      omega
    exact ⟨hr, fin listed a w hs hr hc⟩
  | succ fuel ih =>
    intro listed a w hs hf hc
    refine ⟨fun hr => fin listed a w hs hr hc, fun i hi => ?_⟩
    obtain ⟨h1, h2⟩ := List.mem_filter.1 hi
    have hlt : i < l.length := by simpa using h1
    simp only [Bool.and_eq_true, Bool.not_eq_true'] at h2
    obtain ⟨hun, hdone⟩ := h2
    have hil : i < listed.size := by omega
    have hun' : listed[i] = false := by simp [Array.getD, hil] at hun; exact hun
    have ho : l.toArray[i]? = some l[i] := by simp [hlt]
    have ho' : l[i]? = some l[i] := by simp [hlt]
    generalize hoo : l[i] = o at ho ho'
    rw [ho] at hdone
    simp only [Option.map_some, Option.getD_some] at hdone
    rw [Array.all_eq_true_iff_forall_mem] at hdone
    have hlooks : ∀ t ∈ o.looksAt l.toArray, E t (a.tmps.getD t undef) w := by
      intro t ht
      have := List.all_eq_true.1 (List.all_eq_true.1 hlk o (List.mem_of_getElem? ho')) t ht
      rw [Bool.or_eq_true] at this
      rcases this with h | h
      · simp only [Bool.and_eq_true, Bool.not_eq_true'] at h
        exact hc.outs t (by simpa using h.1) (by simpa using h.2)
      · obtain ⟨k, hk, h⟩ := Array.any_eq_true.1 h
        simp only [Bool.and_eq_true, beq_iff_eq] at h
        obtain ⟨hb, hd⟩ := h
        have hl := hdone _ (Array.getElem_mem hk)
        rw [hb] at hl
        simp only [Bool.not_true, Bool.false_or] at hl
        generalize o.after[k] = e at *
        obtain ⟨oj, hoj, hdj⟩ := Option.bind_eq_some_iff.1 hd
        exact hc.known e.on oj t (by simpa using hoj) hdj hl
    have hkn : Known E a w (opTmps o) := known_of _ fun t ht => hlooks t (by
      unfold Oper.looksAt; exact List.mem_append_left _ ht)
    have hw : ∀ b, onB gs o b = true → Region.wanted o (yielded l.toArray a.tmps) = b := by
      intro b hb
      unfold onB at hb
      unfold Region.wanted
      cases hg : o.guard with
      | none => rw [hg] at hb; simp only at hb ⊢; exact hb.symm
      | some gw =>
        obtain ⟨g, want⟩ := gw
        rw [hg] at hb
        simp only at hb ⊢
        cases hl : gs.lookup g with
        | none => rw [hl] at hb; cases hb
        | some c =>
          rw [hl] at hb
          simp only [beq_iff_eq] at hb
          have hy : yielded l.toArray a.tmps g = c := by
            unfold yielded
            have hmg : (g, c) ∈ gs := mem_of_lookup gs g c hl
            have hsome := List.all_eq_true.1 hgd _ hmg
            cases hd : (l.toArray[g]?).bind (·.dst) with
            | none => rw [hd] at hsome; cases hsome
            | some t =>
              have hE := hlooks t (by unfold Oper.looksAt; rw [hg]; simp only [hd]; simp)
              have hv := guard_mem gs hG g c hl t hd _ _ hc.world hE
              obtain ⟨og, hog, hdg⟩ := Option.bind_eq_some_iff.1 hd
              have htl : t < a.tmps.size := by
                rw [hc.size]
                have := List.all_eq_true.1 hsz t (List.mem_filterMap.2 ⟨og, List.mem_of_getElem? (by simpa using hog), hdg⟩)
                simpa using this
              have ht : a.tmps[t]? = some (a.tmps.getD t undef) := by simp [Array.getD, htl]
              simp only [Option.bind_some, ht]
              cases c with
              | none => simp only at hv; rw [hv]; rfl
              | some b => simp only at hv; rw [hv]
          rw [hy, hb]
    have hlen : ((listed.setIfInBounds i true).toList.filter (· == false)).length ≤ fuel := by
      have h3 := filter_set listed.toList i (by simpa using hil) (by simpa using hun')
      rw [Array.toList_setIfInBounds]
      omega
    have next : ∀ v w', W w' → (∀ t v, E t v w → E t v w') → EO E o.dst v w' → Calm E W l outs a0 (listed.setIfInBounds i true) (a.put o.dst v) w' := by
      intro v w' hw' hst hv
      have hput : ∀ t, o.dst ≠ some t → (a.put o.dst v).tmps[t]? = a.tmps[t]? := by
        intro t ht
        cases hd : o.dst with
        | none => rfl
        | some d =>
          have : d ≠ t := fun e => ht (by rw [hd, e])
          simp [Act.put, this]
      have hgetD : ∀ (b c : Array Value) (t : Nat), b[t]? = c[t]? → b.getD t undef = c.getD t undef := by
        intro b c t h
        rw [Array.getD_eq_getD_getElem?, Array.getD_eq_getD_getElem?, h]
      refine ⟨hw', ?_, ?_, ?_, ?_, ?_⟩
      · rw [← hc.defers]; cases o.dst <;> rfl
      · rw [← hc.size]; cases o.dst <;> simp [Act.put]
      · intro t ht
        rw [hput t (fun e => ht (List.mem_filterMap.2 ⟨o, List.mem_of_getElem? ho', e⟩)), hc.outer t ht]
      · intro t ht hn
        rw [hgetD _ _ t (hput t (fun e => hn (List.mem_filterMap.2 ⟨o, List.mem_of_getElem? ho', e⟩)))]
        exact hst _ _ (hc.outs t ht hn)
      · intro j oj t hj hd hlj
        by_cases hji : j = i
        · subst hji
          rw [ho'] at hj
          obtain rfl := Option.some.inj hj
          have htl : t < a.tmps.size := by
            rw [hc.size]
            have := List.all_eq_true.1 hsz t (List.mem_filterMap.2 ⟨o, List.mem_of_getElem? ho', hd⟩)
            simpa using this
          rw [hd] at hv ⊢
          have : (a.put (some t) v).tmps.getD t undef = v := by simp [Act.put, Array.getD, htl]
          rw [this]; exact hv
        · have hne : o.dst ≠ some t := fun e => hji (nodup_apart l j i oj o t hnd hj ho' hd e)
          rw [hgetD _ _ t (hput t hne)]
          refine hst _ _ (hc.known j oj t hj hd ?_)
          have hne' : i ≠ j := fun e => hji e.symm
          rw [Array.getD_eq_getD_getElem?, Array.getElem?_setIfInBounds_ne hne'] at hlj
          rw [Array.getD_eq_getD_getElem?]; exact hlj
    unfold wpOp
    rw [ho]
    simp only
    rcases all_at gs l bs hon hA i o ho' with ⟨h, hst⟩ | ⟨h, hst⟩
    · rw [hw true h, if_pos rfl]
      refine .inl (wpq (fun a' w' hh => hh) (hst a w hc.world hkn _ fun v w' hr hw' hv => ?_))
      exact ih _ _ _ (by simpa using hs) hlen (next v w' hw' (fun t v he => hR t v w w' hr he) hv)
    · rw [hw false h]
      simp only [Bool.false_eq_true, if_false]
      exact ih _ _ _ (by simpa using hs) hlen (next undef w hc.world (fun _ _ h => h) (hst w hc.world))

theorem calmB_mono {l : List Oper} {n m : Nat} {outs : List Tmp} {gs : List (Nat × Option Bool)} {bs : List Bool} (h : n ≤ m) (hB : calmB l n outs gs bs = true) : calmB l m outs gs bs = true := by
  simp only [calmB, Bool.and_eq_true] at hB ⊢
  obtain ⟨⟨⟨⟨⟨h1, h2⟩, h3⟩, h4⟩, h5⟩, h6⟩ := hB
  refine ⟨⟨⟨⟨⟨h1, h2⟩, ?_⟩, h4⟩, h5⟩, h6⟩
  rw [List.all_eq_true] at h3 ⊢
  intro t ht
  have h7 : t < n := by simpa using h3 t ht
  have h8 : t < m := Nat.lt_of_lt_of_le h7 h
  simpa using h8

/-- The rule. -/
theorem wp_region_calm {id : Nat} {l : List Oper} {outs : List Tmp} {gs : List (Nat × Option Bool)} {bs : List Bool} {a : Act} {w : World} {Q : Exit → Act → World → Prop}
    (E : Tmp → Value → World → Prop) (W : World → Prop) (R : World → World → Prop)
    (hm : P.follows .mixedOrders = true) {n m : Nat} (hn : a.tmps.size = m) (hnm : n ≤ m) (hB : calmB l n outs gs bs = true)
    (hR : ∀ t v w w', R w w' → E t v w → E t v w') (hG : GuardOk E W l.toArray gs) (hW : W w.drew) (hO : OutsOk E a w.drew outs)
    (hA : AllOk E W R P l bs)
    (hend : ∀ (vs : Tmp → Value) w', W w' → (∀ t, (dstsOf l).contains t = true → E t (vs t) w') → Q .normal (puts a vs (dstsOf l)) w') :
    (Code.region id l.toArray true).wp P Q a w := by
  refine wp_region_any hm ?_
  refine wpAny_calm (calmB_mono (hn ▸ hnm) hB) hR hG hA hend _ _ _ _ (by simp) ?_ ⟨hW, rfl, rfl, fun _ _ => rfl, fun t ht _ => outs_mem outs hO t ht, ?_⟩
  · simp only [Array.toList_replicate]
    exact Nat.le_trans (List.length_filter_le _ _) (by simp)
  · intro j o t hj hd hl
    simp [Array.getD] at hl
end
end Go.Proofs.Ytmnmnokkojcodab
/-
  Plain laws on worlds: what a call that owns a set of blocks leaves as it was; rows of integers that an object owns; no function of the program is spoken of.
-/
namespace Go.Proofs.Ytmnmnokkojcodab
open Go.RowKit
set_option linter.unusedVariables false

/-- w' is w but for the blocks in O and new ones; what is owned behind it, O', are blocks of O and new ones. -/
structure Step (O O' : Nat → Prop) (w w' : World) : Prop where
  os : w'.os = w.os
  tape : w'.tape = w.tape
  output : w'.output = w.output
  size : w.heap.size ≤ w'.heap.size
  block : ∀ k, k < w.heap.size → ¬ O k → w'.heap[k]? = w.heap[k]?
  own : ∀ k, O' k → O k ∨ w.heap.size ≤ k

theorem Step.refl (O : Nat → Prop) (w : World) : Step O O w w := ⟨rfl, rfl, rfl, Nat.le_refl _, fun _ _ _ => rfl, fun _ h => Or.inl h⟩

theorem Step.trans {O O' O'' : Nat → Prop} {a b c : World} (h : Step O O' a b) (k : Step O' O'' b c) : Step O O'' a c :=
  ⟨k.os.trans h.os, k.tape.trans h.tape, k.output.trans h.output, Nat.le_trans h.size k.size,
   fun i hi hn => (k.block i (Nat.lt_of_lt_of_le hi h.size) (fun ho => (h.own i ho).elim hn (fun hge => by omega))).trans (h.block i hi hn),
   fun i hi => (k.own i hi).elim (h.own i) (fun hge => Or.inr (Nat.le_trans h.size hge))⟩

theorem Step.mono {O O' P : Nat → Prop} {a b : World} (h : Step O O' a b) (hP : ∀ k, O k → P k) : Step P O' a b :=
  ⟨h.os, h.tape, h.output, h.size, fun i hi hn => h.block i hi (fun ho => hn (hP i ho)), fun i hi => (h.own i hi).imp (hP i) id⟩

theorem Step.sub {O O' P : Nat → Prop} {a b : World} (h : Step O O' a b) (hP : ∀ k, P k → O' k) : Step O P a b :=
  ⟨h.os, h.tape, h.output, h.size, h.block, fun i hi => h.own i (hP i hi)⟩

theorem Step.drewN {O O' : Nat → Prop} {a w : World} (h : Step O O' a w) (n : Nat) : Step O O' a (w.drewN n) := ⟨h.os, h.tape, h.output, h.size, h.block, h.own⟩
theorem Step.drew {O O' : Nat → Prop} {a w : World} (h : Step O O' a w) : Step O O' a w.drew := ⟨h.os, h.tape, h.output, h.size, h.block, h.own⟩
theorem Step.undrewN {O O' : Nat → Prop} {a w : World} {n : Nat} (h : Step O O' (a.drewN n) w) : Step O O' a w := ⟨h.os, h.tape, h.output, h.size, h.block, h.own⟩

theorem Step.alloc {O O' : Nat → Prop} {a w : World} (h : Step O O' a w) (o : Obj) : Step O O' a (w.alloc o) :=
  ⟨h.os, h.tape, h.output, by have := h.size; simp; omega, fun k hk hn => (Below.heap_alloc _ _ _ (by have := h.size; omega)).trans (h.block k hk hn), h.own⟩

/-- A store into a block that is owned at last. -/
theorem Step.setCell {O O' : Nat → Prop} {a w : World} (h : Step O O' a w) {p : Addr} (hp : O' p.block) (u : Value) : Step O O' a (w.setCell p u) :=
  ⟨h.os, h.tape, h.output, by have := h.size; simp; omega,
   fun k hk hn => (Below.heap_setCell _ _ _ _ (fun e => by subst e; rcases h.own _ hp with h' | h'; exact hn h'; omega)).trans (h.block k hk hn), h.own⟩

theorem Step.below {O O' : Nat → Prop} {a w : World} {B : Nat} (h : Step O O' a w) (hB : B ≤ a.heap.size) (hO : ∀ k, O k → B ≤ k) : Below B a w :=
  ⟨h.os, h.tape, h.output, h.size, fun k hk => h.block k (by omega) (fun ho => by have := hO k ho; omega)⟩

theorem Step.of_below {O O' : Nat → Prop} {a w : World} (h : Below a.heap.size a w) (hO : ∀ k, O' k → O k ∨ a.heap.size ≤ k) : Step O O' a w :=
  ⟨h.os, h.tape, h.output, h.size, fun k hk _ => h.block k hk, hO⟩

/-- A block that is not owned stays. -/
theorem Step.keep {O O' : Nat → Prop} {a w : World} (h : Step O O' a w) {k : Nat} {o : Obj} (hk : a.heap[k]? = some o) (hn : ¬ O k) : w.heap[k]? = some o :=
  (h.block k (lt_of_block hk) hn).trans hk

/-- Whole blocks: their cells. -/
theorem cellOf {w : World} {b : Nat} {c : Array Value} {t : TypeId} (h : w.heap[b]? = some (.cells c t (0, 0))) (i : Nat) (v : Value) (hv : c[i]? = some v) : w.cell? ⟨b, i, none⟩ = some v := by
  simp [World.cell?, h, hv]
theorem freeOf {w : World} {b : Nat} {c : Array Value} {t : TypeId} (h : w.heap[b]? = some (.cells c t (0, 0))) (i : Nat) : w.frozen? ⟨b, i, none⟩ = false := by
  simp [World.frozen?, h]
theorem blockSet {w : World} {b : Nat} {c : Array Value} {t : TypeId} (h : w.heap[b]? = some (.cells c t (0, 0))) (i : Nat) (v : Value) :
    (w.setCell ⟨b, i, none⟩ v).heap[b]? = some (.cells (c.setIfInBounds i v) t (0, 0)) := by
  simp [World.setCell, Array.getElem?_modify, h]
theorem blockNew (w : World) (c : Array Value) (t : TypeId) : (w.alloc (.cells c t)).heap[w.heap.size]? = some (.cells c t (0, 0)) := by
  show (w.heap.push _)[w.heap.size]? = _
  simp
theorem blockNe {w : World} {b g : Nat} {c d : Array Value} {t u : TypeId} {f : Nat × Nat} (h : w.heap[b]? = some (.cells c t f)) (k : w.heap[g]? = some (.cells d u f)) (hn : t ≠ u) : b ≠ g := by
  intro e; subst e; rw [h] at k; simp at k; exact hn k.2

/-- A ROW OF INTEGERS that a slice value owns, its block among O (nil, or the head of a block of its own). -/
def Row (w : World) (O : Nat → Prop) (t : TypeId) (v : Value) (xs : List Int) : Prop :=
  w.ownsRow 0 t 1 v xs.length (xs.map (Value.int .i64)) ∧ ∀ g, v.ownBlock = some g → O g

theorem Row.nil (w : World) (O : Nat → Prop) (t : TypeId) : Row w O t (.slice none 0 0) [] := ⟨⟨rfl, Or.inl ⟨rfl, rfl⟩⟩, by simp [Value.ownBlock]⟩

/-- Its form: the address, the capacity. -/
theorem Row.form {w : World} {O : Nat → Prop} {t : TypeId} {v : Value} {xs : List Int} (h : Row w O t v xs) :
    ∃ a cap, v = .slice a xs.length cap ∧ (a = none → xs = [] ∧ cap = 0) ∧ ∀ g, a = some g → g = ⟨g.block, 0, none⟩ ∧ O g.block ∧ xs.length ≤ cap ∧ cap ≤ maxLen ∧ ∃ c, w.heap[g.block]? = some (.cells c t (0, 0)) ∧ c.size = cap ∧ ∀ i, i < xs.length → c[i]? = some (.int .i64 (xs.getD i 0)) := by
  obtain ⟨⟨h1, h2⟩, h3⟩ := h
  rcases h2 with ⟨rfl, h4⟩ | ⟨g, cap, cur, rfl, _, hh, hn, hm, hs, ht⟩
  · have : xs = [] := List.length_eq_zero_iff.1 h4
    subst this
    exact ⟨none, 0, rfl, (fun _ => ⟨rfl, rfl⟩), (fun g e => by cases e)⟩
  · refine ⟨some ⟨g, 0, none⟩, cap, rfl, (fun e => by cases e), (fun g' e => ?_)⟩
    cases e
    refine ⟨rfl, h3 g rfl, hn, hm, cur, hh, by simpa using hs, fun i hi => ?_⟩
    have : (cur.toList.take (xs.length * 1))[i]? = (xs.map (Value.int .i64))[i]? := by rw [ht]
    rw [List.getElem?_take, if_pos (by omega), List.getElem?_map] at this
    rw [← Array.getElem?_toList, this]
    simp [List.getD, hi]

theorem Row.cell {w : World} {O : Nat → Prop} {t : TypeId} {g : Nat} {n cap : Nat} {xs : List Int} (h : Row w O t (.slice (some ⟨g, 0, none⟩) n cap) xs) (i : Nat) (hi : i < xs.length) :
    w.cell? ⟨g, i, none⟩ = some (.int .i64 (xs.getD i 0)) := by
  obtain ⟨a, cap', e, _, h2⟩ := h.form
  cases e
  obtain ⟨_, _, _, _, c, hc, _, hi'⟩ := h2 _ rfl
  exact cellOf hc i _ (hi' i hi)

/-- It stays where its block stays. -/
theorem Row.keep {w w' : World} {O O' : Nat → Prop} {t : TypeId} {v : Value} {xs : List Int} (h : Row w O t v xs) (hb : ∀ g, v.ownBlock = some g → w'.heap[g]? = w.heap[g]?) (hO : ∀ g, v.ownBlock = some g → O' g) : Row w' O' t v xs := by
  obtain ⟨⟨h1, h2⟩, h3⟩ := h
  refine ⟨⟨h1, ?_⟩, hO⟩
  rcases h2 with h4 | ⟨g, cap, cur, rfl, hg, hh, r⟩
  · exact Or.inl h4
  · exact Or.inr ⟨g, cap, cur, rfl, hg, (hb g rfl).trans hh, r⟩

theorem Row.lt {w : World} {O : Nat → Prop} {t : TypeId} {v : Value} {xs : List Int} (h : Row w O t v xs) {g : Nat} (hg : v.ownBlock = some g) : g < w.heap.size := by
  obtain ⟨⟨h1, h2⟩, h3⟩ := h
  rcases h2 with ⟨rfl, _⟩ | ⟨g', cap, cur, rfl, _, hh, r⟩
  · simp [Value.ownBlock] at hg
  · simp [Value.ownBlock] at hg; subst hg; exact lt_of_block hh

theorem Row.block {w : World} {O : Nat → Prop} {t : TypeId} {v : Value} {xs : List Int} (h : Row w O t v xs) {g : Nat} (hg : v.ownBlock = some g) : ∃ c, w.heap[g]? = some (.cells c t (0, 0)) := by
  obtain ⟨⟨h1, h2⟩, h3⟩ := h
  rcases h2 with ⟨rfl, _⟩ | ⟨g', cap, cur, rfl, _, hh, r⟩
  · simp [Value.ownBlock] at hg
  · simp [Value.ownBlock] at hg; subst hg; exact ⟨cur, hh⟩

/-- It stays behind a call that owns other blocks. -/
theorem Row.step {w w' : World} {O P P' : Nat → Prop} {t : TypeId} {v : Value} {xs : List Int} (h : Row w O t v xs) (k : Step P P' w w') (hd : ∀ x, O x → ¬ P x) : Row w' O t v xs :=
  h.keep (fun g hg => k.block g (h.lt hg) (hd g (h.2 g hg))) h.2

theorem Row.drewN {w : World} {O : Nat → Prop} {t : TypeId} {v : Value} {xs : List Int} (h : Row w O t v xs) (n : Nat) : Row (w.drewN n) O t v xs := h

/-- The last one goes: xs[:len(xs)-1]. -/
theorem Row.init {w : World} {O : Nat → Prop} {t : TypeId} {g n cap : Nat} {xs : List Int} (h : Row w O t (.slice (some ⟨g, 0, none⟩) n cap) xs) (m : Nat) (hm : m ≤ xs.length) :
    Row w O t (.slice (some ⟨g, 0, none⟩) m cap) (xs.take m) := by
  obtain ⟨⟨h1, h2⟩, h3⟩ := h
  rcases h2 with ⟨e, _⟩ | ⟨g', cap', cur, e, hg, hh, hn, hmx, hs, ht⟩
  · cases e
  · cases e
    have hl : (xs.take m).length = m := by simp; omega
    refine ⟨⟨by simp, Or.inr ⟨g, cap, cur, by rw [hl], Nat.zero_le _, hh, by omega, hmx, hs, ?_⟩⟩, fun g' e => h3 g' e⟩
    rw [hl, Nat.mul_one, List.map_take, ← ht, List.take_take, Nat.mul_one, Nat.min_eq_left hm]

/-- A slice value that owns a row and is not empty begins at the head of a block. -/
theorem Row.head {w : World} {O : Nat → Prop} {t : TypeId} {a : Option Addr} {n cap : Nat} {xs : List Int} (h : Row w O t (.slice a n cap) xs) (hn : 0 < xs.length) :
    ∃ g, a = some ⟨g, 0, none⟩ ∧ n = xs.length ∧ xs.length ≤ cap ∧ O g ∧ g < w.heap.size := by
  have hlt := fun g hg => h.lt (g := g) hg
  obtain ⟨a', cap', e, ha, hs⟩ := h.form
  simp only [Value.slice.injEq] at e
  obtain ⟨rfl, rfl, rfl⟩ := e
  cases a with
  | none => rw [(ha rfl).1] at hn; simp at hn
  | some g =>
    have h1 := (hs g rfl).1
    exact ⟨g.block, by rw [← h1], rfl, (hs g rfl).2.2.1, (hs g rfl).2.1, hlt _ rfl⟩

theorem Row.lenEq {w : World} {O : Nat → Prop} {t : TypeId} {a : Option Addr} {n cap : Nat} {xs : List Int} (h : Row w O t (.slice a n cap) xs) : n = xs.length := by
  obtain ⟨a', cap', e, ha, hs⟩ := h.form
  simp only [Value.slice.injEq] at e
  exact e.2.1

/-- Many cells of one block stored. -/
theorem setCells_other {b k : Nat} (hk : k ≠ b) : ∀ (vs : List Value) (o : Nat) (w : World), (w.setCells b o vs).heap[k]? = w.heap[k]?
  | [], _, _ => rfl
  | v :: r, o, w => by rw [World.setCells, setCells_other hk r]; exact Below.heap_setCell _ _ _ _ hk
theorem Step.setCells {O O' : Nat → Prop} {a : World} {b : Nat} (hp : O' b) : ∀ (vs : List Value) (o : Nat) (w : World), Step O O' a w → Step O O' a (w.setCells b o vs)
  | [], _, _, h => h
  | v :: r, o, w, h => Step.setCells hp r (o + 1) _ (h.setCell (p := ⟨b, o, none⟩) hp v)
theorem rowIs_fill {b : Nat} {t : TypeId} {n : Nat} (z : Value) : ∀ (m o : Nat) (w : World) (f : Nat → Value), w.rowIs b t n f → (w.setCells b o (List.replicate m z)).rowIs b t n (fun j => if o ≤ j ∧ j < o + m then z else f j)
  | 0, o, w, f, h => h.congr fun j hj => by rw [if_neg (by omega)]
  | m + 1, o, w, f, h => by
    rw [List.replicate_succ, World.setCells]
    refine (rowIs_fill z m (o + 1) _ _ (h.set o z)).congr fun j hj => ?_
    by_cases h1 : j = o
    · subst h1; simp
    · by_cases h2 : o ≤ j ∧ j < o + (m + 1)
      · rw [if_pos (by omega), if_pos h2]
      · rw [if_neg (by omega), if_neg h2, if_neg h1]

/-- A row that was appended to, by the law 'wpList_append_lies' (one value, which lay in a block of its own). -/
theorem Row.pushed {w w1 : World} {O : Nat → Prop} {t : TypeId} {v : Value} {xs : List Int} {k : Int} {g cap : Nat} {o : Obj} (h : Row w O t v xs) (h1 : w1.ownsRow 0 t 1 (.slice (some ⟨g, 0, none⟩) (xs.length + 1) cap) (xs.length + 1) (xs.map (Value.int .i64) ++ [.int .i64 k]))
    (hat : v.ownBlock = some g ∨ g = w.heap.size + 1) (hlt : g < w1.heap.size) (O' : Nat → Prop) (hO : ∀ x, O x ∨ w.heap.size ≤ x → x < w1.heap.size → O' x) : Row w1 O' t (.slice (some ⟨g, 0, none⟩) (xs.length + 1) cap) (xs ++ [k]) := by
  refine ⟨?_, fun g' e => ?_⟩
  · have e : (xs ++ [k]).length = xs.length + 1 := by simp
    rw [e, List.map_append]; exact h1
  · simp [Value.ownBlock] at e; subst e
    refine hO _ ?_ hlt
    rcases hat with h' | h'
    · exact Or.inl (h.2 _ h')
    · right; omega

theorem news_one (w : World) (v : Value) (t : TypeId) : ∀ (j : Nat) (u : Value), [v][j]? = some u → (w.alloc (.cells #[v] t)).cell? (Addr.add ⟨w.heap.size, 0, none⟩ j) = some u := by
  intro j u hj
  match j, hj with
  | 0, hj => simp at hj; subst hj; simp [Addr.add]
theorem oneCell_one (k : Int) : ∀ u, u ∈ [Value.int .i64 k] → u.oneCell' = true := by intro u hu; simp at hu; subst hu; rfl

#print axioms Row.init
end Go.Proofs.Ytmnmnokkojcodab
/-
  A walk over a frame that is a letter: of a frame is known how many slots it has and what lies in some of them (a list); a rule for each kind of step. The steps cost by what they read, not by the frame's width. No function of the program is spoken of.
-/
namespace Go.Proofs.Ytmnmnokkojcodab
open Go.RowKit
set_option linter.unusedVariables false

/-- What is known of a frame. -/
structure Fr (n : Nat) (a : Act) (L : List (Tmp × Value)) : Prop where
  size : a.tmps.size = n
  defers : a.defers = []
  sl : ∀ t v, L.lookup t = some v → a.tmps.getD t undef = v

section
variable {P : Program} {n : Nat} {a : Act} {L : List (Tmp × Value)} {w w' : World} {Q : Exit → Act → World → Prop} {ops : Array Oper} {o : Oper} {rest : List Oper} {t : Tmp} {v : Value}

theorem Fr.put (h : Fr n a L) (ht : Nat.blt t n = true) : Fr n (a.put (some t) v) ((t, v) :: L) := by
  have ht' : t < n := by simpa [Nat.blt, Nat.ble_eq, Nat.succ_le_iff] using ht
  refine ⟨by simpa [Act.put] using h.size, h.defers, fun s u hs => ?_⟩
  by_cases e : s = t
  · subst e
    simp at hs
    subst hs
    have : s < a.tmps.size := by rw [h.size]; exact ht'
    simp [Act.put, Array.getD, this]
  · have e' : (s == t) = false := by simpa using e
    simp only [List.lookup_cons, e'] at hs
    have := h.sl s u hs
    have hne : t ≠ s := fun x => e x.symm
    rw [Array.getD_eq_getD_getElem?] at this ⊢
    simp only [Act.put]
    rw [Array.getElem?_setIfInBounds_ne hne]
    exact this
theorem Fr.cons (h : Fr n a L) (e : a.tmps.getD t undef = v) : Fr n a ((t, v) :: L) := by
  refine ⟨h.size, h.defers, fun s u hs => ?_⟩
  by_cases e' : s = t
  · subst e'
    simp at hs
    subst hs
    exact e
  · have e'' : (s == t) = false := by simpa using e'
    simp only [List.lookup_cons, e''] at hs
    exact h.sl s u hs
theorem Fr.nil (h : Fr n a L) : Fr n a [] := ⟨h.size, h.defers, fun s u hs => by simp at hs⟩
/-- Kept of what is known: the slot t. -/
theorem Fr.keep {L' : List (Tmp × Value)} (h : Fr n a L) (k : Fr n a L') (e : L.lookup t = some v) : Fr n a ((t, v) :: L') := k.cons (h.sl t v e)

/-- The region's list, and which slot each guard names. -/
theorem fr_region {id : Nat} {l : List Oper} (h : ∀ ops : Array Oper, (∀ g : Nat, (ops[g]?).bind (fun o : Oper => o.dst) = (l[g]?).bind (fun o : Oper => o.dst)) → wpList P ops Q l a w) : (Code.region id l.toArray false).wp P Q a w :=
  wp_region_lit (h _ fun g => by simp)

theorem fr_pure (hF : Fr n a L) (hd : o.dst = some t) (hg : o.guard = none) (ht : Nat.blt t n = true)
    (h : ∀ K : Act → World → Prop, K (a.put (some t) v) w' → o.wp P a w K Q)
    (k : ∀ a', Fr n a' ((t, v) :: L) → wpList P ops Q rest a' w') : wpList P ops Q (o :: rest) a w :=
  wpList_plain hg fun K hK => h K (hK _ _ (k _ (hF.put ht)))
theorem fr_skip (hF : Fr n a L) (hd : o.dst = none) (hg : o.guard = none)
    (h : ∀ K : Act → World → Prop, K a w' → o.wp P a w K Q)
    (k : wpList P ops Q rest a w') : wpList P ops Q (o :: rest) a w :=
  wpList_plain hg fun K hK => h K (hK _ _ k)
theorem fr_call (R : Value → World → Prop) (hF : Fr n a L) (hd : o.dst = some t) (hg : o.guard = none) (ht : Nat.blt t n = true)
    (h : ∀ K : Act → World → Prop, (∀ v w', R v w' → K (a.put (some t) v) w') → o.wp P a w K Q)
    (k : ∀ a' v w', R v w' → Fr n a' ((t, v) :: L) → wpList P ops Q rest a' w') : wpList P ops Q (o :: rest) a w :=
  wpList_plain hg fun K hK => h K fun v w' hR => hK _ _ (k _ _ _ hR (hF.put ht))

/-- Is a guarded operation wanted? -/
theorem wanted_g {g tg : Nat} {want : Bool} {u : Value} (hF : Fr n a L) (hg : o.guard = some (g, want)) (hs : (ops[g]?).bind (fun o : Oper => o.dst) = some tg) (htg : Nat.blt tg n = true) (hv : L.lookup tg = some u) :
    Region.wanted o (yielded ops a.tmps) = (match u with | .bool b => b == want | _ => false) := by
  have htg' : tg < a.tmps.size := by rw [hF.size]; simpa [Nat.blt, Nat.ble_eq, Nat.succ_le_iff] using htg
  have := hF.sl tg u hv
  have hx : a.tmps[tg]? = some u := by rw [← this]; simp [Array.getD, htg']
  simp only [Region.wanted, hg, yielded, hs, Option.bind_some, hx]
  cases u <;> simp
theorem fr_pure_g {g tg : Nat} {want : Bool} (hF : Fr n a L) (hd : o.dst = some t) (hg : o.guard = some (g, want)) (hs : (ops[g]?).bind (fun o : Oper => o.dst) = some tg) (htg : Nat.blt tg n = true) (hv : L.lookup tg = some (.bool want)) (ht : Nat.blt t n = true)
    (h : ∀ K : Act → World → Prop, K (a.put (some t) v) w' → o.wp P a w K Q)
    (k : ∀ a', Fr n a' ((t, v) :: L) → wpList P ops Q rest a' w') : wpList P ops Q (o :: rest) a w :=
  wpList_step fun K hK => by
    rw [wanted_g hF hg hs htg hv]
    simp only [beq_self_eq_true, if_true]
    exact h K (hK _ _ (k _ (hF.put ht)))
theorem fr_call_g {g tg : Nat} {want : Bool} (R : Value → World → Prop) (hF : Fr n a L) (hd : o.dst = some t) (hg : o.guard = some (g, want)) (hs : (ops[g]?).bind (fun o : Oper => o.dst) = some tg) (htg : Nat.blt tg n = true) (hv : L.lookup tg = some (.bool want)) (ht : Nat.blt t n = true)
    (h : ∀ K : Act → World → Prop, (∀ v w', R v w' → K (a.put (some t) v) w') → o.wp P a w K Q)
    (k : ∀ a' v w', R v w' → Fr n a' ((t, v) :: L) → wpList P ops Q rest a' w') : wpList P ops Q (o :: rest) a w :=
  wpList_step fun K hK => by
    rw [wanted_g hF hg hs htg hv]
    simp only [beq_self_eq_true, if_true]
    exact h K fun v w' hR => hK _ _ (k _ _ _ hR (hF.put ht))
theorem fr_off {g tg : Nat} {want : Bool} {u : Value} (hF : Fr n a L) (hd : o.dst = some t) (hg : o.guard = some (g, want)) (hs : (ops[g]?).bind (fun o : Oper => o.dst) = some tg) (htg : Nat.blt tg n = true) (hv : L.lookup tg = some u) (hu : (match u with | .bool b => b == want | _ => false) = false) (ht : Nat.blt t n = true)
    (k : ∀ a', Fr n a' ((t, undef) :: L) → wpList P ops Q rest a' w) : wpList P ops Q (o :: rest) a w :=
  wpList_step fun K hK => by
    rw [wanted_g hF hg hs htg hv, hu]
    simp only [Bool.false_eq_true, if_false, hd]
    exact hK _ _ (k _ (hF.put ht))
/-- Wanted or not: a guard that is a letter, itself reached or not (c). -/
theorem fr_sym {g tg : Nat} {want b c : Bool} (hF : Fr n a L) (hd : o.dst = some t) (hg : o.guard = some (g, want)) (hs : (ops[g]?).bind (fun o : Oper => o.dst) = some tg) (htg : Nat.blt tg n = true) (hv : L.lookup tg = some (bif c then .bool b else undef)) (ht : Nat.blt t n = true)
    (h : c = true → b = want → ∀ K : Act → World → Prop, K (a.put (some t) v) w → o.wp P a w K Q)
    (k : ∀ a', Fr n a' ((t, bif (c && (b == want)) then v else undef) :: L) → wpList P ops Q rest a' w) : wpList P ops Q (o :: rest) a w :=
  wpList_step fun K hK => by
    rw [wanted_g hF hg hs htg hv]
    cases c with
    | false =>
      simp only [cond_false, undef, Bool.false_eq_true, if_false, hd]
      exact hK _ _ (k _ (hF.put ht))
    | true =>
      simp only [cond_true]
      by_cases e : b = want
      · subst e
        simp only [beq_self_eq_true, if_true]
        refine h rfl rfl K (hK _ _ (k _ ?_))
        have := hF.put (v := v) ht
        simpa using this
      · have e' : (b == want) = false := by simpa using e
        simp only [e', Bool.false_eq_true, if_false, hd]
        refine hK _ _ (k _ ?_)
        have := hF.put (v := undef) ht
        simpa [e'] using this

theorem fr_cond {x y : Code} {b : Bool} (hF : Fr n a L) (hv : L.lookup t = some (.bool b)) (ht : b = true → x.wp P Q a w) (hf : b = false → y.wp P Q a w) : (Code.cond (.tmp t) x y).wp P Q a w :=
  wp_cond_split (hF.sl t _ hv) ht hf
theorem fr_true {x y : Code} (hF : Fr n a L) (hv : L.lookup t = some (.bool true)) (h : x.wp P Q a w) : (Code.cond (.tmp t) x y).wp P Q a w := wp_cond_true (hF.sl t _ hv) h
theorem fr_false {x y : Code} (hF : Fr n a L) (hv : L.lookup t = some (.bool false)) (h : y.wp P Q a w) : (Code.cond (.tmp t) x y).wp P Q a w := wp_cond_false (hF.sl t _ hv) h

theorem wpList_append {l1 l2 : List Oper} (h : wpList P ops (Exit.then (fun a w => wpList P ops Q l2 a w) Q) l1 a w) : wpList P ops Q (l1 ++ l2) a w := by
  induction l1 generalizing a w with
  | nil => exact h
  | cons o l ih =>
    simp only [List.cons_append]
    unfold wpList at h ⊢
    split
    · rename_i hw
      rw [if_pos hw] at h
      refine h.imp (fun h => Oper.wp_mono (fun a w h' => ih h') ?_) id
      unfold Oper.wp at *
      generalize (execOp a.eval o).run P w = r at *
      cases r with
      | ok n w' => cases n <;> exact h
      | halt x w' => cases x <;> exact h
    · rename_i hw
      rw [if_neg hw] at h
      exact ih h
/-- A cut behind the first k operations. -/
theorem cut_k {l : List Oper} (k : Nat) (Φ : Act → World → Prop) (h1 : ∀ K : Act → World → Prop, (∀ a w, Φ a w → K a w) → wpList P ops (Exit.then K Q) (l.take k) a w) (h2 : ∀ a w, Φ a w → wpList P ops Q (l.drop k) a w) : wpList P ops Q l a w := by
  have := wpList_append (l1 := l.take k) (l2 := l.drop k) (h1 _ h2)
  rwa [List.take_append_drop] at this
theorem of_then_ret {K : Act → World → Prop} (h : Q .ret a w) : Exit.then K Q .ret a w := h
theorem of_block_ret {id : Nat} (h : Q .ret a w) : Exit.inBlock id Q .ret a w := h

open Classical in
/-- A loop, by a number that goes down. -/
theorem fr_loop {c : Code} (I : Nat → Act → World → Prop) (q : Nat) (h0 : I q a w)
    (round : ∀ q a w, I q a w → ∀ K : Act → World → Prop, (∀ a' w' q', q' < q → I q' a' w' → K a' w') → c.wp P (Exit.then K Q) a w) : (Code.loop c).wp P Q a w := by
  have hex : ∀ {a w}, (∃ q, I q a w) → ∃ q, I q a w ∧ ∀ r, I r a w → q ≤ r := by
    rintro a w ⟨q, hq⟩
    induction q using Nat.strongRecOn with
    | _ q ih =>
      by_cases hl : ∃ r, r < q ∧ I r a w
      · obtain ⟨r, hr, hi⟩ := hl
        exact ih r hr hi
      · exact ⟨q, hq, fun r hr => Nat.le_of_not_lt fun h => hl ⟨r, h, hr⟩⟩
  refine wp_loop (fun a w => ∃ q, I q a w) (fun a w => if h : ∃ q, I q a w then Classical.choose (hex h) else 0) ⟨q, h0⟩ fun a w hI => ?_
  have hs := Classical.choose_spec (hex hI)
  refine round _ a w hs.1 _ fun a' w' q' hq' hI' => ⟨⟨q', hI'⟩, ?_⟩
  have h' : ∃ q, I q a' w' := ⟨q', hI'⟩
  have hs' := Classical.choose_spec (hex h')
  rw [dif_pos h', dif_pos hI]
  exact Nat.lt_of_le_of_lt (hs'.2 q' hI') hq'

/-- A call's beginning: the frame as a letter. -/
theorem fr_enter {f : FuncId} {fn : Func} {c : Code} {args : Array Value} {R : Ending → World → Prop} (hf : P.funcs[f]? = some fn) (hb : fn.body = some c) (hn : fn.ntmps = n) (ha : Nat.ble args.size n = true)
    (h : ∀ a, Fr n a (args.toList.zipIdx.map fun x => (x.2, x.1)) → c.wp P (bodyPost P fn R) a w) : Calls P f args w R := by
  have ha' : args.size ≤ n := by simpa [Nat.ble_eq] using ha
  refine calls_of_wp hf hb (h _ ⟨by simp [hn]; omega, rfl, fun t v hl => ?_⟩)
  have : ∀ (l : List Value) (k t : Nat), ((l.zipIdx k).map fun x => (x.2, x.1)).lookup t = some v → k ≤ t ∧ l[t - k]? = some v := by
    intro l
    induction l with
    | nil => intro k t h; simp at h
    | cons x l ih =>
      intro k t h
      by_cases e : t = k
      · subst e; simp at h; subst h; simp
      · have e' : (t == k) = false := by simpa using e
        simp only [List.zipIdx_cons, List.map_cons, List.lookup_cons, e'] at h
        obtain ⟨h1, h2⟩ := ih (k + 1) t h
        refine ⟨by omega, ?_⟩
        have : t - k = (t - (k + 1)) + 1 := by omega
        rw [this]
        simpa using h2
  obtain ⟨_, h2⟩ := this _ 0 t hl
  simp at h2
  have hlt : t < args.size := (Array.getElem?_eq_some_iff.1 h2).1
  rw [Array.getD_eq_getD_getElem?, Array.getElem?_append_left hlt, h2]
  rfl
end
end Go.Proofs.Ytmnmnokkojcodab
/-
  A region that draws its order, the last operations of which wait for all that stand ahead of them: whatever order is drawn, they come last, in their own order.
-/
namespace Go.Proofs.Ytmnmnokkojcodab
open Go.RowKit
set_option linter.unusedVariables false

section
variable {P : Program} {Q : Exit → Act → World → Prop}

theorem wp_then {o : Oper} {a : Act} {w : World} {K N : Act → World → Prop} (h : o.wp P a w K (Exit.then N Q)) : o.wp P a w K Q := by
  unfold Oper.wp at *
  generalize (execOp a.eval o).run P w = r at *
  cases r with
  | ok n w' => cases n <;> exact h
  | halt x w' => cases x <;> exact h

/-- An operation of the tail waits for all that stand ahead of it. -/
def waitsB (k : Nat) (o : Oper) : Bool := (List.range k).all fun j => o.after.any fun e => Region.binds .any e && e.on == j
def tailB (k : Nat) : List Oper → Bool
  | [] => true
  | o :: l => waitsB k o && tailB (k + 1) l
def guardsB (n : Nat) (l : List Oper) : Bool := l.all fun o => match o.guard with | some (g, _) => decide (g < n) | none => true

theorem tail_at : ∀ (l : List Oper) (k i : Nat) (o : Oper), tailB k l = true → l[i]? = some o → ∀ j, j < k + i → ∃ e ∈ o.after, Region.binds .any e = true ∧ e.on = j
  | [], _, _, _, _, h => by simp at h
  | x :: l, k, 0, o, h, ho => by
    simp at ho; subst ho
    simp only [tailB, Bool.and_eq_true] at h
    intro j hj
    have := List.all_eq_true.1 h.1 j (by simpa using hj)
    obtain ⟨q, hq, he⟩ := Array.any_eq_true.1 this
    simp only [Bool.and_eq_true, beq_iff_eq] at he
    exact ⟨_, Array.getElem_mem hq, he.1, he.2⟩
  | x :: l, k, i + 1, o, h, ho => by
    simp only [tailB, Bool.and_eq_true] at h
    simp at ho
    intro j hj
    exact tail_at l (k + 1) i o h.2 ho j (by omega)

theorem ready_mem {ops : Array Oper} {listed : Array Bool} {i : Nat} : i ∈ Region.ready .any ops listed ↔ i < ops.size ∧ listed.getD i true = false ∧ ∃ o, ops[i]? = some o ∧ ∀ e ∈ o.after, Region.binds .any e = true → listed.getD e.on false = true := by
  unfold Region.ready
  rw [List.mem_filter]
  simp only [List.mem_range, Bool.and_eq_true, Bool.not_eq_true']
  refine and_congr_right fun h1 => and_congr_right fun h2 => ?_
  rw [Array.getElem?_eq_getElem h1]
  simp only [Option.map_some, Option.getD_some, Option.some.injEq, exists_eq_left']
  rw [Array.all_eq_true_iff_forall_mem]
  refine forall_congr' fun e => forall_congr' fun he => ?_
  cases Region.binds .any e <;> simp

theorem wpAny_seq {l : List Oper} (hb : backB 0 l = true) {k0 : Nat} (ht : tailB k0 (l.drop k0) = true) : ∀ (m k fuel : Nat) (listed : Array Bool) (a : Act) (w : World), k + m = l.length → k0 ≤ k → m ≤ fuel → listed.size = l.length →
    (∀ j, j < l.length → listed.getD j false = decide (j < k)) → wpList P l.toArray Q (l.drop k) a w → wpAny P .any l.toArray Q fuel listed a w := by
  intro m
  induction m with
  | zero =>
    intro k fuel listed a w hk _ _ hs hl h
    have hr : Region.ready .any l.toArray listed = [] := by
      rw [List.eq_nil_iff_forall_not_mem]
      intro i hi
      obtain ⟨h1, h2, _⟩ := ready_mem.1 hi
      have h1' : i < l.length := by simpa using h1
      have := hl i h1'
      have hd : decide (i < k) = true := by simp; omega
      rw [hd] at this
      have hi' : i < listed.size := by omega
      simp [Array.getD, hi'] at this h2
      rw [this] at h2; cases h2
    have hq : Q .normal a w := by
      rw [List.drop_of_length_le (by omega)] at h
      exact h
    cases fuel with
    | zero => exact ⟨hr, hq⟩
    | succ fuel => exact ⟨fun _ => hq, fun i hi => by rw [hr] at hi; cases hi⟩
  | succ m ih =>
    intro k fuel listed a w hk hk0 hf hs hl h
    have hlt : k < l.length := by omega
    obtain ⟨fuel, rfl⟩ : ∃ f, fuel = f + 1 := ⟨fuel - 1, by omega⟩
    have hks : k < listed.size := by omega
    have hkr : k ∈ Region.ready .any l.toArray listed := by
      refine ready_mem.2 ⟨by simpa using hlt, ?_, l[k], by simp [hlt], fun e he hbd => ?_⟩
      · have := hl k hlt
        simp [Array.getD, hks] at this ⊢; exact this
      · have := back_at l 0 k l[k] hb (by simp [hlt]) e he hbd
        rw [hl _ (by omega)]; simp; omega
    refine ⟨fun hr => absurd (hr ▸ hkr) (by simp), fun i hi => ?_⟩
    have hik : i = k := by
      obtain ⟨h1, h2, o, ho, h3⟩ := ready_mem.1 hi
      have h1' : i < l.length := by simpa using h1
      have hnl : listed.getD i false = false := by
        have hi' : i < listed.size := by omega
        simp [Array.getD, hi'] at h2 ⊢; exact h2
      have hge : k ≤ i := by
        have := hl i h1'
        rw [hnl] at this
        have : ¬ i < k := by simpa using this.symm
        omega
      rcases Nat.eq_or_lt_of_le hge with e | hgt
      · exact e.symm
      · exfalso
        obtain ⟨e, he, hbd, hon⟩ := tail_at (l.drop k0) k0 (i - k0) o ht (by rw [List.getElem?_drop, show k0 + (i - k0) = i by omega]; simpa using ho) k (by omega)
        have := h3 e he hbd
        rw [hon, hl k hlt] at this
        simp at this
    subst hik
    rw [List.drop_eq_getElem_cons hlt] at h
    have ho : l.toArray[i]? = some l[i] := by simp [hlt]
    have next : ∀ a w, wpList P l.toArray Q (l.drop (i + 1)) a w → wpAny P .any l.toArray Q fuel (listed.setIfInBounds i true) a w := fun a w h' =>
      ih (i + 1) fuel _ a w (by omega) (by omega) (by omega) (by simpa using hs) (fun j hj => by
        by_cases e : j = i
        · subst e; simp [Array.getD, hks]
        · have hne : i ≠ j := fun x => e x.symm
          rw [Array.getD_eq_getD_getElem?, Array.getElem?_setIfInBounds_ne hne, ← Array.getD_eq_getD_getElem?, hl j hj]
          simp; omega) h'
    unfold wpOp
    rw [ho]
    simp only
    unfold wpList at h
    split
    · rename_i hw
      rw [if_pos hw] at h
      exact h.imp (Oper.wp_mono next) id
    · rename_i hw
      rw [if_neg hw] at h
      exact next _ _ h

theorem wpAny_tail {l l2 : List Oper} (hb : backB 0 (l ++ l2) = true) (hg : guardsB l.length l = true) (ht : tailB l.length l2 = true) : ∀ (fuel : Nat) (listed : Array Bool) (a : Act) (w : World), listed.size = l.length →
    wpAny P .any l.toArray (Exit.then (fun a w => wpList P (l ++ l2).toArray Q l2 a w) Q) fuel listed a w →
    wpAny P .any (l ++ l2).toArray Q (fuel + l2.length) (listed ++ Array.replicate l2.length false) a w := by
  have hbl : ∀ (i : Nat) (o : Oper), l[i]? = some o → ∀ e ∈ o.after, Region.binds .any e = true → e.on < i := fun i o ho e he hbd => by
    have hi : i < l.length := (List.getElem?_eq_some_iff.1 ho).1
    have := back_at (l ++ l2) 0 i o hb (by rw [List.getElem?_append_left hi]; exact ho) e he hbd
    omega
  have get1 : ∀ (listed : Array Bool) (j : Nat) (d : Bool), listed.size = l.length → j < l.length → (listed ++ Array.replicate l2.length false).getD j d = listed.getD j d := fun listed j d hs hj => by
    rw [Array.getD_eq_getD_getElem?, Array.getD_eq_getD_getElem?, Array.getElem?_append_left (by omega)]
  have get2 : ∀ (listed : Array Bool) (j : Nat), listed.size = l.length → l.length ≤ j → (listed ++ Array.replicate l2.length false).getD j false = false := fun listed j hs hj => by
    rw [Array.getD_eq_getD_getElem?, Array.getElem?_append_right (by omega)]
    cases h : (Array.replicate l2.length false)[j - listed.size]? with
    | none => rfl
    | some b =>
      have := Array.mem_of_getElem? h
      simp at this
      simp [this.2]
  -- all of the first part are listed
  have done : ∀ (fuel : Nat) (listed : Array Bool) (a : Act) (w : World), listed.size = l.length → (∀ j, j < l.length → listed.getD j false = true) → wpList P (l ++ l2).toArray Q l2 a w →
      wpAny P .any (l ++ l2).toArray Q (fuel + l2.length) (listed ++ Array.replicate l2.length false) a w := fun fuel listed a w hs hall h => by
    refine wpAny_seq hb (k0 := l.length) (by simpa using ht) l2.length l.length _ _ a w (by simp) (Nat.le_refl _) (by omega) (by simp [hs]) (fun j hj => ?_) (by simpa using h)
    by_cases hj' : j < l.length
    · rw [get1 listed j false hs hj', hall j hj']; simp [hj']
    · rw [get2 listed j hs (by omega)]; simp; omega
  have allOf : ∀ (listed : Array Bool), listed.size = l.length → Region.ready .any l.toArray listed = [] → ∀ j, j < l.length → listed.getD j false = true := fun listed hs hr j => by
    induction j using Nat.strongRecOn with
    | _ j ih =>
      intro hj
      cases hc : listed.getD j false with
      | true => rfl
      | false =>
        exfalso
        have hj' : j < listed.size := by omega
        have hnt : listed.getD j true = false := by simp [Array.getD, hj'] at hc ⊢; exact hc
        have : j ∈ Region.ready .any l.toArray listed := ready_mem.2 ⟨by simpa using hj, hnt, l[j], by simp [hj], fun e he hbd => by
          have := hbl j l[j] (by simp [hj]) e he hbd
          exact ih e.on this (by omega)⟩
        rw [hr] at this; cases this
  intro fuel
  induction fuel with
  | zero =>
    intro listed a w hs h
    exact done 0 listed a w hs (allOf listed hs h.1) h.2
  | succ fuel ih =>
    intro listed a w hs h
    by_cases hall : ∀ j, j < l.length → listed.getD j false = true
    · refine done (fuel + 1) listed a w hs hall (h.1 ?_)
      rw [List.eq_nil_iff_forall_not_mem]
      intro i hi
      obtain ⟨h1, h2, _⟩ := ready_mem.1 hi
      have h1' : i < l.length := by simpa using h1
      have := hall i h1'
      have hi' : i < listed.size := by omega
      simp [Array.getD, hi'] at this h2
      rw [this] at h2; cases h2
    · have hnr : Region.ready .any l.toArray listed ≠ [] := fun e => hall (allOf listed hs e)
      have same : ∀ i, i ∈ Region.ready .any (l ++ l2).toArray (listed ++ Array.replicate l2.length false) ↔ i ∈ Region.ready .any l.toArray listed := fun i => by
        rw [ready_mem, ready_mem]
        by_cases hi : i < l.length
        · have e1 : (l ++ l2).toArray[i]? = l.toArray[i]? := by simp [List.getElem?_append_left hi]
          rw [get1 listed i true hs hi, e1]
          constructor
          · rintro ⟨_, h2, o, ho, h3⟩
            refine ⟨by simpa using hi, h2, o, ho, fun e he hbd => ?_⟩
            have := hbl i o (by simpa using ho) e he hbd
            have h4 := h3 e he hbd
            rwa [get1 listed e.on false hs (by omega)] at h4
          · rintro ⟨_, h2, o, ho, h3⟩
            refine ⟨by simp; omega, h2, o, ho, fun e he hbd => ?_⟩
            have := hbl i o (by simpa using ho) e he hbd
            rw [get1 listed e.on false hs (by omega)]
            exact h3 e he hbd
        · constructor
          · rintro ⟨h1, h2, o, ho, h3⟩
            exfalso
            refine hall fun j hj => ?_
            have ho' : (l ++ l2)[i]? = some o := by simpa using ho
            rw [List.getElem?_append_right (by omega)] at ho'
            obtain ⟨e, he, hbd, hon⟩ := tail_at l2 l.length (i - l.length) o ht ho' j (by omega)
            have := h3 e he hbd
            rwa [hon, get1 listed j false hs hj] at this
          · rintro ⟨h1, _⟩
            exact absurd (by simpa using h1) hi
      rw [show fuel + 1 + l2.length = (fuel + l2.length) + 1 by omega]
      refine ⟨fun hr => ?_, fun i hi => ?_⟩
      · exfalso
        apply hnr
        rw [List.eq_nil_iff_forall_not_mem]
        intro i hi
        have := (same i).2 hi
        rw [hr] at this; cases this
      · have hi' := (same i).1 hi
        have h' := h.2 i hi'
        obtain ⟨h1, _⟩ := ready_mem.1 hi'
        have hlt : i < l.length := by simpa using h1
        have ho : l.toArray[i]? = some l[i] := by simp [hlt]
        have ho2 : (l ++ l2).toArray[i]? = some l[i] := by simp [List.getElem?_append_left hlt, hlt]
        unfold wpOp at h' ⊢
        rw [ho] at h'
        rw [ho2]
        simp only at h' ⊢
        have hy : Region.wanted l[i] (yielded (l ++ l2).toArray a.tmps) = Region.wanted l[i] (yielded l.toArray a.tmps) := by
          unfold Region.wanted
          cases hgd : (l[i]).guard with
          | none => rfl
          | some gw =>
            obtain ⟨g, want⟩ := gw
            have := List.all_eq_true.1 hg l[i] (List.getElem_mem hlt)
            rw [hgd] at this
            have hgl : g < l.length := by simpa using this
            simp only
            have : yielded (l ++ l2).toArray a.tmps g = yielded l.toArray a.tmps g := by
              unfold yielded
              have : (l ++ l2).toArray[g]? = l.toArray[g]? := by simp [List.getElem?_append_left hgl]
              rw [this]
            rw [this]
        rw [hy]
        have nx : ∀ a w, wpAny P .any l.toArray (Exit.then (fun a w => wpList P (l ++ l2).toArray Q l2 a w) Q) fuel (listed.setIfInBounds i true) a w → wpAny P .any (l ++ l2).toArray Q (fuel + l2.length) ((listed ++ Array.replicate l2.length false).setIfInBounds i true) a w := fun a w hh => by
          have := ih (listed.setIfInBounds i true) a w (by simpa using hs) hh
          have e : (listed ++ Array.replicate l2.length false).setIfInBounds i true = listed.setIfInBounds i true ++ Array.replicate l2.length false := by
            rw [Array.setIfInBounds_append_left (by omega)]
          rw [e]; exact this
        split
        · rename_i hw
          rw [if_pos hw] at h'
          rcases h' with h' | h'
          · exact .inl (Oper.wp_mono nx (wp_then h'))
          · exact .inr h'
        · rename_i hw
          rw [if_neg hw] at h'
          exact nx _ _ h'
end
end Go.Proofs.Ytmnmnokkojcodab
/-
  How plain data lie in memory: numbers, pairs of data one behind the other (the fields of a struct), slices of data. One notion for all of them, with what stays, what came in, what grows by append. No function of the program is spoken of.
-/
namespace Go.Proofs.Ytmnmnokkojcodab
open Go.ChangeShapes Go.WideShapes Go.ChangeAt Go.RowKit Go.Deep
set_option linter.unusedVariables false

/-- How the data of one type lie: in how many cells, and when just these cells hold the datum x, all that they lead to in blocks among O. -/
structure Lay (α : Type) where
  size : Nat
  In : World → (Nat → Prop) → α → List Value → Prop
  len : ∀ {w O x cs}, In w O x cs → cs.length = size
  keep : ∀ {w w' : World} {O O' : Nat → Prop} {x cs}, (∀ k, O k → k < w.heap.size → w'.heap[k]? = w.heap[k]?) → (∀ k, O k → k < w.heap.size → O' k) → In w O x cs → In w' O' x cs

section
variable {α β : Type} {L : Lay α} {w w' : World} {O O' : Nat → Prop} {x : α} {cs : List Value}
theorem Lay.below (h : L.In w O x cs) (b : Below w.heap.size w w') : L.In w' O x cs := L.keep (fun k _ hk => b.block k hk) (fun _ h _ => h) h
theorem Lay.lt {B : Nat} (h : L.In w (fun g => g < B) x cs) (b : Below B w w') : L.In w' (fun g => g < B) x cs := L.keep (fun k hk _ => b.block k hk) (fun _ h _ => h) h
theorem Lay.mono (h : L.In w O x cs) (hl : ∀ k, O k → k < w.heap.size → O' k) : L.In w O' x cs := L.keep (fun k _ _ => rfl) hl h
theorem Lay.alloc (h : L.In w O x cs) (o : Obj) : L.In (w.alloc o) O x cs := L.keep (fun k _ hk => Below.heap_alloc _ _ _ hk) (fun _ h _ => h) h
theorem Lay.setCell (h : L.In w O x cs) {p : Addr} (hp : ¬ O p.block) (v : Value) : L.In (w.setCell p v) O x cs :=
  L.keep (fun k hk _ => Below.heap_setCell _ _ _ _ (fun e => by subst e; exact hp hk)) (fun _ h _ => h) h
theorem Lay.drewN (h : L.In w O x cs) (m : Nat) : L.In (w.drewN m) O x cs := L.keep (w := w) (w' := w.drewN m) (fun k _ _ => rfl) (fun _ h _ => h) h
end

/-- A number. -/
def Lay.int : Lay Int where
  size := 1
  In := fun _ _ x cs => cs = [.int .i64 x] ∧ -9223372036854775808 ≤ x ∧ x ≤ 9223372036854775807
  len := fun h => by rw [h.1]; rfl
  keep := fun _ _ h => h

/-- One behind the other. -/
def Lay.pair {α β : Type} (A : Lay α) (B : Lay β) : Lay (α × β) where
  size := A.size + B.size
  In := fun w O x cs => ∃ c d, cs = c ++ d ∧ A.In w O x.1 c ∧ B.In w O x.2 d
  len := fun ⟨c, d, e, h1, h2⟩ => by rw [e, List.length_append, A.len h1, B.len h2]
  keep := fun hb hl ⟨c, d, e, h1, h2⟩ => ⟨c, d, e, A.keep hb hl h1, B.keep hb hl h2⟩

/-- A slice of such data: element i in the cells behind the address. -/
def Lay.list {α : Type} (A : Lay α) : Lay (List α) where
  size := 1
  In := fun w O l cs => ∃ a c, cs = [.slice a l.length c] ∧ ∀ (i : Nat) (x : α), l[i]? = some x → ∃ g o ds, a = some ⟨g, o, none⟩ ∧ O g ∧ g < w.heap.size ∧ (∀ j, j < A.size → w.cell? ⟨g, o + i * A.size + j, none⟩ = ds[j]?) ∧ A.In w O x ds
  len := fun ⟨_, _, e, _⟩ => by rw [e]; rfl
  keep := fun {w w' O O' l cs} hb hl ⟨a, c, e, h⟩ => ⟨a, c, e, fun i x hx => by
    obtain ⟨g, o, ds, e1, hg, hlt, hc, hi⟩ := h i x hx
    have hk : w'.heap[g]? = w.heap[g]? := hb g hg hlt
    refine ⟨g, o, ds, e1, hl g hg hlt, ?_, fun j hj => ?_, A.keep hb hl hi⟩
    · rcases Nat.lt_or_ge g w'.heap.size with h' | h'
      · exact h'
      · rw [Array.getElem?_eq_none h', Array.getElem?_eq_getElem hlt] at hk; cases hk
    · exact (World.cell?_of_block (w := w) (a := ⟨g, o + i * A.size + j, none⟩) hk).trans (hc j hj)⟩

theorem Lay.int_mk (w : World) (O : Nat → Prop) {x : Int} (h : -9223372036854775808 ≤ x ∧ x ≤ 9223372036854775807) : Lay.int.In w O x [.int .i64 x] := ⟨rfl, h⟩
theorem Lay.pair_mk {α β : Type} {A : Lay α} {B : Lay β} {w : World} {O : Nat → Prop} {x : α} {y : β} {c d : List Value} (h1 : A.In w O x c) (h2 : B.In w O y d) : (A.pair B).In w O (x, y) (c ++ d) := ⟨c, d, rfl, h1, h2⟩
theorem Lay.list_nil {α : Type} (A : Lay α) (w : World) (O : Nat → Prop) (a : Option Addr) (c : Nat) : A.list.In w O [] [.slice a 0 c] := ⟨a, c, rfl, fun i x h => by simp at h⟩
/-- An element. -/
theorem Lay.list_at {α : Type} {A : Lay α} {w : World} {O : Nat → Prop} {l : List α} {a : Option Addr} {n c : Nat} (h : A.list.In w O l [.slice a n c]) {i : Nat} {x : α} (hx : l[i]? = some x) :
    ∃ g o ds, a = some ⟨g, o, none⟩ ∧ O g ∧ g < w.heap.size ∧ (∀ j, j < A.size → w.cell? ⟨g, o + i * A.size + j, none⟩ = ds[j]?) ∧ A.In w O x ds := by
  obtain ⟨a', c', e, h⟩ := h
  simp at e
  obtain ⟨rfl, _, rfl⟩ := e
  exact h i x hx
theorem Lay.list_len {α : Type} {A : Lay α} {w : World} {O : Nat → Prop} {l : List α} {a : Option Addr} {n c : Nat} (h : A.list.In w O l [.slice a n c]) : n = l.length := by
  obtain ⟨a', c', e, h⟩ := h
  simp at e
  exact e.2.1

/-! ### what came in -/

/-- Whatever reads as t (its reading no deeper than n) is such a datum. -/
def Reads (P : Program) (t : TypeId) {α : Type} (A : Lay α) (n : Nat) : Prop :=
  P.cellsOf t = A.size ∧ ∀ {H : Type} {enc : TypeId × Value → H} {w : World} {base : Nat} {spare : Nat → Bool} {held : Bool} {fuel : Nat} {cs : List Value} {x : DataW H × List MemPlace},
    fuel ≤ n → DataW.trod enc P w base spare held fuel t cs = some x → ∃ d, A.In w (fun _ => True) d cs

theorem Reads.int {P : Program} {t : TypeId} (n : Nat) (h : P.underlying t = some (.int .i64)) (hc : P.cellsOf t = 1) : Reads P t Lay.int n :=
  ⟨hc, fun _ h' => by
    obtain ⟨k, e, _, wf⟩ := DataW.trod_int h h'
    exact ⟨k, e, Go.bounds_i64 wf⟩⟩

/-- A list of functions' values. -/
theorem list_of' {α : Type} {P : Nat → α → Prop} (m : Nat) (h : ∀ i, i < m → ∃ x, P i x) : ∃ l : List α, l.length = m ∧ ∀ i x, l[i]? = some x → P i x := by
  induction m with
  | zero => exact ⟨[], rfl, fun i x hx => by simp at hx⟩
  | succ m ih =>
    obtain ⟨l, hl, hp⟩ := ih (fun i hi => h i (by omega))
    obtain ⟨x, hx⟩ := h m (by omega)
    refine ⟨l ++ [x], by simp [hl], fun i y hy => ?_⟩
    rw [List.getElem?_append] at hy
    split at hy
    · exact hp i y hy
    · rename_i hi
      have : i = m := by
        have := (List.getElem?_eq_some_iff.1 hy).1
        simp at this
        omega
      subst this
      simp [hl] at hy
      subst hy
      exact hx

theorem Reads.list {P : Program} {t e : TypeId} {α : Type} {A : Lay α} {n : Nat} (h : P.underlying t = some (.slice e)) (hc : P.cellsOf t = 1) (hA : Reads P e A n) (h0 : 0 < A.size) : Reads P t A.list (n + 1) :=
  ⟨hc, fun {H enc w base spare held fuel cs x} hf h' => by
    rcases DataW.trod_slice h h' with ⟨e2, _⟩ | ⟨a, len, cap, elems, rest, q, rfl, e2, _, hb, hl, hm, hlen, hel, _, _⟩
    · exact ⟨[], by rw [e2]; exact Lay.list_nil A _ _ _ _⟩
    · obtain ⟨l, hll, hp⟩ := list_of' (P := fun i (d : α) => ∃ ds, w.cells? base (a.add (i * A.size)) A.size = some ds ∧ A.In w (fun _ => True) d ds) len (fun i hi => by
        have he := hel i hi
        rw [List.getElem?_eq_getElem (by omega), hA.1] at he
        rw [Option.bind_eq_some_iff] at he
        obtain ⟨ds, hds, htr⟩ := he
        obtain ⟨d, hd⟩ := hA.2 (by omega) htr
        exact ⟨d, ds, hds, hd⟩)
      refine ⟨l, some a, cap, by rw [e2, hll], fun i x hx => ?_⟩
      obtain ⟨ds, hds, hd⟩ := hp i x hx
      obtain ⟨_, hcl, hcell⟩ := World.cells?_some hds
      obtain ⟨b, off, spot⟩ := a
      have hspot : spot = none := by
        have hi : 0 < l.length := Nat.lt_of_le_of_lt (Nat.zero_le i) (List.getElem?_eq_some_iff.1 hx).1
        obtain ⟨ds0, hds0, hd0⟩ := hp 0 l[0] (List.getElem?_eq_getElem hi)
        have hl0 : 0 < ds0.length := by rw [A.len hd0]; exact h0
        have := (World.cells?_some hds0).2.2 0 h0
        rw [List.getElem?_eq_getElem hl0] at this
        simpa [Addr.add] using World.cell?_spot this
      subst hspot
      have key : ∀ j, j < A.size → w.cell? ⟨b, off + i * A.size + j, none⟩ = ds[j]? := fun j hj => by
        have := hcell j hj
        rw [Go.WideShapes.add_plain, Go.WideShapes.add_plain] at this
        exact this
      refine ⟨b, off, ds, rfl, trivial, ?_, key, hd⟩
      have hl0 : 0 < ds.length := by rw [A.len hd]; exact h0
      have := key 0 h0
      rw [List.getElem?_eq_getElem hl0] at this
      exact World.block_lt_of_cell? w _ this⟩

theorem Reads.mono {P : Program} {t : TypeId} {α : Type} {A : Lay α} {n m : Nat} (h : Reads P t A n) (hm : m ≤ n) : Reads P t A m := ⟨h.1, fun hf h' => h.2 (Nat.le_trans hf hm) h'⟩

/-- Fields one behind the other, from the field i on, at the cell o. -/
def FieldsFrom (P : Program) (fs : Array Field) : Nat → Nat → {α : Type} → Lay α → Nat → Prop := fun i o α A n =>
  ∀ {H : Type} {enc : TypeId × Value → H} {w : World} {base : Nat} {spare : Nat → Bool} {held : Bool} {fuel : Nat} {cs : List Value} {xs : List (DataW H × List MemPlace)},
    fuel ≤ n → cs.length = o + A.size → xs.length = fs.size → (∀ (j : Nat) (f : Field), fs[j]? = some f → DataW.trod enc P w base spare held fuel f.type ((cs.drop f.offset).take (P.cellsOf f.type)) = xs[j]?) →
    ∃ d, A.In w (fun _ => True) d (cs.drop o)

theorem FieldsFrom.last {P : Program} {fs : Array Field} {i o n : Nat} {f : Field} {α : Type} {A : Lay α} (hf : fs[i]? = some f) (ho : f.offset = o) (hA : Reads P f.type A n) : FieldsFrom P fs i o A n := by
  intro H enc w base spare held fuel cs xs hn hl hx h
  have g := h i f hf
  have hi : i < fs.size := (Array.getElem?_eq_some_iff.1 hf).1
  rw [List.getElem?_eq_getElem (by omega), ho, hA.1] at g
  obtain ⟨d, hd⟩ := hA.2 hn g
  refine ⟨d, ?_⟩
  rwa [List.take_of_length_le (by simp; omega)] at hd

theorem FieldsFrom.cons {P : Program} {fs : Array Field} {i o n : Nat} {f : Field} {α β : Type} {A : Lay α} {B : Lay β} (hf : fs[i]? = some f) (ho : f.offset = o) (hA : Reads P f.type A n) (hB : FieldsFrom P fs (i + 1) (o + A.size) B n) : FieldsFrom P fs i o (A.pair B) n := by
  intro H enc w base spare held fuel cs xs hn hl hx h
  have g := h i f hf
  have hi : i < fs.size := (Array.getElem?_eq_some_iff.1 hf).1
  rw [List.getElem?_eq_getElem (by omega), ho, hA.1] at g
  obtain ⟨d, hd⟩ := hA.2 hn g
  have hs : (A.pair B).size = A.size + B.size := rfl
  obtain ⟨e, he⟩ := hB hn (by omega) hx h
  refine ⟨(d, e), _, _, ?_, hd, he⟩
  rw [← List.drop_drop, List.take_append_drop]

theorem Reads.struct {P : Program} {t : TypeId} {fs : Array Field} {α : Type} {A : Lay α} {n : Nat} (h : P.underlying t = some (.struct fs)) (hc : P.cellsOf t = A.size) (hF : FieldsFrom P fs 0 0 A n) : Reads P t A (n + 1) :=
  ⟨hc, fun {H enc w base spare held fuel cs x} hf h' => by
    obtain ⟨xs, m, rfl, _, hcl, hxl, hfl⟩ := DataW.trod_struct h h'
    obtain ⟨d, hd⟩ := hF (by omega) (by rw [hcl, hc]; omega) hxl hfl
    exact ⟨d, by simpa using hd⟩⟩

/-! ### a row that grows -/

/-- The slice value v owns a row of the data l, all in blocks from lo on, what they lead to in other blocks than the row's. -/
structure ARow {α : Type} (A : Lay α) (e : TypeId) (w : World) (lo : Nat) (v : Value) (l : List α) (xs : List Value) : Prop where
  own : w.ownsRow lo e A.size v l.length xs
  kids : ∀ (i : Nat) (x : α), l[i]? = some x → A.In w (fun g => lo ≤ g ∧ v.ownBlock ≠ some g) x ((xs.drop (i * A.size)).take A.size)

section
variable {α : Type} {A : Lay α} {e : TypeId} {w w' : World} {lo : Nat} {v : Value} {l : List α} {xs : List Value}
theorem ARow.nil (A : Lay α) (e : TypeId) (w : World) (lo : Nat) : ARow A e w lo (.slice none 0 0) [] [] := ⟨⟨by simp, Or.inl ⟨rfl, rfl⟩⟩, fun i x h => by simp at h⟩

theorem ARow.lo_le (h : ARow A e w lo v l xs) {g : Nat} (hg : v.ownBlock = some g) : lo ≤ g ∧ g < w.heap.size := by
  obtain ⟨⟨h1, h2⟩, h3⟩ := h
  rcases h2 with ⟨rfl, h4⟩ | ⟨g', cap, cur, rfl, hg', hh, r⟩
  · simp [Value.ownBlock] at hg
  · simp [Value.ownBlock] at hg; subst hg; exact ⟨hg', lt_of_block hh⟩

theorem ARow.below (h : ARow A e w lo v l xs) (b : Below w.heap.size w w') : ARow A e w' lo v l xs := by
  obtain ⟨⟨h1, h2⟩, h3⟩ := h
  refine ⟨⟨h1, ?_⟩, fun i x hx => Lay.below (h3 i x hx) b⟩
  rcases h2 with h4 | ⟨g, cap, cur, e, hg, hh, r⟩
  · exact Or.inl h4
  · exact Or.inr ⟨g, cap, cur, e, hg, (b.block g (lt_of_block hh)).trans hh, r⟩

/-- A store elsewhere. -/
theorem ARow.setOther (h : ARow A e w lo v l xs) {p : Addr} (hp : p.block < lo) (y : Value) : ARow A e (w.setCell p y) lo v l xs := by
  obtain ⟨⟨h1, h2⟩, h3⟩ := h
  refine ⟨⟨h1, ?_⟩, fun i x hx => Lay.setCell (h3 i x hx) (fun hk => by have := hk.1; omega) _⟩
  rcases h2 with h4 | ⟨g, cap, cur, e, hg, hh, r⟩
  · exact Or.inl h4
  · exact Or.inr ⟨g, cap, cur, e, hg, (Below.heap_setCell _ _ _ _ (by omega)).trans hh, r⟩

/-- What it is at last. -/
theorem ARow.lay (h : ARow A e w lo v l xs) : A.list.In w (fun g => lo ≤ g) l [v] := by
  obtain ⟨⟨h1, h2⟩, h3⟩ := h
  rcases h2 with ⟨rfl, h4⟩ | ⟨g, cap, cur, rfl, hg, hh, hn, hm, hs, ht⟩
  · have : l = [] := List.length_eq_zero_iff.1 h4
    subst this
    exact Lay.list_nil A _ _ _ _
  · refine ⟨some ⟨g, 0, none⟩, cap, rfl, fun i x hx => ⟨g, 0, _, rfl, hg, lt_of_block hh, fun j hj => ?_, Lay.mono (h3 i x hx) (fun k hk _ => hk.1)⟩⟩
    have hi : i < l.length := (List.getElem?_eq_some_iff.1 hx).1
    have hij : i * A.size + j < l.length * A.size := by
      have : (i + 1) * A.size ≤ l.length * A.size := Nat.mul_le_mul_right _ hi
      rw [Nat.add_mul] at this
      omega
    rw [List.getElem?_take, if_pos hj, List.getElem?_drop, ← ht, List.getElem?_take, if_pos hij, Nat.zero_add]
    have hcs : i * A.size + j < cur.size := by
      have : l.length * A.size ≤ cap * A.size := Nat.mul_le_mul_right _ hn
      omega
    rw [Array.getElem?_toList]
    exact (cellOf hh _ cur[i * A.size + j] (Array.getElem?_eq_getElem hcs)).trans (Array.getElem?_eq_getElem hcs).symm

/-- One more, what it leads to in blocks that are none of the row's. -/
theorem ARow.push (h : ARow A e w lo v l xs) {x : α} {ds : List Value} (hx : A.In w (fun g => lo ≤ g ∧ v.ownBlock ≠ some g) x ds)
    {g cap : Nat} (hg : w.grownBy w' v.ownBlock) (hat : v.ownBlock = some g ∨ g = w.heap.size)
    (ho : w'.ownsRow lo e A.size (.slice (some ⟨g, 0, none⟩) (l.length + 1) cap) (l.length + 1) (xs ++ ds)) :
    ARow A e w' lo (.slice (some ⟨g, 0, none⟩) (l.length + 1) cap) (l ++ [x]) (xs ++ ds) := by
  obtain ⟨h1, h3⟩ := h
  have hxl := h1.1
  have hdl := A.len hx
  have keep : ∀ {y : α} {es : List Value}, A.In w (fun g => lo ≤ g ∧ v.ownBlock ≠ some g) y es → A.In w' (fun g' => lo ≤ g' ∧ (Value.slice (some ⟨g, 0, none⟩) (l.length + 1) cap).ownBlock ≠ some g') y es := fun hy => by
    refine A.keep (fun k hk hl => ?_) (fun k hk hl => ⟨hk.1, ?_⟩) hy
    · exact hg.block k hl (fun e => hk.2 e.symm)
    · simp only [Value.ownBlock, ne_eq, Option.some.injEq]
      intro e
      subst e
      rcases hat with h' | h'
      · exact hk.2 h'
      · omega
  refine ⟨by rw [List.length_append]; exact ho, fun i y hy => ?_⟩
  rw [List.getElem?_append] at hy
  split at hy
  · rename_i hi
    have hm : (i + 1) * A.size ≤ l.length * A.size := Nat.mul_le_mul_right _ hi
    rw [Nat.add_mul] at hm
    have := h3 i y hy
    rw [List.drop_append_of_le_length (by omega), List.take_append_of_le_length (by simp; omega)]
    exact keep this
  · rename_i hi
    have hi2 : i = l.length := by
      have := (List.getElem?_eq_some_iff.1 hy).1
      simp at this
      omega
    subst hi2
    simp at hy
    subst hy
    rw [List.drop_append, List.drop_of_length_le (by omega), ← hxl, Nat.sub_self, List.drop_zero, List.nil_append, List.take_of_length_le (by omega)]
    exact keep hx
end
end Go.Proofs.Ytmnmnokkojcodab
/-
  Types as plain trees: a tree of depth at most n is a kind, a number of a region and a list of trees of depth at most n - 1; and what the document's functions answer, as plain functions on them. No function of the program is spoken of.
-/
namespace Go.Proofs.Ytmnmnokkojcodab
set_option linter.unusedVariables false

def TT : Nat → Type
  | 0 => Empty
  | n + 1 => Int × Int × List (TT n)

def TT.kind : {n : Nat} → TT n → Int
  | 0, t => Empty.elim t
  | _ + 1, t => t.1
def TT.r : {n : Nat} → TT n → Int
  | 0, t => Empty.elim t
  | _ + 1, t => t.2.1
def TT.len : {n : Nat} → TT n → Nat
  | 0, t => Empty.elim t
  | _ + 1, t => t.2.2.length

/-- Of how many types a type is. -/
def TT.count : {n : Nat} → TT n → Nat
  | 0, t => Empty.elim t
  | n + 1, t => 1 + (t.2.2.map (TT.count (n := n))).sum

/-- How deep types stand in it. -/
def TT.height : {n : Nat} → TT n → Nat
  | 0, t => Empty.elim t
  | n + 1, t => (t.2.2.map (fun x => 1 + TT.height (n := n) x)).foldl max 0

/-- The code of a type apart from what its fields are. -/
def ownC (k r : Int) (len : Nat) (regs : Int) : Int :=
  if k < 1 ∨ 4 < k then 3
  else if k = 1 ∧ r ≠ 0 then 4
  else if k ≠ 3 ∧ 0 < len then 4
  else if 8 < len then 2
  else if k ≠ 1 ∧ (r < 0 ∨ regs ≤ r) then 1
  else 0

def firstL {α : Type} (f : α → Int) : List α → Int
  | [] => 0
  | x :: xs => if f x ≠ 0 then f x else firstL f xs

/-- The first code, the outer one first, from the left. -/
def TT.fault : {n : Nat} → Int → TT n → Int
  | 0, _, t => Empty.elim t
  | n + 1, regs, t => if ownC t.1 t.2.1 t.2.2.length regs ≠ 0 then ownC t.1 t.2.1 t.2.2.length regs else firstL (TT.fault (n := n) regs) t.2.2

def TT.check {n : Nat} (regs : Int) (t : TT n) : Int := if 4 < t.height then 19 else t.fault regs

/-- The new number of the region. -/
def renR (m : Nat) (too : Nat → Int) (k r : Int) : Option Int :=
  if k = 1 then some r else if r < 0 ∨ (m : Int) ≤ r then none else if too r.toNat < 0 then none else some (too r.toNat)

def renL {α : Type} (f : α → Option α) : List α → Option (List α)
  | [] => some []
  | x :: xs => match f x with
    | none => none
    | some y => match renL f xs with
      | none => none
      | some ys => some (y :: ys)

/-- Renamed: the region i is called 'too i' now, i below m. -/
def TT.ren : {n : Nat} → Nat → (Nat → Int) → TT n → Option (TT n)
  | 0, _, _, t => Empty.elim t
  | n + 1, m, too, t => match renR m too t.1 t.2.1 with
    | none => none
    | some r => match renL (TT.ren (n := n) m too) t.2.2 with
      | none => none
      | some l => some ((t.1, r, l) : Int × Int × List (TT n))

/-- Every number of a region is an int64. -/
def TT.ok : {n : Nat} → TT n → Prop
  | 0, t => Empty.elim t
  | n + 1, t => (-9223372036854775808 ≤ t.2.1 ∧ t.2.1 ≤ 9223372036854775807) ∧ ∀ x ∈ t.2.2, TT.ok (n := n) x

/-! ### laws -/

theorem renL_length {α : Type} {f : α → Option α} : ∀ {l l' : List α}, renL f l = some l' → l'.length = l.length
  | [], l', h => by simp [renL] at h; subst h; rfl
  | x :: xs, l', h => by
    simp only [renL] at h
    cases hx : f x with
    | none => simp [hx] at h
    | some y =>
      simp only [hx] at h
      cases hs : renL f xs with
      | none => simp [hs] at h
      | some ys =>
        simp only [hs, Option.some.injEq] at h
        subst h
        simp [renL_length hs]

/-- Renamed element by element. -/
theorem renL_iff {α : Type} {f : α → Option α} : ∀ {l l' : List α}, renL f l = some l' ↔ (l'.length = l.length ∧ ∀ (i : Nat) x, l[i]? = some x → f x = l'[i]?)
  | [], l' => by
    simp only [renL, Option.some.injEq]
    constructor
    · intro h; subst h; simp
    · intro h; exact (List.length_eq_zero_iff.1 h.1).symm
  | x :: xs, l' => by
    simp only [renL]
    constructor
    · intro h
      cases hx : f x with
      | none => simp [hx] at h
      | some y =>
        simp only [hx] at h
        cases hs : renL f xs with
        | none => simp [hs] at h
        | some ys =>
          simp only [hs, Option.some.injEq] at h
          subst h
          obtain ⟨h1, h2⟩ := renL_iff.1 hs
          refine ⟨by simp [h1], fun i z hz => ?_⟩
          cases i with
          | zero => simp at hz; subst hz; simpa using hx
          | succ i => simpa using h2 i z (by simpa using hz)
    · rintro ⟨h1, h2⟩
      cases l' with
      | nil => simp at h1
      | cons y ys =>
        have hx : f x = some y := by simpa using h2 0 x rfl
        have hs : renL f xs = some ys := renL_iff.2 ⟨by simpa using h1, fun i z hz => by simpa using h2 (i + 1) z (by simpa using hz)⟩
        simp [hx, hs]

theorem renL_none {α : Type} {f : α → Option α} : ∀ {l : List α} {i : Nat} {x : α}, l[i]? = some x → f x = none → renL f l = none
  | [], i, x, h, _ => by simp at h
  | y :: ys, 0, x, h, hf => by simp at h; subst h; simp [renL, hf]
  | y :: ys, i + 1, x, h, hf => by
    have := renL_none (l := ys) (i := i) (by simpa using h) hf
    simp only [renL, this]
    cases f y <;> rfl

theorem firstL_eq {α : Type} {f : α → Int} : ∀ {l : List α} {i : Nat} {x : α}, l[i]? = some x → (∀ (j : Nat) y, j < i → l[j]? = some y → f y = 0) → f x ≠ 0 → firstL f l = f x
  | [], i, x, h, _, _ => by simp at h
  | y :: ys, 0, x, h, _, hf => by simp at h; subst h; simp [firstL, hf]
  | y :: ys, i + 1, x, h, hz, hf => by
    have h0 : f y = 0 := hz 0 y (by omega) rfl
    simp only [firstL, h0, ne_eq, not_true_eq_false, if_false]
    exact firstL_eq (by simpa using h) (fun j z hj hjz => hz (j + 1) z (by omega) (by simpa using hjz)) hf

theorem firstL_zero {α : Type} {f : α → Int} : ∀ {l : List α}, (∀ (j : Nat) y, l[j]? = some y → f y = 0) → firstL f l = 0
  | [], _ => rfl
  | y :: ys, h => by
    have h0 : f y = 0 := h 0 y rfl
    simp only [firstL, h0, ne_eq, not_true_eq_false, if_false]
    exact firstL_zero (fun j z hz => h (j + 1) z (by simpa using hz))

theorem firstL_zero_iff {α : Type} {f : α → Int} : ∀ {l : List α}, firstL f l = 0 ↔ ∀ x ∈ l, f x = 0
  | [] => by simp [firstL]
  | y :: ys => by
    simp only [firstL]
    by_cases h : f y = 0
    · simp [h, firstL_zero_iff]
    · simp [h]

theorem firstL_congr {α β : Type} {f : α → Int} {g : β → Int} : ∀ {l : List α} {l' : List β}, l'.length = l.length → (∀ (i : Nat) x y, l[i]? = some x → l'[i]? = some y → f x = g y) → firstL f l = firstL g l'
  | [], [], _, _ => rfl
  | [], _ :: _, h, _ => by simp at h
  | _ :: _, [], h, _ => by simp at h
  | x :: xs, y :: ys, h, k => by
    have h0 : f x = g y := k 0 x y rfl rfl
    have h1 := firstL_congr (f := f) (g := g) (l := xs) (l' := ys) (by simpa using h) (fun i a b ha hb => k (i + 1) a b (by simpa using ha) (by simpa using hb))
    simp only [firstL, h0, h1]

theorem TT.count_pos : {n : Nat} → (t : TT n) → 1 ≤ t.count
  | 0, t => Empty.elim t
  | n + 1, t => by simp only [TT.count]; omega

theorem sum_take_le (l : List Nat) : ∀ i, (l.take i).sum ≤ l.sum := by
  intro i
  have := congrArg List.sum (List.take_append_drop i l)
  rw [List.sum_append] at this
  omega

theorem length_le_sum : ∀ (l : List Nat), (∀ x ∈ l, 1 ≤ x) → l.length ≤ l.sum
  | [], _ => by simp
  | x :: xs, h => by
    have h1 := h x (by simp)
    have h2 := length_le_sum xs (fun y hy => h y (by simp [hy]))
    simp only [List.length_cons, List.sum_cons]
    omega

theorem TT.len_lt_count : {n : Nat} → (t : TT n) → t.len < t.count
  | 0, t => Empty.elim t
  | n + 1, t => by
    have := length_le_sum (t.2.2.map (TT.count (n := n))) (fun x hx => by simp only [List.mem_map] at hx; obtain ⟨y, _, rfl⟩ := hx; exact y.count_pos)
    simp only [TT.count, TT.len]
    simp at this
    omega

theorem le_sum_of_mem : ∀ {l : List Nat} {x : Nat}, x ∈ l → x ≤ l.sum
  | y :: ys, x, h => by
    rcases List.mem_cons.1 h with rfl | h
    · simp
    · have := le_sum_of_mem h
      simp only [List.sum_cons]; omega

theorem TT.count_kid {n : Nat} (t : TT (n + 1)) {x : TT n} (h : x ∈ t.2.2) : x.count < t.count := by
  have := le_sum_of_mem (l := t.2.2.map (TT.count (n := n))) (List.mem_map_of_mem h)
  simp only [TT.count]
  omega

/-! ### the height -/

theorem foldl_max_le {l : List Nat} {a m : Nat} : l.foldl max a ≤ m ↔ a ≤ m ∧ ∀ x ∈ l, x ≤ m := by
  induction l generalizing a with
  | nil => simp
  | cons y ys ih =>
    simp only [List.foldl_cons, ih, List.mem_cons, forall_eq_or_imp, Nat.max_le, and_assoc]

theorem height_le {n : Nat} {t : TT (n + 1)} {m : Nat} : t.height ≤ m ↔ ∀ x ∈ t.2.2, 1 + x.height ≤ m := by
  simp only [TT.height, foldl_max_le, List.mem_map, Nat.zero_le, true_and, forall_exists_index, and_imp, forall_apply_eq_imp_iff₂]

/-! ### two renamings -/

theorem TT.ren_ren {m m' : Nat} {too too' too'' : Nat → Int} (h1 : ∀ k r r' r'', renR m too k r = some r' → renR m' too' k r' = some r'' → renR m too'' k r = some r'') :
    {n : Nat} → {t u v : TT n} → t.ren m too = some u → u.ren m' too' = some v → t.ren m too'' = some v
  | 0, t, _, _, _, _ => Empty.elim t
  | n + 1, t, u, v, hu, hv => by
    simp only [TT.ren] at hu hv ⊢
    cases e1 : renR m too t.1 t.2.1 with
    | none => simp [e1] at hu
    | some r1 =>
      simp only [e1] at hu
      cases e2 : renL (TT.ren m too) t.2.2 with
      | none => simp [e2] at hu
      | some l1 =>
        simp only [e2] at hu
        have hu := Option.some.inj hu
        subst hu
        simp only at hv
        cases e3 : renR m' too' t.1 r1 with
        | none => simp [e3] at hv
        | some r2 =>
          simp only [e3] at hv
          cases e4 : renL (TT.ren m' too') l1 with
          | none => simp [e4] at hv
          | some l2 =>
            simp only [e4] at hv
            have hv := Option.some.inj hv
            subst hv
            rw [h1 _ _ _ _ e1 e3]
            have e5 : renL (TT.ren m too'') t.2.2 = some l2 := by
              obtain ⟨a1, a2⟩ := renL_iff.1 e2
              obtain ⟨b1, b2⟩ := renL_iff.1 e4
              refine renL_iff.2 ⟨b1.trans a1, fun i x hx => ?_⟩
              have hi : i < l1.length := by rw [a1]; exact (List.getElem?_eq_some_iff.1 hx).1
              have ha := a2 i x hx
              rw [List.getElem?_eq_getElem hi] at ha
              have hb := b2 i l1[i] (List.getElem?_eq_getElem hi)
              have hi2 : i < l2.length := by omega
              rw [List.getElem?_eq_getElem hi2] at hb ⊢
              exact TT.ren_ren h1 ha hb
            simp only [e5]

/-- What is renamed over regions that all have a name is renamed. -/
theorem TT.ren_some {m : Nat} {too : Nat → Int} (P : Int → Int → Prop) (h1 : ∀ k r, P k r → ∃ r', renR m too k r = some r') :
    {n : Nat} → (Q : {n : Nat} → TT n → Prop) → (∀ {n : Nat} (t : TT (n + 1)), Q t → P t.1 t.2.1 ∧ ∀ x ∈ t.2.2, Q x) → (t : TT n) → Q t → ∃ u, t.ren m too = some u
  | 0, _, _, t, _ => Empty.elim t
  | n + 1, Q, hQ, t, hq => by
    obtain ⟨p1, p2⟩ := hQ t hq
    obtain ⟨r', hr⟩ := h1 _ _ p1
    have : ∃ l', renL (TT.ren m too) t.2.2 = some l' := by
      generalize t.2.2 = l at p2
      induction l with
      | nil => exact ⟨[], rfl⟩
      | cons x xs ih =>
        obtain ⟨u, hu⟩ := TT.ren_some P h1 Q hQ x (p2 x (by simp))
        obtain ⟨us, hus⟩ := ih (fun y hy => p2 y (by simp [hy]))
        exact ⟨u :: us, by simp [renL, hu, hus]⟩
    obtain ⟨l', hl⟩ := this
    exact ⟨((t.1, r', l') : Int × Int × List (TT n)), by simp only [TT.ren, hr, hl]⟩

theorem TT.ren_height {m : Nat} {too : Nat → Int} : {n : Nat} → {t u : TT n} → t.ren m too = some u → u.height = t.height
  | 0, t, _, _ => Empty.elim t
  | n + 1, t, u, h => by
    simp only [TT.ren] at h
    cases e1 : renR m too t.1 t.2.1 with
    | none => simp [e1] at h
    | some r1 =>
      simp only [e1] at h
      cases e2 : renL (TT.ren m too) t.2.2 with
      | none => simp [e2] at h
      | some l1 =>
        simp only [e2] at h
        have h := Option.some.inj h
        subst h
        simp only [TT.height]
        congr 1
        obtain ⟨a1, a2⟩ := renL_iff.1 e2
        apply List.ext_getElem (by simp [a1])
        intro i h1 h2
        simp at h1 h2
        have ha := a2 i t.2.2[i] (List.getElem?_eq_getElem h2)
        rw [List.getElem?_eq_getElem h1] at ha
        simp [TT.ren_height ha]

theorem TT.ren_fault {m : Nat} {too : Nat → Int} {regs : Int} (h1 : ∀ k r r' len, renR m too k r = some r' → ownC k r' len regs = ownC k r len regs) :
    {n : Nat} → {t u : TT n} → t.ren m too = some u → u.fault regs = t.fault regs
  | 0, t, _, _ => Empty.elim t
  | n + 1, t, u, h => by
    simp only [TT.ren] at h
    cases e1 : renR m too t.1 t.2.1 with
    | none => simp [e1] at h
    | some r1 =>
      simp only [e1] at h
      cases e2 : renL (TT.ren m too) t.2.2 with
      | none => simp [e2] at h
      | some l1 =>
        simp only [e2] at h
        have h := Option.some.inj h
        subst h
        obtain ⟨a1, a2⟩ := renL_iff.1 e2
        have hf : firstL (TT.fault regs) l1 = firstL (TT.fault regs) t.2.2 := by
          refine firstL_congr a1.symm (fun i x y hx hy => ?_)
          have ha := a2 i y hy
          rw [hx] at ha
          exact TT.ren_fault h1 ha
        simp only [TT.fault, a1, h1 _ _ _ _ e1, hf]

theorem TT.fault_zero {n : Nat} {t : TT (n + 1)} {regs : Int} (h : t.fault regs = 0) : ownC t.1 t.2.1 t.2.2.length regs = 0 ∧ ∀ x ∈ t.2.2, x.fault regs = 0 := by
  simp only [TT.fault] at h
  split at h
  · contradiction
  · rename_i h1
    exact ⟨by simpa using h1, firstL_zero_iff.1 h⟩
end Go.Proofs.Ytmnmnokkojcodab
/-
  Where a type's tree lies in memory, and that it lies there still behind what turns nothing of it; a tree that came in. No function of the program is spoken of.
-/
namespace Go.Proofs.Ytmnmnokkojcodab
open Go.ChangeShapes Go.WideShapes Go.ChangeAt Go.RowKit Go.Deep
set_option linter.unusedVariables false

/-- Whatever block; the blocks from lo on; those from lo on that a slice's row is not. -/
abbrev All : Nat → Prop := fun _ => True
abbrev From (lo : Nat) : Nat → Prop := fun g => lo ≤ g
abbrev But (lo : Nat) (v : Value) : Nat → Prop := fun g => lo ≤ g ∧ v.ownBlock ≠ some g

/-- The lists of t lie in w, the first at a; all of their blocks among O. -/
def TIn (w : World) (O : Nat → Prop) : {n : Nat} → TT n → Option Addr → Prop
  | 0, t, _ => Empty.elim t
  | n + 1, t, a => ∀ (i : Nat) (x : TT n), t.2.2[i]? = some x → ∃ g o a' c', a = some ⟨g, o, none⟩ ∧ O g ∧
      w.cell? ⟨g, o + i * 3, none⟩ = some (.int .i64 x.kind) ∧ w.cell? ⟨g, o + i * 3 + 1, none⟩ = some (.int .i64 x.r) ∧ w.cell? ⟨g, o + i * 3 + 2, none⟩ = some (.slice a' x.len c') ∧ TIn w O (n := n) x a'

/-- The value of a type. -/
abbrev Tv {n : Nat} (t : TT n) (a : Option Addr) (c : Nat) : Value := .agg #[.int .i64 t.kind, .int .i64 t.r, .slice a t.len c]

/-- A list of types. -/
abbrev mkT {n : Nat} (k r : Int) (l : List (TT n)) : TT (n + 1) := (k, r, l)
abbrev LIn (w : World) (O : Nat → Prop) {n : Nat} (l : List (TT n)) (a : Option Addr) : Prop := TIn w O (mkT 0 0 l) a

theorem TIn.list {w : World} {O : Nat → Prop} {n : Nat} {t : TT (n + 1)} {a : Option Addr} (h : TIn w O t a) : LIn w O t.2.2 a := h
theorem LIn.tree {w : World} {O : Nat → Prop} {n : Nat} {k r : Int} {l : List (TT n)} {a : Option Addr} (h : LIn w O l a) : TIn w O (mkT k r l) a := h

theorem LIn.at {w : World} {O : Nat → Prop} {n : Nat} {l : List (TT n)} {a : Option Addr} (h : LIn w O l a) {i : Nat} {x : TT n} (hx : l[i]? = some x) :
    ∃ g o a' c', a = some ⟨g, o, none⟩ ∧ O g ∧
      w.cell? ⟨g, o + i * 3, none⟩ = some (.int .i64 x.kind) ∧ w.cell? ⟨g, o + i * 3 + 1, none⟩ = some (.int .i64 x.r) ∧ w.cell? ⟨g, o + i * 3 + 2, none⟩ = some (.slice a' x.len c') ∧ TIn w O x a' := h i x hx

theorem LIn.nil {w : World} {O : Nat → Prop} {n : Nat} {a : Option Addr} : LIn w O ([] : List (TT n)) a := fun i x h => by simp at h

theorem TIn.keep {w w' : World} {O O' : Nat → Prop} (hb : ∀ k, O k → k < w.heap.size → w'.heap[k]? = w.heap[k]?) (hl : ∀ k, O k → k < w.heap.size → O' k) : {n : Nat} → {t : TT n} → {a : Option Addr} → TIn w O t a → TIn w' O' t a
  | 0, t, _, _ => Empty.elim t
  | n + 1, t, a, h => fun i x hx => by
    obtain ⟨g, o, a', c', e, hg, h1, h2, h3, h4⟩ := h i x hx
    have hgl : g < w.heap.size := World.block_lt_of_cell? w ⟨g, o + i * 3, none⟩ h1
    have hk : w'.heap[g]? = w.heap[g]? := hb g hg hgl
    refine ⟨g, o, a', c', e, hl g hg hgl, ?_, ?_, ?_, TIn.keep hb hl h4⟩
    · exact (World.cell?_of_block (w := w) (a := ⟨g, o + i * 3, none⟩) hk).trans h1
    · exact (World.cell?_of_block (w := w) (a := ⟨g, o + i * 3 + 1, none⟩) hk).trans h2
    · exact (World.cell?_of_block (w := w) (a := ⟨g, o + i * 3 + 2, none⟩) hk).trans h3

section
variable {w w' : World} {O O' : Nat → Prop} {n : Nat} {t : TT n} {a : Option Addr}
theorem TIn.below (h : TIn w O t a) (b : Below w.heap.size w w') : TIn w' O t a := h.keep (fun k _ hk => b.block k hk) (fun _ h _ => h)
theorem TIn.mono (h : TIn w O t a) (hl : ∀ k, O k → k < w.heap.size → O' k) : TIn w O' t a := h.keep (fun k _ _ => rfl) hl
theorem TIn.all (h : TIn w O t a) : TIn w All t a := h.mono (fun _ _ _ => trivial)
theorem TIn.alloc (h : TIn w O t a) (o : Obj) : TIn (w.alloc o) O t a := h.keep (fun k _ hk => Below.heap_alloc _ _ _ hk) (fun _ h _ => h)
theorem TIn.setCell (h : TIn w O t a) {p : Addr} (hp : ¬ O p.block) (v : Value) : TIn (w.setCell p v) O t a :=
  h.keep (fun k hk _ => Below.heap_setCell _ _ _ _ (fun e => by subst e; exact hp hk)) (fun _ h _ => h)
theorem TIn.drew (h : TIn w O t a) : TIn w.drew O t a := h.keep (w := w) (w' := w.drew) (fun k _ _ => rfl) (fun _ h _ => h)
theorem TIn.drewN (h : TIn w O t a) (m : Nat) : TIn (w.drewN m) O t a := h.keep (w := w) (w' := w.drewN m) (fun k _ _ => rfl) (fun _ h _ => h)
end

/-- The parts of a tree that is given by its parts. -/
theorem TT.parts {n : Nat} (t : TT (n + 1)) : t = mkT t.kind t.r t.2.2 := rfl
theorem TT.len_eq {n : Nat} (t : TT (n + 1)) : t.len = t.2.2.length := rfl

/-- A list of functions' values. -/
theorem list_of {α : Type} {P : Nat → α → Prop} (m : Nat) (h : ∀ i, i < m → ∃ x, P i x) : ∃ l : List α, l.length = m ∧ ∀ i x, l[i]? = some x → P i x := by
  induction m with
  | zero => exact ⟨[], rfl, fun i x hx => by simp at hx⟩
  | succ m ih =>
    obtain ⟨l, hl, hp⟩ := ih (fun i hi => h i (by omega))
    obtain ⟨x, hx⟩ := h m (by omega)
    refine ⟨l ++ [x], by simp [hl], fun i y hy => ?_⟩
    rw [List.getElem?_append] at hy
    split at hy
    · exact hp i y hy
    · rename_i hi
      have : i = m := by
        have := (List.getElem?_eq_some_iff.1 hy).1
        simp at this
        omega
      subst this
      simp [hl] at hy
      subst hy
      exact hx

set_option maxRecDepth 100000 in
/-- A tree that came in. -/
theorem tin_of {H : Type} {enc : TypeId × Value → H} {P : Program} {w : World} {base : Nat} {spare : Nat → Bool} {held : Bool} {tt ts ti : TypeId} {f0 f1 f2 : Field}
    (hs : P.underlying ts = some (.slice tt)) (ht : P.underlying tt = some (.struct #[f0, f1, f2])) (hc : P.cellsOf tt = 3)
    (h0 : f0.offset = 0 ∧ P.cellsOf f0.type = 1 ∧ P.underlying f0.type = some (.int .i64)) (h1 : f1.offset = 1 ∧ P.cellsOf f1.type = 1 ∧ P.underlying f1.type = some (.int .i64))
    (h2 : f2.offset = 2 ∧ P.cellsOf f2.type = 1 ∧ f2.type = ts) : ∀ (n fuel : Nat), fuel ≤ n → ∀ {cs : List Value} {x : DataW H × List MemPlace},
    DataW.trod enc P w base spare held fuel tt cs = some x → ∃ (T : TT n) (a : Option Addr) (c : Nat), cs = [.int .i64 T.kind, .int .i64 T.r, .slice a T.len c] ∧ TIn w All T a ∧ T.ok := by
  intro n
  induction n with
  | zero =>
    intro fuel hf cs x h
    obtain rfl : fuel = 0 := by omega
    simp [DataW.trod] at h
  | succ n ih =>
    intro fuel hf cs x h
    obtain ⟨xs, m, rfl, _, hcl, hxl, hfl⟩ := DataW.trod_struct ht h
    have hxl' : xs.length = 3 := hxl
    have g0 := hfl 0 f0 rfl
    have g1 := hfl 1 f1 rfl
    have g2 := hfl 2 f2 rfl
    rw [h0.1, h0.2.1, List.getElem?_eq_getElem (by omega)] at g0
    rw [h1.1, h1.2.1, List.getElem?_eq_getElem (by omega)] at g1
    rw [h2.1, h2.2.1, h2.2.2, List.getElem?_eq_getElem (by omega)] at g2
    obtain ⟨k, e0, _, _⟩ := DataW.trod_int h0.2.2 g0
    obtain ⟨r, e1, _, wf1⟩ := DataW.trod_int h1.2.2 g1
    have ew : -9223372036854775808 ≤ r ∧ r ≤ 9223372036854775807 := by
      have := Go.bounds_i64 wf1
      omega
    rw [hc] at hcl
    obtain ⟨c0, c1, c2, rfl⟩ : ∃ c0 c1 c2, cs = [c0, c1, c2] := by
      match cs, hcl with
      | [c0, c1, c2], _ => exact ⟨_, _, _, rfl⟩
    simp at e0 e1
    subst e0 e1
    rcases DataW.trod_slice hs g2 with ⟨e2, _⟩ | ⟨a, len, cap, elems, rest, q, rfl, e2, _, hb, hl, hm, hlen, hel, _, _⟩
    · simp at e2
      subst e2
      exact ⟨mkT k r [], none, 0, rfl, LIn.nil, ew, fun x hx => by cases hx⟩
    · simp at e2
      subst e2
      obtain ⟨l, hll, hp⟩ := list_of (P := fun i (T : TT n) => ∃ a' c', w.cells? base (a.add (i * 3)) 3 = some [.int .i64 T.kind, .int .i64 T.r, .slice a' T.len c'] ∧ TIn w All T a' ∧ T.ok) len (fun i hi => by
        have he := hel i hi
        rw [List.getElem?_eq_getElem (by omega), hc] at he
        rw [Option.bind_eq_some_iff] at he
        obtain ⟨cs', hcs, htr⟩ := he
        obtain ⟨T, a', c', rfl, t1, t2⟩ := ih q (by omega) htr
        exact ⟨T, a', c', hcs, t1, t2⟩)
      refine ⟨mkT k r l, some a, cap, by simp [TT.kind, TT.r, TT.len, hll], fun i x hx => ?_, ew, fun x hx => ?_⟩
      · obtain ⟨a', c', hcs, t1, t2⟩ := hp i x hx
        obtain ⟨_, hcl', hcell⟩ := World.cells?_some hcs
        have q0 := hcell 0 (by omega)
        have q1 := hcell 1 (by omega)
        have q2 := hcell 2 (by omega)
        obtain ⟨b, off, spot⟩ := a
        have hspot : spot = none := by
          have hi : 0 < l.length := Nat.lt_of_le_of_lt (Nat.zero_le i) (List.getElem?_eq_some_iff.1 hx).1
          obtain ⟨_, _, hcs0, _, _⟩ := hp 0 l[0] (List.getElem?_eq_getElem hi)
          have := (World.cells?_some hcs0).2.2 0 (by omega)
          simpa [Addr.add] using World.cell?_spot this
        subst hspot
        rw [Go.WideShapes.add_plain, Go.WideShapes.add_plain] at q0 q1 q2
        exact ⟨b, off, a', c', rfl, trivial, q0, q1, q2, t1⟩
      · obtain ⟨i, hi, rfl⟩ := List.mem_iff_getElem.1 hx
        obtain ⟨a', c', hcs, t1, t2⟩ := hp i l[i] (List.getElem?_eq_getElem hi)
        exact t2

#print axioms tin_of
end Go.Proofs.Ytmnmnokkojcodab
/-
  Modules as plain data, and how they lie in memory. No function of the program is spoken of.
-/
namespace Go.Proofs.Ytmnmnokkojcodab
open Go.ChangeShapes Go.WideShapes Go.ChangeAt Go.RowKit Go.Deep
set_option linter.unusedVariables false

structure MIns where
  op : Int
  a : Int
  b : Int
  c : Int
  k : Int
  n : Int
  regs : List Int
  args : List Int
structure MTo where
  block : Int
  regs : List Int
  args : List Int
structure MEnd where
  op : Int
  a : Int
  yes : MTo
  no : MTo
  args : List Int
structure MBlock (n : Nat) where
  regs : Int
  params : List (TT n)
  code : List MIns
  fin : MEnd
structure MFunc (n : Nat) where
  regs : Int
  params : List (TT n)
  results : List (TT n)
  blocks : List (MBlock n)

/-- Said by other data. -/
def Lay.via {α β : Type} (A : Lay α) (f : β → α) : Lay β where
  size := A.size
  In := fun w O x cs => A.In w O (f x) cs
  len := fun h => A.len h
  keep := fun hb hl h => A.keep hb hl h
theorem Reads.via {P : Program} {t : TypeId} {α β : Type} {A : Lay α} {n : Nat} {f : β → α} (h : Reads P t A n) (g : α → β) (hg : ∀ d, f (g d) = d) : Reads P t (A.via f) n :=
  ⟨h.1, fun hf h' => by
    obtain ⟨d, hd⟩ := h.2 hf h'
    exact ⟨g d, by show A.In _ _ (f (g d)) _; rw [hg]; exact hd⟩⟩

/-- A type. -/
def Lay.tt (n : Nat) : Lay (TT n) where
  size := 3
  In := fun w O t cs => ∃ a c, cs = [.int .i64 t.kind, .int .i64 t.r, .slice a t.len c] ∧ TIn w O t a ∧ t.ok
  len := fun ⟨_, _, e, _⟩ => by rw [e]; rfl
  keep := fun hb hl ⟨a, c, e, h1, h2⟩ => ⟨a, c, e, h1.keep hb hl, h2⟩

abbrev intsL : Lay (List Int) := Lay.int.list
abbrev typesL (n : Nat) : Lay (List (TT n)) := (Lay.tt n).list
def insL : Lay MIns := (Lay.int.pair (Lay.int.pair (Lay.int.pair (Lay.int.pair (Lay.int.pair (Lay.int.pair (intsL.pair intsL))))))).via (fun x => (x.op, x.a, x.b, x.c, x.k, x.n, x.regs, x.args))
def toL : Lay MTo := (Lay.int.pair (intsL.pair intsL)).via (fun x => (x.block, x.regs, x.args))
def endL : Lay MEnd := (Lay.int.pair (Lay.int.pair (toL.pair (toL.pair intsL)))).via (fun x => (x.op, x.a, x.yes, x.no, x.args))
def blockL (n : Nat) : Lay (MBlock n) := (Lay.int.pair ((typesL n).pair (insL.list.pair endL))).via (fun x => (x.regs, x.params, x.code, x.fin))
def funcL (n : Nat) : Lay (MFunc n) := (Lay.int.pair ((typesL n).pair ((typesL n).pair (blockL n).list))).via (fun x => (x.regs, x.params, x.results, x.blocks))
/-- A module: its functions. -/
abbrev modL (n : Nat) : Lay (List (MFunc n)) := (funcL n).list

section
variable {w : World} {O : Nat → Prop} {n : Nat} {cs : List Value}
theorem list_form {α : Type} {A : Lay α} {l : List α} (h : A.list.In w O l cs) : ∃ a c, cs = [.slice a l.length c] ∧ A.list.In w O l [.slice a l.length c] := by
  obtain ⟨a, c, e, h⟩ := h
  exact ⟨a, c, e, a, c, rfl, h⟩
theorem to_form {x : MTo} (h : toL.In w O x cs) : ∃ a c b d, cs = [.int .i64 x.block, .slice a x.regs.length c, .slice b x.args.length d] ∧ intsL.In w O x.regs [.slice a x.regs.length c] ∧ intsL.In w O x.args [.slice b x.args.length d] ∧ (-9223372036854775808 ≤ x.block ∧ x.block ≤ 9223372036854775807) := by
  obtain ⟨_, _, rfl, ⟨rfl, h0⟩, ⟨_, _, rfl, h1, h2⟩⟩ := h
  obtain ⟨a, c, rfl, h1⟩ := list_form h1
  obtain ⟨b, d, rfl, h2⟩ := list_form h2
  exact ⟨a, c, b, d, rfl, h1, h2, h0⟩
theorem to_mk {x : MTo} {a b : Option Addr} {c d : Nat} (h1 : intsL.In w O x.regs [.slice a x.regs.length c]) (h2 : intsL.In w O x.args [.slice b x.args.length d]) (h0 : -9223372036854775808 ≤ x.block ∧ x.block ≤ 9223372036854775807) :
    toL.In w O x [.int .i64 x.block, .slice a x.regs.length c, .slice b x.args.length d] := ⟨_, _, rfl, ⟨rfl, h0⟩, ⟨_, _, rfl, h1, h2⟩⟩
theorem ins_form {x : MIns} (h : insL.In w O x cs) : ∃ a c b d, cs = [.int .i64 x.op, .int .i64 x.a, .int .i64 x.b, .int .i64 x.c, .int .i64 x.k, .int .i64 x.n, .slice a x.regs.length c, .slice b x.args.length d] ∧ intsL.In w O x.regs [.slice a x.regs.length c] ∧ intsL.In w O x.args [.slice b x.args.length d] ∧
    ((-9223372036854775808 ≤ x.op ∧ x.op ≤ 9223372036854775807) ∧ (-9223372036854775808 ≤ x.a ∧ x.a ≤ 9223372036854775807) ∧ (-9223372036854775808 ≤ x.b ∧ x.b ≤ 9223372036854775807) ∧ (-9223372036854775808 ≤ x.c ∧ x.c ≤ 9223372036854775807) ∧ (-9223372036854775808 ≤ x.k ∧ x.k ≤ 9223372036854775807) ∧ (-9223372036854775808 ≤ x.n ∧ x.n ≤ 9223372036854775807)) := by
  obtain ⟨_, _, rfl, ⟨rfl, h0⟩, ⟨_, _, rfl, ⟨rfl, h1⟩, ⟨_, _, rfl, ⟨rfl, h2⟩, ⟨_, _, rfl, ⟨rfl, h3⟩, ⟨_, _, rfl, ⟨rfl, h4⟩, ⟨_, _, rfl, ⟨rfl, h5⟩, ⟨_, _, rfl, h6, h7⟩⟩⟩⟩⟩⟩⟩ := h
  obtain ⟨a, c, rfl, h6⟩ := list_form h6
  obtain ⟨b, d, rfl, h7⟩ := list_form h7
  exact ⟨a, c, b, d, rfl, h6, h7, h0, h1, h2, h3, h4, h5⟩
theorem ins_mk {x : MIns} {a b : Option Addr} {c d : Nat} (h1 : intsL.In w O x.regs [.slice a x.regs.length c]) (h2 : intsL.In w O x.args [.slice b x.args.length d])
    (h0 : (-9223372036854775808 ≤ x.op ∧ x.op ≤ 9223372036854775807) ∧ (-9223372036854775808 ≤ x.a ∧ x.a ≤ 9223372036854775807) ∧ (-9223372036854775808 ≤ x.b ∧ x.b ≤ 9223372036854775807) ∧ (-9223372036854775808 ≤ x.c ∧ x.c ≤ 9223372036854775807) ∧ (-9223372036854775808 ≤ x.k ∧ x.k ≤ 9223372036854775807) ∧ (-9223372036854775808 ≤ x.n ∧ x.n ≤ 9223372036854775807)) :
    insL.In w O x [.int .i64 x.op, .int .i64 x.a, .int .i64 x.b, .int .i64 x.c, .int .i64 x.k, .int .i64 x.n, .slice a x.regs.length c, .slice b x.args.length d] :=
  ⟨_, _, rfl, ⟨rfl, h0.1⟩, ⟨_, _, rfl, ⟨rfl, h0.2.1⟩, ⟨_, _, rfl, ⟨rfl, h0.2.2.1⟩, ⟨_, _, rfl, ⟨rfl, h0.2.2.2.1⟩, ⟨_, _, rfl, ⟨rfl, h0.2.2.2.2.1⟩, ⟨_, _, rfl, ⟨rfl, h0.2.2.2.2.2⟩, ⟨_, _, rfl, h1, h2⟩⟩⟩⟩⟩⟩⟩
theorem end_form {x : MEnd} (h : endL.In w O x cs) : ∃ c1 c2 a c, cs = .int .i64 x.op :: .int .i64 x.a :: (c1 ++ (c2 ++ [.slice a x.args.length c])) ∧ toL.In w O x.yes c1 ∧ toL.In w O x.no c2 ∧ intsL.In w O x.args [.slice a x.args.length c] ∧ ((-9223372036854775808 ≤ x.op ∧ x.op ≤ 9223372036854775807) ∧ (-9223372036854775808 ≤ x.a ∧ x.a ≤ 9223372036854775807)) := by
  obtain ⟨_, _, rfl, ⟨rfl, h0⟩, ⟨_, _, rfl, ⟨rfl, h1⟩, ⟨c1, _, rfl, h2, ⟨c2, _, rfl, h3, h4⟩⟩⟩⟩ := h
  obtain ⟨a, c, rfl, h4⟩ := list_form h4
  exact ⟨c1, c2, a, c, rfl, h2, h3, h4, h0, h1⟩
theorem end_mk {x : MEnd} {c1 c2 : List Value} {a : Option Addr} {c : Nat} (h2 : toL.In w O x.yes c1) (h3 : toL.In w O x.no c2) (h4 : intsL.In w O x.args [.slice a x.args.length c]) (h0 : (-9223372036854775808 ≤ x.op ∧ x.op ≤ 9223372036854775807) ∧ (-9223372036854775808 ≤ x.a ∧ x.a ≤ 9223372036854775807)) :
    endL.In w O x (.int .i64 x.op :: .int .i64 x.a :: (c1 ++ (c2 ++ [.slice a x.args.length c]))) := ⟨[_], _, rfl, ⟨rfl, h0.1⟩, ⟨[_], _, rfl, ⟨rfl, h0.2⟩, ⟨c1, _, rfl, h2, ⟨c2, _, rfl, h3, h4⟩⟩⟩⟩
theorem block_form {x : MBlock n} (h : (blockL n).In w O x cs) : ∃ a c b d es, cs = .int .i64 x.regs :: .slice a x.params.length c :: .slice b x.code.length d :: es ∧ (typesL n).In w O x.params [.slice a x.params.length c] ∧ insL.list.In w O x.code [.slice b x.code.length d] ∧ endL.In w O x.fin es ∧ (-9223372036854775808 ≤ x.regs ∧ x.regs ≤ 9223372036854775807) := by
  obtain ⟨_, _, rfl, ⟨rfl, h0⟩, ⟨_, _, rfl, h1, ⟨_, es, rfl, h2, h3⟩⟩⟩ := h
  obtain ⟨a, c, rfl, h1⟩ := list_form h1
  obtain ⟨b, d, rfl, h2⟩ := list_form h2
  exact ⟨a, c, b, d, es, rfl, h1, h2, h3, h0⟩
theorem block_mk {x : MBlock n} {a b : Option Addr} {c d : Nat} {es : List Value} (h1 : (typesL n).In w O x.params [.slice a x.params.length c]) (h2 : insL.list.In w O x.code [.slice b x.code.length d]) (h3 : endL.In w O x.fin es) (h0 : -9223372036854775808 ≤ x.regs ∧ x.regs ≤ 9223372036854775807) :
    (blockL n).In w O x (.int .i64 x.regs :: .slice a x.params.length c :: .slice b x.code.length d :: es) := ⟨[_], _, rfl, ⟨rfl, h0⟩, ⟨[_], _, rfl, h1, ⟨[_], es, rfl, h2, h3⟩⟩⟩
theorem func_form {x : MFunc n} (h : (funcL n).In w O x cs) : ∃ a c b d e f, cs = [.int .i64 x.regs, .slice a x.params.length c, .slice b x.results.length d, .slice e x.blocks.length f] ∧ (typesL n).In w O x.params [.slice a x.params.length c] ∧ (typesL n).In w O x.results [.slice b x.results.length d] ∧ (blockL n).list.In w O x.blocks [.slice e x.blocks.length f] ∧ (-9223372036854775808 ≤ x.regs ∧ x.regs ≤ 9223372036854775807) := by
  obtain ⟨_, _, rfl, ⟨rfl, h0⟩, ⟨_, _, rfl, h1, ⟨_, _, rfl, h2, h3⟩⟩⟩ := h
  obtain ⟨a, c, rfl, h1⟩ := list_form h1
  obtain ⟨b, d, rfl, h2⟩ := list_form h2
  obtain ⟨e, f, rfl, h3⟩ := list_form h3
  exact ⟨a, c, b, d, e, f, rfl, h1, h2, h3, h0⟩
theorem func_mk {x : MFunc n} {a b e : Option Addr} {c d f : Nat} (h1 : (typesL n).In w O x.params [.slice a x.params.length c]) (h2 : (typesL n).In w O x.results [.slice b x.results.length d]) (h3 : (blockL n).list.In w O x.blocks [.slice e x.blocks.length f]) (h0 : -9223372036854775808 ≤ x.regs ∧ x.regs ≤ 9223372036854775807) :
    (funcL n).In w O x [.int .i64 x.regs, .slice a x.params.length c, .slice b x.results.length d, .slice e x.blocks.length f] := ⟨[_], _, rfl, ⟨rfl, h0⟩, ⟨[_], _, rfl, h1, ⟨[_], _, rfl, h2, h3⟩⟩⟩

/-- A list of numbers: the cells. -/
theorem ints_at {l : List Int} {a : Option Addr} {m c : Nat} (h : intsL.In w O l [.slice a m c]) {i : Nat} (hi : i < l.length) : ∃ g o, a = some ⟨g, o, none⟩ ∧ O g ∧ g < w.heap.size ∧ w.cell? ⟨g, o + i, none⟩ = some (.int .i64 (l.getD i 0)) := by
  obtain ⟨g, o, ds, e, h1, h2, h3, rfl, _⟩ := Lay.list_at h (List.getElem?_eq_getElem hi)
  refine ⟨g, o, e, h1, h2, ?_⟩
  have := h3 0 (by decide)
  have hs : Lay.int.size = 1 := rfl
  rw [hs, Nat.mul_one, Nat.add_zero] at this
  rw [this]
  simp [List.getD, hi]
/-- A list of types, in the words of the texts on types. -/
theorem types_lin {l : List (TT n)} {a : Option Addr} {m c : Nat} (h : (typesL n).In w O l [.slice a m c]) : LIn w O l a ∧ ∀ x ∈ l, x.ok := by
  refine ⟨fun i x hx => ?_, fun x hx => ?_⟩
  · obtain ⟨g, o, ds, e, h1, h2, h3, a', c', rfl, h4, _⟩ := Lay.list_at h hx
    have hs : (Lay.tt n).size = 3 := rfl
    rw [hs] at h3
    exact ⟨g, o, a', c', e, h1, by simpa using h3 0 (by omega), by simpa using h3 1 (by omega), by simpa using h3 2 (by omega), h4⟩
  · obtain ⟨i, hi, rfl⟩ := List.mem_iff_getElem.1 hx
    obtain ⟨g, o, ds, e, h1, h2, h3, a', c', rfl, h4, h5⟩ := Lay.list_at h (List.getElem?_eq_getElem hi)
    exact h5
theorem types_of_lin {l : List (TT n)} {a : Option Addr} {c : Nat} (h : LIn w O l a) (hok : ∀ x ∈ l, x.ok) : (typesL n).In w O l [.slice a l.length c] := by
  refine ⟨a, c, rfl, fun i x hx => ?_⟩
  obtain ⟨g, o, a', c', e, h1, h2, h3, h4, h5⟩ := LIn.at h hx
  refine ⟨g, o, [.int .i64 x.kind, .int .i64 x.r, .slice a' x.len c'], e, h1, World.block_lt_of_cell? w ⟨g, o + i * 3, none⟩ h2, fun j hj => ?_, a', c', rfl, h5, hok x (List.mem_of_getElem? hx)⟩
  have hj' : j < 3 := hj
  have hs : (Lay.tt n).size = 3 := rfl
  rw [hs]
  match j, hj' with
  | 0, _ => exact h2
  | 1, _ => exact h3
  | 2, _ => exact h4
end
end Go.Proofs.Ytmnmnokkojcodab
/-
  What the document's chapter on modules says, as plain functions on modules: the code of an instruction's form, of an end's form, the first fault of a module and where it is.
-/
namespace Go.Proofs.Ytmnmnokkojcodab
set_option linter.unusedVariables false

/-- Which fields an instruction of a kind has: A, B, C, K, N, Regs, Args. -/
def fieldsOf (op : Int) : Option (Bool × Bool × Bool × Bool × Bool × Bool × Bool) :=
  if op = 1 then some (false, false, false, false, true, false, false)
  else if op = 2 ∨ op = 7 then some (true, true, false, true, false, false, false)
  else if op = 3 ∨ op = 12 then some (false, false, false, false, false, false, false)
  else if op = 4 ∨ op = 11 ∨ op = 13 then some (true, false, false, false, false, false, false)
  else if op = 5 then some (true, false, false, false, false, false, true)
  else if op = 6 then some (true, false, false, true, false, false, false)
  else if op = 8 ∨ op = 9 then some (true, true, false, false, false, false, false)
  else if op = 10 then some (true, true, true, false, false, false, false)
  else if op = 14 then some (false, false, false, true, false, true, true)
  else none

/-- A field that it does not have is not 0, or not empty. -/
def MIns.formless (x : MIns) : Bool := match fieldsOf x.op with
  | none => false
  | some (a, b, c, k, n, rg, ar) => (!a && x.a != 0) || (!b && x.b != 0) || (!c && x.c != 0) || (!k && x.k != 0) || (!n && x.n != 0) || (!rg && decide (0 < x.regs.length)) || (!ar && decide (0 < x.args.length))

/-- The code of an instruction's form, in a module of so many functions. -/
def MIns.form (funcs : Nat) (x : MIns) : Int :=
  if (fieldsOf x.op).isNone then 3
  else if x.formless then 4
  else if x.op = 2 ∧ (x.k < 1 ∨ 9 < x.k) then 1
  else if x.op = 5 ∧ 8 < x.args.length then 2
  else if (x.op = 6 ∨ x.op = 7) ∧ (x.k < 0 ∨ 7 < x.k) then 1
  else if x.op = 14 ∧ (x.k < 0 ∨ (funcs : Int) ≤ x.k) then 1
  else if x.op = 14 ∧ (6 < x.regs.length ∨ 8 < x.args.length) then 2
  else 0

def MTo.form (blocks : Nat) (has : Bool) (t : MTo) : Int :=
  if has = false then (if t.block ≠ 0 ∨ 0 < t.regs.length + t.args.length then 4 else 0)
  else if t.block < 0 ∨ (blocks : Int) ≤ t.block then 1
  else if 16 < t.regs.length ∨ 8 < t.args.length then 2
  else 0

/-- The code of an end's form, in a function of so many blocks. -/
def MEnd.form (blocks : Nat) (e : MEnd) : Int :=
  if e.op < 1 ∨ 3 < e.op then 3
  else if (e.a ≠ 0 ∧ e.op ≠ 2) ∨ (0 < e.args.length ∧ e.op ≠ 3) then 4
  else if 8 < e.args.length then 2
  else if e.yes.form blocks (decide (e.op ≠ 3)) ≠ 0 then e.yes.form blocks (decide (e.op ≠ 3))
  else e.no.form blocks (decide (e.op = 2))

def listC {n : Nat} (regs : Int) (l : List (TT n)) : Int := if 8 < l.length then 2 else firstL (TT.check regs) l

/-- The first of a list of faults that is one. -/
def firstF {α : Type} (f : Nat → α → Int × Int) : Nat → List α → Int × Int
  | _, [] => (0, 0)
  | i, x :: xs => if (f i x).1 ≠ 0 then f i x else firstF f (i + 1) xs

/-- Are they one? -/
def TT.dec : (n : Nat) → DecidableEq (TT n)
  | 0 => fun t _ => Empty.elim t
  | n + 1 => fun t u => match (TT.dec n) with
    | d => if h1 : t.1 = u.1 then if h2 : t.2.1 = u.2.1 then match (@List.hasDecEq _ d t.2.2 u.2.2) with
        | isTrue h3 => isTrue (by obtain ⟨a, b, c⟩ := t; obtain ⟨a', b', c'⟩ := u; simp only at h1 h2 h3; subst h1 h2 h3; rfl)
        | isFalse h3 => isFalse (fun e => h3 (by rw [e]))
      else isFalse (fun e => h2 (by rw [e])) else isFalse (fun e => h1 (by rw [e]))
def sameL {n : Nat} (l m : List (TT n)) : Bool := match @List.hasDecEq _ (TT.dec n) l m with
  | isTrue _ => true
  | isFalse _ => false
theorem sameL_iff {n : Nat} {l m : List (TT n)} : sameL l m = true ↔ l = m := by
  unfold sameL
  split
  · rename_i h _; simp [h]
  · rename_i h _; simp [h]

/-- The fault of a block, the number b of the function f. -/
def MBlock.fault {n : Nat} (funcs : Nat) (f : Nat) (fn : MFunc n) (b : Nat) (x : MBlock n) : Int × Int :=
  if x.regs < fn.regs ∨ 16 < x.regs then (1, 10000 * f + 100 * b + 90)
  else if listC x.regs x.params ≠ 0 then (listC x.regs x.params, 10000 * f + 100 * b + 90)
  else if b = 0 ∧ (x.regs ≠ fn.regs ∨ sameL x.params fn.params = false) then (9, 10000 * f + 100 * b + 90)
  else if 40 < x.code.length then (2, 10000 * f + 100 * b + 90)
  else if (firstF (fun i y => (MIns.form funcs y, (10000 * f + 100 * b + i : Int))) 0 x.code).1 ≠ 0 then firstF (fun i y => (MIns.form funcs y, (10000 * f + 100 * b + i : Int))) 0 x.code
  else if x.fin.form fn.blocks.length ≠ 0 then (x.fin.form fn.blocks.length, 10000 * f + 100 * b + 91)
  else (0, 0)

/-- The fault of a function. -/
def MFunc.fault {n : Nat} (funcs : Nat) (f : Nat) (x : MFunc n) : Int × Int :=
  if x.regs < 0 ∨ 6 < x.regs then (1, 10000 * f + 9999)
  else if listC x.regs x.params ≠ 0 then (listC x.regs x.params, 10000 * f + 9999)
  else if listC x.regs x.results ≠ 0 then (listC x.regs x.results, 10000 * f + 9999)
  else if x.blocks.length < 1 ∨ 12 < x.blocks.length then (2, 10000 * f + 9999)
  else if f = 0 ∧ ¬ (x.regs = 0 ∧ x.params.length = 0 ∧ x.results.all (fun t => t.kind == 1) = true) then (18, 10000 * f + 9999)
  else firstF (fun b y => MBlock.fault funcs f x b y) 0 x.blocks

/-- The fault of a module: its code and where it is. -/
def modFault {n : Nat} (m : List (MFunc n)) : Int × Int :=
  if m.length < 1 ∨ 8 < m.length then (2, -1) else firstF (fun f x => MFunc.fault m.length f x) 0 m

/-- More than is gone through in time? -/
def greatTs {n : Nat} (l : List (TT n)) : Prop := 200 < l.length ∨ ∃ t ∈ l, 2000 < t.count
def MBlock.great {n : Nat} (x : MBlock n) : Prop := 200 < x.code.length ∨ greatTs x.params ∨ 300 < x.fin.args.length ∨ 300 < x.fin.yes.regs.length ∨ 300 < x.fin.yes.args.length ∨ 300 < x.fin.no.regs.length ∨ 300 < x.fin.no.args.length ∨ ∃ y ∈ x.code, 300 < y.regs.length ∨ 300 < y.args.length
def MFunc.great {n : Nat} (x : MFunc n) : Prop := 30 < x.blocks.length ∨ greatTs x.params ∨ greatTs x.results ∨ ∃ y ∈ x.blocks, y.great
def greatMod {n : Nat} (m : List (MFunc n)) : Prop := 20 < m.length ∨ ∃ x ∈ m, x.great

theorem firstF_eq {α : Type} {f : Nat → α → Int × Int} : ∀ {l : List α} {i j : Nat} {x : α}, l[i]? = some x → (∀ k y, k < i → l[k]? = some y → (f (j + k) y).1 = 0) → (f (j + i) x).1 ≠ 0 → firstF f j l = f (j + i) x
  | [], i, j, x, h, _, _ => by simp at h
  | y :: ys, 0, j, x, h, _, hf => by
    simp at h; subst h
    simp only [firstF]
    rw [if_pos (by simpa using hf)]
    rfl
  | y :: ys, i + 1, j, x, h, hz, hf => by
    have h0 : (f j y).1 = 0 := by simpa using hz 0 y (by omega) rfl
    simp only [firstF, h0, ne_eq, not_true_eq_false, if_false]
    have := firstF_eq (f := f) (l := ys) (i := i) (j := j + 1) (x := x) (by simpa using h) (fun k z hk hkz => by have := hz (k + 1) z (by omega) (by simpa using hkz); rwa [show j + 1 + k = j + (k + 1) by omega]) (by rwa [show j + 1 + i = j + (i + 1) by omega])
    rw [this, show j + 1 + i = j + (i + 1) by omega]
theorem firstF_zero {α : Type} {f : Nat → α → Int × Int} : ∀ {l : List α} {j : Nat}, (∀ (k : Nat) y, l[k]? = some y → (f (j + k) y).1 = 0) → firstF f j l = (0, 0)
  | [], _, _ => rfl
  | y :: ys, j, h => by
    have h0 : (f j y).1 = 0 := by simpa using h 0 y rfl
    simp only [firstF, h0, ne_eq, not_true_eq_false, if_false]
    exact firstF_zero (fun k z hz => by have := h (k + 1) z (by simpa using hz); rwa [show j + 1 + k = j + (k + 1) by omega])
end Go.Proofs.Ytmnmnokkojcodab
/-
  The functions that only read a type: what they answer is what the plain functions on trees say.
-/
namespace Go.Proofs.Ytmnmnokkojcodab
open Go.ChangeShapes Go.WideShapes Go.ChangeAt Go.RowKit
set_option linter.unusedVariables false

theorem undrewN_below {B m : Nat} {w w' : World} (h : Below B (w.drewN m) w') : Below B w w' := ⟨h.os, h.tape, h.output, h.size, h.block⟩
theorem drewN_below {B m : Nat} {w w' : World} (h : Below B w w') : Below B w (w'.drewN m) := ⟨h.os, h.tape, h.output, h.size, h.block⟩
/-- What a call leaves that has taken boxes alone. -/
theorem box_cells {w wr : World} {B : Nat} {c : Array Value} {ty : TypeId} (h : wr.heap[B]? = some (.cells c ty (0, 0))) (b : Below wr.heap.size wr w) : w.heap[B]? = some (.cells c ty (0, 0)) :=
  (b.block B (lt_of_block h)).trans h

/-- The one box of a type that came in, and nothing old has turned. -/
structure Bx (w wr : World) (k r : Int) (a : Option Addr) (len c : Nat) : Prop where
  bel : Below w.heap.size w wr
  box : wr.heap[w.heap.size]? = some (.cells #[.int .i64 k, .int .i64 r, .slice a len c] 90 (0, 0))
theorem Bx.start (w : World) (k r : Int) (a : Option Addr) (len c : Nat) : Bx w (w.alloc (.cells #[.int .i64 k, .int .i64 r, .slice a len c] 90)) k r a len c :=
  ⟨(Below.refl _ w).alloc (Nat.le_refl _) _, blockNew w _ _⟩
theorem Bx.lt {w wr : World} {k r : Int} {a : Option Addr} {len c : Nat} (h : Bx w wr k r a len c) : w.heap.size < wr.heap.size := lt_of_block h.box
theorem Bx.below {w wr w' : World} {k r : Int} {a : Option Addr} {len c : Nat} (h : Bx w wr k r a len c) (b : Below wr.heap.size wr w') : Bx w w' k r a len c :=
  ⟨h.bel.trans (b.mono h.bel.size), box_cells h.box b⟩
theorem Bx.alloc {w wr : World} {k r : Int} {a : Option Addr} {len c : Nat} (h : Bx w wr k r a len c) (o : Obj) : Bx w (wr.alloc o) k r a len c :=
  h.below ((Below.refl _ wr).alloc (Nat.le_refl _) _)
theorem Bx.drewN {w wr : World} {k r : Int} {a : Option Addr} {len c : Nat} (h : Bx w wr k r a len c) (m : Nat) : Bx w (wr.drewN m) k r a len c := ⟨⟨h.bel.os, h.bel.tape, h.bel.output, h.bel.size, h.bel.block⟩, h.box⟩
theorem Bx.drew {w wr : World} {k r : Int} {a : Option Addr} {len c : Nat} (h : Bx w wr k r a len c) : Bx w wr.drew k r a len c := h.drewN 1

theorem sum_take_succ {α : Type} (f : α → Nat) (l : List α) (i : Nat) (x : α) (h : l[i]? = some x) : ((l.map f).take (i + 1)).sum = ((l.map f).take i).sum + f x := by
  rw [List.take_add_one, List.getElem?_map, h]
  simp

set_option maxHeartbeats 2000000 in
set_option maxRecDepth 100000 in
/-- typeSize: what is left of so many. -/
theorem size_any : ∀ (n : Nat) (t : TT n) (a : Option Addr) (c : Nat) (w : World) (left : Int), TIn w All t a → 0 ≤ left → left ≤ 2000 →
    Calls Try.prog 92 #[Tv t a c, .int .i64 left] w fun e w' => e = .returned (.int .i64 (max (-1) (left - t.count))) ∧ Below w.heap.size w w' := by
  intro n
  induction n with
  | zero => intro t; exact Empty.elim t
  | succ n ih =>
    intro t a c w left ht h0 h1
    have IH : Hid (∀ (t : TT n) (a : Option Addr) (c : Nat) (w : World) (left : Int), TIn w All t a → 0 ≤ left → left ≤ 2000 →
      Calls Try.prog 92 #[Tv t a c, .int .i64 left] w fun e w' => e = .returned (.int .i64 (max (-1) (left - t.count))) ∧ Below w.heap.size w w') := ih
    clear ih
    have hT : Hid (LIn w All t.2.2 a) := ht.list
    have hc : t.count = 1 + (t.2.2.map TT.count).sum := rfl
    rw [hc]
    clear hc
    simp only [Tv, TT.len_eq]
    generalize t.2.2 = l at hT ⊢
    generalize t.kind = k
    generalize t.r = r
    clear ht t
    go_enter Try.func92, Try.ntmps92
    go_wp2_with fail
    have X0 : Hid (Bx w (w.alloc (.cells #[.int .i64 k, .int .i64 r, .slice a l.length c] 90)) k r a l.length c) := Bx.start w k r a l.length c
    generalize w.alloc (.cells #[.int .i64 k, .int .i64 r, .slice a l.length c] 90) = w1 at X0 ⊢
    go_loopw [1, 5] (fun lf i wr => ∃ q : Nat, q ≤ l.length ∧ i = .int .i64 q ∧ lf = .int .i64 (max (-1) (left - 1 - (((l.map TT.count).take q).sum : Nat))) ∧ Bx w wr k r a l.length c) (fun _ i _ => l.length - (intOf i).toNat)
    case atStart => exact ⟨0, Nat.zero_le _, rfl, by simp; omega, X0.out⟩
    case round =>
      clear X0
      obtain ⟨q, hq, rfl, rfl, hX⟩ := hrel
      generalize hs : (((l.map TT.count).take q).sum : Nat) = s
      have e2 : wr.cell? ⟨w.heap.size, 2, none⟩ = some (.slice a l.length c) := cellOf hX.box 2 _ rfl
      have X1 : Hid (Bx w wr k r a l.length c) := hX
      by_cases hlt : q < l.length
      · by_cases hge : 0 ≤ max (-1) (left - 1 - (s : Int))
        · have hx : l[q]? = some l[q] := List.getElem?_eq_getElem hlt
          generalize l[q] = x at hx
          obtain ⟨g, o, a', c', rfl, _, d0, d1, d2, hk⟩ := LIn.at (hT.out.below hX.bel) hx
          have H : Hid (TIn wr All x a') := hk
          have hS := sum_take_succ TT.count l q x hx
          rw [hs] at hS
          have HS : Hid (((l.map TT.count).take (q + 1)).sum = s + x.count) := hS
          have S : Hid (max (-1) (left - 1 - (s : Int)) ≤ 2000) := by show _ ≤ _; omega
          clear hX hk hx hS
          generalize hm : max (-1) (left - 1 - (s : Int)) = m at hge S
          have M : Hid (max (-1) (left - 1 - (s : Int)) = m) := hm
          clear hm
          have hk0 : (0 : Int) ≤ q := by omega
          have hk1 : (q : Int) < l.length := by omega
          have hk2 : (q : Int) < 2000 := by
            have h3 := length_le_sum ((l.map TT.count).take q) (fun y hy => by obtain ⟨z, _, rfl⟩ := List.mem_map.1 (List.mem_of_mem_take hy); exact z.count_pos)
            have h4 := M.out
            rw [List.length_take, List.length_map] at h3
            omega
          clear hs
          go_wp2_with fail
          refine (IH.out x a' c' _ m H.out hge S.out).mono ?_
          rintro e w2 ⟨rfl, b2⟩
          have X2 : Hid (Bx w w2 k r (some ⟨g, o, none⟩) l.length c) := X1.out.below b2
          clear X1
          go_wp2
          go_roundw
          case rel => exact ⟨q + 1, by omega, by go_num, by rw [HS.out]; have := M.out; have := x.count_pos; congr 1; omega, X2.out⟩
          case measure => simp [intOf]; omega
        · have F : Hid (max (-1) (left - 1 - (s : Int)) = max (-1) (left - ((1 + (l.map TT.count).sum : Nat) : Int))) := by
            have := sum_take_le (l.map TT.count) q
            show _ = _
            omega
          have hge' : max (-1) (left - 1 - (s : Int)) < 0 := by omega
          generalize max (-1) (left - 1 - (s : Int)) = m at F hge' ⊢
          clear hge hs
          have hk1 : (q : Int) < l.length := by omega
          go_wp2
          go_ret
          exact ⟨by show Ending.returned (.int .i64 m) = _; have := F.out; congr 2, X1.out.bel⟩
      · have F : Hid (max (-1) (left - 1 - (s : Int)) = max (-1) (left - ((1 + (l.map TT.count).sum : Nat) : Int))) := by
          rw [List.take_of_length_le (by simp; omega)] at hs
          show _ = _
          omega
        generalize max (-1) (left - 1 - (s : Int)) = m at F ⊢
        clear hs
        have hk1 : ¬ (q : Int) < l.length := by omega
        go_wp2
        go_ret
        exact ⟨by show Ending.returned (.int .i64 m) = _; have := F.out; congr 2, X1.out.bel⟩

/-- GreatType: more than 2000? -/
theorem great_any (n : Nat) (t : TT n) (a : Option Addr) (c : Nat) (w : World) (ht : TIn w All t a) :
    Calls Try.prog 67 #[Tv t a c] w fun e w' => e = .returned (.bool (decide (2000 < t.count))) ∧ Below w.heap.size w w' := by
  have C : Hid (∀ wx, Below w.heap.size w wx → Calls Try.prog 92 #[Tv t a c, .int .i64 2000] wx fun e w' => e = .returned (.int .i64 (max (-1) (2000 - (t.count : Int)))) ∧ Below wx.heap.size wx w') :=
    fun wx hb => size_any n t a c wx 2000 (ht.below hb) (by omega) (by omega)
  clear ht
  simp only [Tv] at C ⊢
  generalize t.kind = k at C ⊢
  generalize t.r = r at C ⊢
  generalize t.len = len at C ⊢
  generalize t.count = q at C ⊢
  go_enter Try.func67, Try.ntmps67
  go_wp2_with fail
  refine (C.out _ ((Below.refl _ w).alloc (Nat.le_refl _) _)).mono ?_
  rintro e w2 ⟨rfl, b2⟩
  have B : Hid (Below w.heap.size w w2) := ((Below.refl _ w).alloc (Nat.le_refl _) _).trans (b2.mono (by simp))
  have F : Hid (max (-1) (2000 - (q : Int)) < 0 ↔ 2000 < q) := by show _ ↔ _; omega
  generalize max (-1) (2000 - (q : Int)) = m at F ⊢
  clear b2 C
  go_wp2
  go_ret
  exact ⟨by show Ending.returned (.bool (decide (m < 0))) = _; rw [decide_eq_decide.2 F.out], B.out⟩

/-- What both say of the codes of a type. -/
def FaultAt (f : Nat) (n : Nat) : Prop := ∀ (t : TT n) (a : Option Addr) (c : Nat) (regs : Int) (w : World), TIn w All t a → t.count ≤ 2000 →
    Calls Try.prog f #[Tv t a c, .int .i64 regs] w fun e w' => e = .returned (.int .i64 (t.fault regs)) ∧ Below w.heap.size w w'
end Go.Proofs.Ytmnmnokkojcodab
/-
  Boxes: whole blocks that a call has made, and that they stay. No function of the program is spoken of.
-/
namespace Go.Proofs.Ytmnmnokkojcodab
open Go.ChangeShapes Go.WideShapes Go.ChangeAt Go.RowKit
set_option linter.unusedVariables false

/-- A whole block. -/
abbrev Blk (w : World) (B : Nat) (c : Array Value) (t : TypeId) : Prop := w.heap[B]? = some (.cells c t (0, 0))
theorem Blk.below {w w' : World} {B : Nat} {c : Array Value} {t : TypeId} (h : Blk w B c t) (b : Below w.heap.size w w') : Blk w' B c t := box_cells h b
theorem Blk.alloc {w : World} {B : Nat} {c : Array Value} {t : TypeId} (h : Blk w B c t) (o : Obj) : Blk (w.alloc o) B c t := box_cells h ((Below.refl _ w).alloc (Nat.le_refl _) _)
theorem Blk.new (w : World) (c : Array Value) (t : TypeId) : Blk (w.alloc (.cells c t)) w.heap.size c t := blockNew w c t
theorem Blk.drewN {w : World} {B : Nat} {c : Array Value} {t : TypeId} (h : Blk w B c t) (m : Nat) : Blk (w.drewN m) B c t := h
theorem Blk.lt {w : World} {B : Nat} {c : Array Value} {t : TypeId} (h : Blk w B c t) : B < w.heap.size := lt_of_block h
theorem Blk.setOther {w : World} {B : Nat} {c : Array Value} {t : TypeId} (h : Blk w B c t) {p : Addr} (hp : p.block ≠ B) (v : Value) : Blk (w.setCell p v) B c t := (Below.heap_setCell _ _ _ _ (fun e => hp e.symm)).trans h

/-- One, two boxes: the world at a call's beginning. -/
theorem bel1 (w : World) (o : Obj) : Below w.heap.size w (w.alloc o) := (Below.refl _ w).alloc (Nat.le_refl _) _
theorem bel2 (w : World) (o p : Obj) : Below w.heap.size w ((w.alloc o).alloc p) := (bel1 w o).alloc (by simp) _
theorem Below.andThen {w w1 w2 : World} (h : Below w.heap.size w w1) (b : Below w1.heap.size w1 w2) : Below w.heap.size w w2 := h.trans (b.mono h.size)
theorem Blk.new1 (w : World) (c d : Array Value) (t u : TypeId) : Blk ((w.alloc (.cells c t)).alloc (.cells d u)) w.heap.size c t := (Blk.new w c t).alloc _
theorem Blk.new2 (w : World) (o : Obj) (d : Array Value) (u : TypeId) : Blk ((w.alloc o).alloc (.cells d u)) (w.heap.size + 1) d u := by
  have := Blk.new (w.alloc o) d u
  simpa using this
end Go.Proofs.Ytmnmnokkojcodab
/-
  The world beside such a walk: nothing of what was there has turned, and the boxes that the call has made lie as they are told (a list). No function of the program is spoken of.
-/
namespace Go.Proofs.Ytmnmnokkojcodab
open Go.RowKit
set_option linter.unusedVariables false

structure Wd (w0 w : World) (Bs : List (Nat × Array Value × TypeId)) : Prop where
  bel : Below w0.heap.size w0 w
  blk : ∀ (i : Nat) x, Bs[i]? = some x → Blk w x.1 x.2.1 x.2.2
  new : ∀ (i : Nat) x, Bs[i]? = some x → w0.heap.size ≤ x.1
  nd : ∀ (i j : Nat) x y, Bs[i]? = some x → Bs[j]? = some y → x.1 = y.1 → i = j

section
variable {w0 w w' : World} {Bs : List (Nat × Array Value × TypeId)}
theorem Wd.start (w : World) : Wd w w [] := ⟨Below.refl _ _, fun i x h => by simp at h, fun i x h => by simp at h, fun i j x y h => by simp at h⟩
theorem Wd.below (h : Wd w0 w Bs) (b : Below w.heap.size w w') : Wd w0 w' Bs := ⟨Below.andThen h.bel b, fun i x hx => (h.blk i x hx).below b, h.new, h.nd⟩
theorem Wd.get (h : Wd w0 w Bs) (i : Nat) {B : Nat} {c : Array Value} {t : TypeId} (hi : Bs[i]? = some (B, c, t)) : Blk w B c t := h.blk i _ hi
theorem Wd.new' (h : Wd w0 w Bs) (c : Array Value) (t : TypeId) : Wd w0 (w.alloc (.cells c t)) ((w.heap.size, c, t) :: Bs) := by
  refine ⟨Below.andThen h.bel (bel1 w _), fun i x hx => ?_, fun i x hx => ?_, fun i j x y hx hy e => ?_⟩
  · cases i with
    | zero => simp at hx; subst hx; exact Blk.new w c t
    | succ i => exact (h.blk i x (by simpa using hx)).alloc _
  · cases i with
    | zero => simp at hx; subst hx; exact h.bel.size
    | succ i => exact h.new i x (by simpa using hx)
  · cases i with
    | zero =>
      cases j with
      | zero => rfl
      | succ j =>
        simp at hx hy; subst hx
        have := (h.blk j y hy).lt
        simp at e; omega
    | succ i =>
      cases j with
      | zero =>
        simp at hx hy; subst hy
        have := (h.blk i x hx).lt
        simp at e; omega
      | succ j => rw [h.nd i j x y (by simpa using hx) (by simpa using hy) e]
theorem Wd.tail {x : Nat × Array Value × TypeId} (h : Wd w0 w (x :: Bs)) : Wd w0 w Bs :=
  ⟨h.bel, fun i y hy => h.blk (i + 1) y (by simpa using hy), fun i y hy => h.new (i + 1) y (by simpa using hy), fun i j y z hy hz e => by have := h.nd (i + 1) (j + 1) y z (by simpa using hy) (by simpa using hz) e; omega⟩
theorem Wd.set (h : Wd w0 w Bs) (i : Nat) {B : Nat} {c c' : Array Value} {t : TypeId} {Bs' : List (Nat × Array Value × TypeId)} (hi : Bs[i]? = some (B, c, t)) (j : Nat) (v : Value)
    (hc : c.setIfInBounds j v = c') (hB : Bs.set i (B, c', t) = Bs') : Wd w0 (w.setCell ⟨B, j, none⟩ v) Bs' := by
  subst hB
  subst hc
  have sp : ∀ (k : Nat) x, (Bs.set i (B, c.setIfInBounds j v, t))[k]? = some x → (k = i ∧ x = (B, c.setIfInBounds j v, t)) ∨ (k ≠ i ∧ Bs[k]? = some x) := by
    intro k x hx
    rw [List.getElem?_set] at hx
    split at hx
    · rename_i e
      subst e
      have hil : i < Bs.length := (List.getElem?_eq_some_iff.1 hi).1
      rw [if_pos hil] at hx
      exact .inl ⟨rfl, (Option.some.inj hx).symm⟩
    · rename_i e
      exact .inr ⟨fun e' => e e'.symm, hx⟩
  have key : ∀ (k : Nat) x, Bs[k]? = some x → k ≠ i → x.1 ≠ B := fun k x hx hk e => hk (h.nd k i x _ hx hi e)
  refine ⟨h.bel.setCell (p := ⟨B, j, none⟩) (h.new i _ hi) v, fun k x hx => ?_, fun k x hx => ?_, fun k l x y hx hy e => ?_⟩
  · rcases sp k x hx with ⟨rfl, rfl⟩ | ⟨hk, hx⟩
    · exact blockSet (h.blk k _ hi) j v
    · exact (h.blk k x hx).setOther (fun e => key k x hx hk e.symm) v
  · rcases sp k x hx with ⟨rfl, rfl⟩ | ⟨hk, hx⟩
    · exact h.new k (B, c, t) hi
    · exact h.new k x hx
  · rcases sp k x hx with ⟨hk, hx1⟩ | ⟨hk, hx1⟩
    · rcases sp l y hy with ⟨hl, hy1⟩ | ⟨hl, hy1⟩
      · rw [hk, hl]
      · rw [hx1] at e; exact absurd e.symm (key l y hy1 hl)
    · rcases sp l y hy with ⟨hl, hy1⟩ | ⟨hl, hy1⟩
      · rw [hy1] at e; exact absurd e (key k x hx1 hk)
      · exact h.nd k l x y hx1 hy1 e
/-- Many cells of one block, one behind the other. -/
def spliced (c : Array Value) (j : Nat) (vs : List Value) : Array Value := (c.toList.take j ++ (vs ++ c.toList.drop (j + vs.length))).toArray
theorem spliced_cons (c : Array Value) (j : Nat) (v : Value) (vs : List Value) (h : j + (v :: vs).length ≤ c.size) : spliced (c.setIfInBounds j v) (j + 1) vs = spliced c j (v :: vs) := by
  unfold spliced
  congr 1
  have hj : j < c.toList.length := by simp at h ⊢; omega
  simp only [Array.toList_setIfInBounds]
  rw [List.take_set, List.drop_set_of_lt (by omega), List.take_add_one, List.getElem?_eq_getElem hj]
  simp only [Option.toList, List.length_cons]
  have : (c.toList.take j ++ [c.toList[j]]).set j v = c.toList.take j ++ [v] := by
    rw [List.set_append_right _ _ (by simp; omega)]
    have hj' : j < c.size := by simpa using hj
    simp [Nat.min_eq_left (Nat.le_of_lt hj')]
  rw [this, Nat.add_assoc, Nat.add_comm 1]
  simp
theorem Wd.setAt (h : Wd w0 w Bs) (i : Nat) {B : Nat} {c c' : Array Value} {t : TypeId} {Bs' : List (Nat × Array Value × TypeId)} (hi : Bs[i]? = some (B, c, t)) (j : Nat) (vs : List Value)
    (hs : Nat.ble (j + vs.length) c.size = true) (hc : spliced c j vs = c') (hB : Bs.set i (B, c', t) = Bs') : Wd w0 (w.setCells B j vs) Bs' := by
  have hs' : j + vs.length ≤ c.size := by simpa [Nat.ble_eq] using hs
  clear hs
  induction vs generalizing w Bs c j with
  | nil =>
    subst hB
    have : c = c' := by rw [← hc]; unfold spliced; simp
    subst this
    have : Bs.set i (B, c, t) = Bs := by
      apply List.ext_getElem?
      intro k
      rw [List.getElem?_set]
      split
      · rename_i e; subst e; rw [hi]; simp [(List.getElem?_eq_some_iff.1 hi).1]
      · rfl
    rw [this]; exact h
  | cons v vs ih =>
    have hil : i < Bs.length := (List.getElem?_eq_some_iff.1 hi).1
    refine ih (c := c.setIfInBounds j v) (h.set i hi j v rfl rfl) (by rw [List.getElem?_set]; simp [hil]) (j + 1) ?_ ?_ ?_
    · rw [← hc, spliced_cons _ _ _ _ hs']
    · rw [List.set_set]; exact hB
    · simp at hs' ⊢; omega
theorem Wd.drewN (h : Wd w0 w Bs) (m : Nat) : Wd w0 (w.drewN m) Bs := ⟨drewN_below h.bel, fun i x hx => h.blk i x hx, h.new, h.nd⟩
end

theorem wrap_succ (q : Nat) (h : q < 4611686018427387904) : IntKind.i64.wrap ((q : Int) + 1) = (q : Int) + 1 := by
  have : (q : Int) < 4611686018427387904 := by omega
  have e1 : ((q : Int) + 1) % 2 ^ 64 = (q : Int) + 1 := by omega
  simp only [IntKind.wrap, IntKind.signed, IntKind.bits, e1, Bool.true_and]
  rw [if_neg (by simp only [decide_eq_true_eq]; omega)]
theorem Fr.sl2 {n : Nat} {a : Act} {L : List (Tmp × Value)} (h : Fr n a L) (t : Tmp) (v : Value) (e : L.lookup t = some v) : a.tmps[t]?.getD undef = v := by
  rw [← Array.getD_eq_getD_getElem?]; exact h.sl t v e
/-- What is new behind an allocation. -/
structure New (w w' : World) (B : Nat) : Prop where
  bel : Below w.heap.size w w'
  at_ : B = w.heap.size
  size : w'.heap.size = B + 1

theorem bel_cell {w w' : World} (b : Below w.heap.size w w') {p : Addr} {v : Value} (h : w.cell? p = some v) : w'.cell? p = some v :=
  (World.cell?_of_block (w := w) (a := p) (b.block p.block (World.block_lt_of_cell? w p h))).trans h
/-- A reader: a call that answers V and has turned nothing old. -/
def Rd (P : Program) (f : FuncId) (args : Array Value) (w : World) (V : Value) : Prop := Calls P f args w fun e w' => e = .returned V ∧ Below w.heap.size w w'

noncomputable def bdec (A : Prop) : Bool := @decide A (Classical.propDecidable A)
theorem bdec_iff {A : Prop} : bdec A = true ↔ A := by unfold bdec; simp
theorem bdec_true {A : Prop} (h : A) : bdec A = true := bdec_iff.2 h
theorem bdec_false {A : Prop} (h : ¬ A) : bdec A = false := by
  cases e : bdec A with
  | false => rfl
  | true => exact absurd (bdec_iff.1 e) h
theorem bdec_of {A : Prop} {q : Bool} (h : q = true ↔ A) : q = bdec A := by
  cases q with
  | false => exact (bdec_false fun ha => by have := h.2 ha; cases this).symm
  | true => exact (bdec_true (h.1 rfl)).symm

section
variable {P : Program} {n : Nat} {a : Act} {L : List (Tmp × Value)} {w0 w w' : World} {Bs Bs' : List (Nat × Array Value × TypeId)} {Q : Exit → Act → World → Prop} {ops : Array Oper} {o : Oper} {rest : List Oper} {t : Tmp} {v : Value}

theorem fr_new (c : Array Value) (ty : TypeId) (hF : Fr n a L) (hW : Wd w0 w Bs) (hd : o.dst = some t) (hg : o.guard = none) (ht : Nat.blt t n = true)
    (h : ∀ K : Act → World → Prop, K (a.put (some t) (.pointer (some ⟨w.heap.size, 0, none⟩))) (w.alloc (.cells c ty)) → o.wp P a w K Q)
    (k : ∀ a' w' B, Wd w0 w' ((B, c, ty) :: Bs) → New w w' B → Fr n a' ((t, .pointer (some ⟨B, 0, none⟩)) :: L) → wpList P ops Q rest a' w') : wpList P ops Q (o :: rest) a w :=
  fr_pure hF hd hg ht h fun a' hF' => k a' _ _ (hW.new' c ty) ⟨bel1 w _, rfl, by simp⟩ hF'
/-- A slice that is written out: its row. -/
theorem fr_row (c : Array Value) (ty : TypeId) (m : Nat) (hF : Fr n a L) (hW : Wd w0 w Bs) (hd : o.dst = some t) (hg : o.guard = none) (ht : Nat.blt t n = true)
    (h : ∀ K : Act → World → Prop, K (a.put (some t) (.slice (some ⟨w.heap.size, 0, none⟩) m m)) (w.alloc (.cells c ty)) → o.wp P a w K Q)
    (k : ∀ a' w' B, Wd w0 w' ((B, c, ty) :: Bs) → New w w' B → Fr n a' ((t, .slice (some ⟨B, 0, none⟩) m m) :: L) → wpList P ops Q rest a' w') : wpList P ops Q (o :: rest) a w :=
  fr_pure hF hd hg ht h fun a' hF' => k a' _ _ (hW.new' c ty) ⟨bel1 w _, rfl, by simp⟩ hF'
/-- A store into the boxes. -/
theorem fr_set (hF : Fr n a L) (hW : Wd w0 w' Bs') (hd : o.dst = none) (hg : o.guard = none)
    (h : ∀ K : Act → World → Prop, K a w' → o.wp P a w K Q)
    (k : ∀ w', Wd w0 w' Bs' → wpList P ops Q rest a w') : wpList P ops Q (o :: rest) a w :=
  fr_skip hF hd hg h (k _ hW)
theorem fr_read {f : FuncId} {args : Array Value} {V : Value} (hF : Fr n a L) (hW : Wd w0 w Bs) (hd : o.dst = some t) (hg : o.guard = none) (ht : Nat.blt t n = true)
    (hc : Rd P f args w V)
    (h : ∀ K : Act → World → Prop, (∀ w', Below w.heap.size w w' → K (a.put (some t) V) w') → o.wp P a w K Q)
    (k : ∀ a' w', Wd w0 w' Bs → Fr n a' ((t, V) :: L) → wpList P ops Q rest a' w') : wpList P ops Q (o :: rest) a w :=
  fr_call (fun v w' => v = V ∧ Below w.heap.size w w') hF hd hg ht (fun K hK => h K fun w' hb => hK _ _ ⟨rfl, hb⟩) fun a' v w' hR hF' => by
    obtain ⟨rfl, hb⟩ := hR
    exact k a' w' (hW.below hb) hF'
theorem fr_read_g {f : FuncId} {args : Array Value} {V : Value} {g tg : Nat} {want : Bool} (hF : Fr n a L) (hW : Wd w0 w Bs) (hd : o.dst = some t) (hg : o.guard = some (g, want)) (hs : (ops[g]?).bind (fun o : Oper => o.dst) = some tg) (htg : Nat.blt tg n = true) (hv : L.lookup tg = some (.bool want)) (ht : Nat.blt t n = true)
    (hc : Rd P f args w V)
    (h : ∀ K : Act → World → Prop, (∀ w', Below w.heap.size w w' → K (a.put (some t) V) w') → o.wp P a w K Q)
    (k : ∀ a' w', Wd w0 w' Bs → Fr n a' ((t, V) :: L) → wpList P ops Q rest a' w') : wpList P ops Q (o :: rest) a w :=
  fr_call_g (fun v w' => v = V ∧ Below w.heap.size w w') hF hd hg hs htg hv ht (fun K hK => h K fun w' hb => hK _ _ ⟨rfl, hb⟩) fun a' v w' hR hF' => by
    obtain ⟨rfl, hb⟩ := hR
    exact k a' w' (hW.below hb) hF'
theorem ret_tmp {fn : Func} {R : Ending → World → Prop} (hF : Fr n a L) (hr : fn.results = #[.tmp t]) (hv : L.lookup t = some v) (hR : R (.returned v) w) : bodyPost P fn R .ret a w :=
  bodyPost_ret ((results_tmp hr _ _ _).trans (by rw [hF.sl t v hv])) hF.defers hR
theorem end_tmp {fn : Func} {R : Ending → World → Prop} (hF : Fr n a L) (hr : fn.results = #[.tmp t]) (hv : L.lookup t = some v) (hR : R (.returned v) w) : bodyPost P fn R .normal a w :=
  bodyPost_end ((results_tmp hr _ _ _).trans (by rw [hF.sl t v hv])) hF.defers hR
end
end Go.Proofs.Ytmnmnokkojcodab
/-
  The rule of Calm2 beside a walk over letters: a region that draws its order, its last operations apart; one predicate a slot.
-/
namespace Go.Proofs.Ytmnmnokkojcodab
open Go.RowKit
set_option linter.unusedVariables false

abbrev PTab := List (Tmp × (Value → World → Prop))
def PTab.E (M : PTab) (t : Tmp) (v : Value) (w : World) : Prop := match M.lookup t with | some p => p v w | none => True
def Stable (R : World → World → Prop) : PTab → Prop
  | [] => True
  | x :: r => (∀ v w w', R w w' → x.2 v w → x.2 v w') ∧ Stable R r
theorem PTab_stable {R : World → World → Prop} : ∀ (M : PTab), Stable R M → ∀ t v w w', R w w' → PTab.E M t v w → PTab.E M t v w'
  | [], _, _, _, _, _, _, h => h
  | x :: r, hs, t, v, w, w', hr, h => by
    unfold PTab.E at *
    obtain ⟨s, p⟩ := x
    by_cases e : t = s
    · subst e
      simp at h ⊢
      exact hs.1 _ _ _ hr h
    · have e' : (t == s) = false := by simpa using e
      simp only [List.lookup_cons, e'] at h ⊢
      exact PTab_stable r hs.2 t v w w' hr h

theorem fr_draw {P : Program} {n id : Nat} {l l2 : List Oper} {outs : List Tmp} {gs : List (Nat × Option Bool)} {bs : List Bool} {a : Act} {w : World} {L : List (Tmp × Value)} {Q : Exit → Act → World → Prop}
    (M : PTab) (W : World → Prop) (R : World → World → Prop)
    (hm : P.follows .mixedOrders = true) (hF : Fr n a L) (hL : (L.all fun p => !(dstsOf l).contains p.1) = true) (hB : calmB l n outs gs bs = true)
    (hT : (backB 0 (l ++ l2) && (guardsB l.length l && tailB l.length l2)) = true)
    (hR : Stable R M) (hG : GuardOk (PTab.E M) W l.toArray gs) (hW : W w.drew) (hO : OutsOk (PTab.E M) a w.drew outs)
    (hA : AllOk (PTab.E M) W R P l bs)
    (hend : ∀ a' w', W w' → (∀ t, (dstsOf l).contains t = true → PTab.E M t (a'.tmps.getD t undef) w') → Fr n a' L → wpList P (l ++ l2).toArray Q l2 a' w') :
    (Code.region id (l ++ l2).toArray true).wp P Q a w := by
  simp only [Bool.and_eq_true] at hT
  obtain ⟨hT1, hT2, hT3⟩ := hT
  refine wp_region_any hm ?_
  have key : wpAny P .any l.toArray (Exit.then (fun a w => wpList P (l ++ l2).toArray Q l2 a w) Q) l.length (Array.replicate l.length false) a w.drew := by
    refine wpAny_calm (E := PTab.E M) (W := W) (R := R) (a0 := a) (outs := outs) (gs := gs) (bs := bs) (by rw [hF.size]; exact hB) (PTab_stable M hR) hG hA ?_ _ _ _ _ (by simp) ?_ ⟨hW, rfl, rfl, fun _ _ => rfl, fun t ht _ => outs_mem outs hO t ht, ?_⟩
    · intro vs w' hw' hE
      have hlt : ∀ t, (dstsOf l).contains t = true → t < a.tmps.size := fun t ht => by
        simp only [calmB, Bool.and_eq_true] at hB
        have := List.all_eq_true.1 hB.1.1.1.2 t (by simpa using ht)
        rw [hF.size]; simpa using this
      have hat : ∀ t, (dstsOf l).contains t = true → (puts a vs (dstsOf l)).tmps.getD t undef = vs t := fun t ht => by
        have := puts_at vs (dstsOf l) a t (hlt t ht)
        rw [if_pos (by simpa using ht)] at this
        rw [Array.getD_eq_getD_getElem?, this]; rfl
      refine hend _ w' hw' (fun t ht => by rw [hat t ht]; exact hE t ht) ⟨by rw [puts_size, hF.size], by rw [puts_defers, hF.defers], fun t v hl => ?_⟩
      have hm : ∃ p ∈ L, p.1 = t := by
        clear hL hO hend
        have : ∀ (L : List (Tmp × Value)), L.lookup t = some v → ∃ p ∈ L, p.1 = t := by
          intro L
          induction L with
          | nil => intro h; simp at h
          | cons x r ih =>
            intro h
            by_cases e : t = x.1
            · exact ⟨x, by simp, e.symm⟩
            · have e' : (t == x.1) = false := beq_false_of_ne e
              rw [List.lookup_cons, e'] at h
              obtain ⟨p, hp, he⟩ := ih h
              exact ⟨p, by simp [hp], he⟩
        exact this L hl
      obtain ⟨p, hp, rfl⟩ := hm
      have hn : ¬ p.1 ∈ dstsOf l := by
        have := List.all_eq_true.1 hL p hp
        simpa using this
      rw [← hF.sl p.1 v hl]
      by_cases hlt' : p.1 < a.tmps.size
      · have := puts_at vs (dstsOf l) a p.1 hlt'
        rw [if_neg hn] at this
        rw [Array.getD_eq_getD_getElem?, Array.getD_eq_getD_getElem?, this]
      · have h9 : a.tmps.size ≤ p.1 := Nat.le_of_not_lt hlt'
        rw [Array.getD_eq_getD_getElem?, Array.getD_eq_getD_getElem?, Array.getElem?_eq_none (by rw [puts_size]; exact h9), Array.getElem?_eq_none h9]
    · simp only [Array.toList_replicate]
      exact Nat.le_trans (List.length_filter_le _ _) (by simp)
    · intro j o t hj hd hl
      simp [Array.getD] at hl
  have := wpAny_tail (Q := Q) hT1 hT2 hT3 l.length (Array.replicate l.length false) a w.drew (by simp) key
  have e : (Array.replicate l.length false ++ Array.replicate l2.length false : Array Bool) = Array.replicate (l ++ l2).toArray.size false := by
    simp
  have e2 : l.length + l2.length = (l ++ l2).toArray.size := by simp
  rw [e, e2] at this
  exact this

/-- The same, cut behind the operation k. -/
theorem fr_draw_k {P : Program} {n id : Nat} {lo : List Oper} {outs : List Tmp} {gs : List (Nat × Option Bool)} {bs : List Bool} {a : Act} {w : World} {L : List (Tmp × Value)} {Q : Exit → Act → World → Prop}
    (k : Nat) (M : PTab) (W : World → Prop) (R : World → World → Prop)
    (hm : P.follows .mixedOrders = true) (hF : Fr n a L) (hL : (L.all fun p => !(dstsOf (lo.take k)).contains p.1) = true) (hB : calmB (lo.take k) n outs gs bs = true)
    (hT : (backB 0 lo && (guardsB (lo.take k).length (lo.take k) && tailB (lo.take k).length (lo.drop k))) = true)
    (hR : Stable R M) (hG : GuardOk (PTab.E M) W (lo.take k).toArray gs) (hW : W w.drew) (hO : OutsOk (PTab.E M) a w.drew outs)
    (hA : AllOk (PTab.E M) W R P (lo.take k) bs)
    (hend : ∀ ops a' w', W w' → (∀ t, (dstsOf (lo.take k)).contains t = true → PTab.E M t (a'.tmps.getD t undef) w') → Fr n a' L → wpList P ops Q (lo.drop k) a' w') :
    (Code.region id lo.toArray true).wp P Q a w := by
  have h := fr_draw (id := id) (l := lo.take k) (l2 := lo.drop k) (Q := Q) M W R hm hF hL hB (by rw [List.take_append_drop]; exact hT) hR hG hW hO hA (hend _)
  rwa [List.take_append_drop] at h

section
variable {w0 w w' w00 : World} {Bs : List (Nat × Array Value × TypeId)}
theorem Wd.add (h : Wd w0 w Bs) {B : Nat} {c : Array Value} {t : TypeId} (hb : Blk w B c t) (h0 : Wd w0 w00 Bs) (hB : w00.heap.size ≤ B) : Wd w0 w ((B, c, t) :: Bs) := by
  refine ⟨h.bel, fun i x hx => ?_, fun i x hx => ?_, fun i j x y hx hy e => ?_⟩
  · cases i with
    | zero => simp at hx; subst hx; exact hb
    | succ i => exact h.blk i x (by simpa using hx)
  · cases i with
    | zero => simp at hx; subst hx; have := h0.bel.size; simp only; omega
    | succ i => exact h.new i x (by simpa using hx)
  · cases i with
    | zero =>
      cases j with
      | zero => rfl
      | succ j =>
        simp at hx hy; subst hx
        have := (h0.blk j y hy).lt
        simp at e; omega
    | succ i =>
      cases j with
      | zero =>
        simp at hx hy; subst hy
        have := (h0.blk i x hx).lt
        simp at e; omega
      | succ j => rw [h.nd i j x y (by simpa using hx) (by simpa using hy) e]
end
end Go.Proofs.Ytmnmnokkojcodab
/-
  The short steps of a walk: a lemma for each kind of operation, over whatever frame of which so much is known.
-/
namespace Go.Proofs.Ytmnmnokkojcodab
open Go.ChangeShapes Go.WideShapes Go.ChangeAt Go.RowKit
set_option linter.unusedVariables false
set_option linter.unusedSimpArgs false

/-- What an operand holds. -/
def evalL (L : List (Tmp × Value)) : Operand → Option Value
  | .tmp t => L.lookup t
  | .const v => some v
  | .func f => some (.func (.func f) #[] #[])
  | _ => none
/-- The operations l, whatever the frame of which L is known. -/
abbrev St (n : Nat) (L : List (Tmp × Value)) (ops : Array Oper) (Q : Exit → Act → World → Prop) (l : List Oper) (w : World) : Prop := ∀ a, Fr n a L → wpList Try.prog ops Q l a w
/-- A guard that lets by. -/
def Gok (ops : Array Oper) (n : Nat) (L : List (Tmp × Value)) : Option (Nat × Bool) → Prop
  | none => True
  | some (g, want) => ∃ tg, (ops[g]?).bind (fun o : Oper => o.dst) = some tg ∧ Nat.blt tg n = true ∧ L.lookup tg = some (.bool want)
section
variable {n : Nat} {a : Act} {L : List (Tmp × Value)} {w0 w : World} {Bs : List (Nat × Array Value × TypeId)} {Q : Exit → Act → World → Prop} {ops : Array Oper} {rest : List Oper} {t : Tmp} {u v : Value} {ty ty2 ty3 : TypeId} {pos : String} {aft : Array Edge} {gd : Option (Nat × Bool)} {x y z : Operand} {g tg : Nat} {want b : Bool}
theorem Fr.ev (h : Fr n a L) (e : evalL L x = some v) : a.eval x = v := by
  cases x <;> simp only [evalL, Option.some.injEq, reduceCtorEq] at e
  · exact h.sl _ _ e
  · exact e
  · subst e; rfl
theorem Gok.on {o : Oper} (hF : Fr n a L) (h : Gok ops n L o.guard) : Region.wanted o (yielded ops a.tmps) = true := by
  cases hg : o.guard with
  | none => simp [Region.wanted, hg]
  | some p =>
    obtain ⟨g, want⟩ := p
    rw [hg] at h
    obtain ⟨tg, h1, h2, h3⟩ := h
    rw [wanted_g hF hg h1 h2 h3]; simp
theorem St.go {l : List Oper} (hF : Fr n a L) (h : St n L ops Q l w) : wpList Try.prog ops Q l a w := h a hF
/-- A region without guards. -/
theorem rg {id : Nat} {l : List Oper} (hF : Fr n a L) (h : ∀ ops, St n L ops Q l w) : (Code.region id l.toArray false).wp Try.prog Q a w := fr_region fun ops _ => h ops a hF
theorem St.nil (h : ∀ a, Fr n a L → Q .normal a w) : St n L ops Q [] w := h
theorem s_step {o : Oper} (hg : Gok ops n L o.guard) (hd : o.dst = some t) (ht : Nat.blt t n = true)
    (h : ∀ ev : Operand → Value, (∀ x v, evalL L x = some v → ev x = v) → (execOp ev o).run Try.prog w = .ok (.value v) w)
    (k : St n ((t, v) :: L) ops Q rest w) : St n L ops Q (o :: rest) w := fun a hF =>
  wpList_step fun K hK => by
    rw [if_pos (hg.on hF)]
    unfold Oper.wp
    rw [h a.eval (fun x v e => hF.ev e), Oper.upon_value, hd]
    exact hK _ _ (k _ (hF.put ht))
theorem so {op : Op} (hs : (ops[g]?).bind (fun o : Oper => o.dst) = some tg) (htg : Nat.blt tg n = true) (hv : L.lookup tg = some u) (hu : (match u with | .bool b => b == want | _ => false) = false) (ht : Nat.blt t n = true)
    (k : St n ((t, undef) :: L) ops Q rest w) : St n L ops Q (⟨some t, op, ty, pos, aft, some (g, want)⟩ :: rest) w := fun a hF =>
  fr_off hF rfl rfl hs htg hv hu ht k
theorem sm (hg : Gok ops n L gd) (hx : evalL L x = some (v)) (ht : Nat.blt t n = true)
    (k : St n ((t, v) :: L) ops Q rest w) : St n L ops Q (⟨some t, .move x, ty, pos, aft, gd⟩ :: rest) w :=
  s_step hg rfl ht (fun ev hev => by have e := hev _ _ hx; simp [go_sem, e]) k
theorem sa (hg : Gok ops n L gd) (hx : evalL L x = some (v)) (ht : Nat.blt t n = true)
    (k : St n ((t, v) :: L) ops Q rest w) : St n L ops Q (⟨some t, .assign x, ty, pos, aft, gd⟩ :: rest) w :=
  s_step hg rfl ht (fun ev hev => by have e := hev _ _ hx; simp [go_sem, e]) k
theorem sn (hg : Gok ops n L gd) (hx : evalL L x = some (.bool b)) (ht : Nat.blt t n = true)
    (k : St n ((t, .bool (!b)) :: L) ops Q rest w) : St n L ops Q (⟨some t, .unOp .not ty2 x, ty, pos, aft, gd⟩ :: rest) w :=
  s_step hg rfl ht (fun ev hev => by have e := hev _ _ hx; simp [go_sem, e]) k
theorem sp (hg : Gok ops n L gd) (hx : evalL L x = some (.bool true)) (hy : evalL L y = some (v)) (ht : Nat.blt t n = true)
    (k : St n ((t, v) :: L) ops Q rest w) : St n L ops Q (⟨some t, .pick x y z, ty, pos, aft, gd⟩ :: rest) w :=
  s_step hg rfl ht (fun ev hev => by have e := hev _ _ hx; have e2 := hev _ _ hy; simp [go_sem, e, e2]) k
theorem spf (hg : Gok ops n L gd) (hx : evalL L x = some (.bool false)) (hz : evalL L z = some (v)) (ht : Nat.blt t n = true)
    (k : St n ((t, v) :: L) ops Q rest w) : St n L ops Q (⟨some t, .pick x y z, ty, pos, aft, gd⟩ :: rest) w :=
  s_step hg rfl ht (fun ev hev => by have e := hev _ _ hx; have e2 := hev _ _ hz; simp [go_sem, e, e2]) k
theorem seq {p q : Int} (hg : Gok ops n L gd) (hx : evalL L x = some (.int .i64 p)) (hy : evalL L y = some (.int .i64 q)) (ht : Nat.blt t n = true)
    (k : St n ((t, .bool (p == q)) :: L) ops Q rest w) : St n L ops Q (⟨some t, .binOp .eql 3 x y 3, ty, pos, aft, gd⟩ :: rest) w :=
  s_step hg rfl ht (fun ev hev => by have e := hev _ _ hx; have e2 := hev _ _ hy; simp [go_sem, e, e2]) k
theorem sne {p q : Int} (hg : Gok ops n L gd) (hx : evalL L x = some (.int .i64 p)) (hy : evalL L y = some (.int .i64 q)) (ht : Nat.blt t n = true)
    (k : St n ((t, .bool (p != q)) :: L) ops Q rest w) : St n L ops Q (⟨some t, .binOp .neq 3 x y 3, ty, pos, aft, gd⟩ :: rest) w :=
  s_step hg rfl ht (fun ev hev => by have e := hev _ _ hx; have e2 := hev _ _ hy; simp [go_sem, e, e2]) k
theorem slt {p q : Int} (hg : Gok ops n L gd) (hx : evalL L x = some (.int .i64 p)) (hy : evalL L y = some (.int .i64 q)) (ht : Nat.blt t n = true)
    (k : St n ((t, .bool (decide (p < q))) :: L) ops Q rest w) : St n L ops Q (⟨some t, .binOp .lss 3 x y 3, ty, pos, aft, gd⟩ :: rest) w :=
  s_step hg rfl ht (fun ev hev => by have e := hev _ _ hx; have e2 := hev _ _ hy; simp [go_sem, e, e2]) k
theorem sgt {p q : Int} (hg : Gok ops n L gd) (hx : evalL L x = some (.int .i64 p)) (hy : evalL L y = some (.int .i64 q)) (ht : Nat.blt t n = true)
    (k : St n ((t, .bool (decide (q < p))) :: L) ops Q rest w) : St n L ops Q (⟨some t, .binOp .gtr 3 x y 3, ty, pos, aft, gd⟩ :: rest) w :=
  s_step hg rfl ht (fun ev hev => by have e := hev _ _ hx; have e2 := hev _ _ hy; simp [go_sem, e, e2]) k
theorem sge {p q : Int} (hg : Gok ops n L gd) (hx : evalL L x = some (.int .i64 p)) (hy : evalL L y = some (.int .i64 q)) (ht : Nat.blt t n = true)
    (k : St n ((t, .bool (decide (q ≤ p))) :: L) ops Q rest w) : St n L ops Q (⟨some t, .binOp .geq 3 x y 3, ty, pos, aft, gd⟩ :: rest) w :=
  s_step hg rfl ht (fun ev hev => by have e := hev _ _ hx; have e2 := hev _ _ hy; simp [go_sem, e, e2]) k
theorem sle {p q : Int} (hg : Gok ops n L gd) (hx : evalL L x = some (.int .i64 p)) (hy : evalL L y = some (.int .i64 q)) (ht : Nat.blt t n = true)
    (k : St n ((t, .bool (decide (p ≤ q))) :: L) ops Q rest w) : St n L ops Q (⟨some t, .binOp .leq 3 x y 3, ty, pos, aft, gd⟩ :: rest) w :=
  s_step hg rfl ht (fun ev hev => by have e := hev _ _ hx; have e2 := hev _ _ hy; simp [go_sem, e, e2]) k
theorem seq6 {p q : Int} (hg : Gok ops n L gd) (hx : evalL L x = some (.int .i64 p)) (hy : evalL L y = some (.int .i64 q)) (ht : Nat.blt t n = true)
    (k : St n ((t, .bool (p == q)) :: L) ops Q rest w) : St n L ops Q (⟨some t, .binOp .eql 2 x y 2, ty, pos, aft, gd⟩ :: rest) w :=
  s_step hg rfl ht (fun ev hev => by have e := hev _ _ hx; have e2 := hev _ _ hy; simp [go_sem, e, e2]) k
theorem sne6 {p q : Int} (hg : Gok ops n L gd) (hx : evalL L x = some (.int .i64 p)) (hy : evalL L y = some (.int .i64 q)) (ht : Nat.blt t n = true)
    (k : St n ((t, .bool (p != q)) :: L) ops Q rest w) : St n L ops Q (⟨some t, .binOp .neq 2 x y 2, ty, pos, aft, gd⟩ :: rest) w :=
  s_step hg rfl ht (fun ev hev => by have e := hev _ _ hx; have e2 := hev _ _ hy; simp [go_sem, e, e2]) k
theorem sad {q : Nat} (hq : q < 4611686018427387904) (hg : Gok ops n L gd) (hx : evalL L x = some (.int .i64 (q : Int))) (hy : evalL L y = some (.int .i64 1)) (ht : Nat.blt t n = true)
    (k : St n ((t, .int .i64 ((q : Int) + 1)) :: L) ops Q rest w) : St n L ops Q (⟨some t, .binOp .add 3 x y 3, ty, pos, aft, gd⟩ :: rest) w :=
  s_step hg rfl ht (fun ev hev => by have e := hev _ _ hx; have e2 := hev _ _ hy; have e3 := wrap_succ q hq; simp [go_sem, e, e2, e3]) k
theorem slInts {p : Option Addr} {m c : Nat} (hg : Gok ops n L gd) (hx : evalL L x = some (.slice p m c)) (ht : Nat.blt t n = true)
    (k : St n ((t, .int .i64 (m : Int)) :: L) ops Q rest w) : St n L ops Q (⟨some t, .call { callee := .builtin .len, args := #[x], argTypes := #[44] }, 3, pos, aft, gd⟩ :: rest) w :=
  s_step hg rfl ht (fun ev hev => by have e := hev _ _ hx; simp [go_sem, e]) k
theorem siInts {p : Option Addr} {m c q B j : Nat} (hp : p = some ⟨B, j, none⟩) (hq : q < m) (hg : Gok ops n L gd) (hx : evalL L x = some (.slice p m c)) (hy : evalL L y = some (.int .i64 (q : Int))) (ht : Nat.blt t n = true)
    (k : St n ((t, .pointer (some ⟨B, j + q, none⟩)) :: L) ops Q rest w) : St n L ops Q (⟨some t, .indexAddr 44 x y, ty, pos, aft, gd⟩ :: rest) w :=
  s_step hg rfl ht (fun ev hev => by have e := hev _ _ hx; have e2 := hev _ _ hy; have h0 := Int.natCast_nonneg q; have h1 := Int.ofNat_lt.2 hq; subst hp; simp [go_sem, e, e2, h0, h1, hq]) k
theorem slTypes {p : Option Addr} {m c : Nat} (hg : Gok ops n L gd) (hx : evalL L x = some (.slice p m c)) (ht : Nat.blt t n = true)
    (k : St n ((t, .int .i64 (m : Int)) :: L) ops Q rest w) : St n L ops Q (⟨some t, .call { callee := .builtin .len, args := #[x], argTypes := #[47] }, 3, pos, aft, gd⟩ :: rest) w :=
  s_step hg rfl ht (fun ev hev => by have e := hev _ _ hx; simp [go_sem, e]) k
theorem siTypes {p : Option Addr} {m c q B j : Nat} (hp : p = some ⟨B, j, none⟩) (hq : q < m) (hg : Gok ops n L gd) (hx : evalL L x = some (.slice p m c)) (hy : evalL L y = some (.int .i64 (q : Int))) (ht : Nat.blt t n = true)
    (k : St n ((t, .pointer (some ⟨B, j + q * 3, none⟩)) :: L) ops Q rest w) : St n L ops Q (⟨some t, .indexAddr 47 x y, ty, pos, aft, gd⟩ :: rest) w :=
  s_step hg rfl ht (fun ev hev => by have e := hev _ _ hx; have e2 := hev _ _ hy; have h0 := Int.natCast_nonneg q; have h1 := Int.ofNat_lt.2 hq; subst hp; simp [go_sem, e, e2, h0, h1, hq]) k
theorem slInss {p : Option Addr} {m c : Nat} (hg : Gok ops n L gd) (hx : evalL L x = some (.slice p m c)) (ht : Nat.blt t n = true)
    (k : St n ((t, .int .i64 (m : Int)) :: L) ops Q rest w) : St n L ops Q (⟨some t, .call { callee := .builtin .len, args := #[x], argTypes := #[75] }, 3, pos, aft, gd⟩ :: rest) w :=
  s_step hg rfl ht (fun ev hev => by have e := hev _ _ hx; simp [go_sem, e]) k
theorem siInss {p : Option Addr} {m c q B j : Nat} (hp : p = some ⟨B, j, none⟩) (hq : q < m) (hg : Gok ops n L gd) (hx : evalL L x = some (.slice p m c)) (hy : evalL L y = some (.int .i64 (q : Int))) (ht : Nat.blt t n = true)
    (k : St n ((t, .pointer (some ⟨B, j + q * 8, none⟩)) :: L) ops Q rest w) : St n L ops Q (⟨some t, .indexAddr 75 x y, ty, pos, aft, gd⟩ :: rest) w :=
  s_step hg rfl ht (fun ev hev => by have e := hev _ _ hx; have e2 := hev _ _ hy; have h0 := Int.natCast_nonneg q; have h1 := Int.ofNat_lt.2 hq; subst hp; simp [go_sem, e, e2, h0, h1, hq]) k
theorem slBlocks {p : Option Addr} {m c : Nat} (hg : Gok ops n L gd) (hx : evalL L x = some (.slice p m c)) (ht : Nat.blt t n = true)
    (k : St n ((t, .int .i64 (m : Int)) :: L) ops Q rest w) : St n L ops Q (⟨some t, .call { callee := .builtin .len, args := #[x], argTypes := #[48] }, 3, pos, aft, gd⟩ :: rest) w :=
  s_step hg rfl ht (fun ev hev => by have e := hev _ _ hx; simp [go_sem, e]) k
theorem siBlocks {p : Option Addr} {m c q B j : Nat} (hp : p = some ⟨B, j, none⟩) (hq : q < m) (hg : Gok ops n L gd) (hx : evalL L x = some (.slice p m c)) (hy : evalL L y = some (.int .i64 (q : Int))) (ht : Nat.blt t n = true)
    (k : St n ((t, .pointer (some ⟨B, j + q * 12, none⟩)) :: L) ops Q rest w) : St n L ops Q (⟨some t, .indexAddr 48 x y, ty, pos, aft, gd⟩ :: rest) w :=
  s_step hg rfl ht (fun ev hev => by have e := hev _ _ hx; have e2 := hev _ _ hy; have h0 := Int.natCast_nonneg q; have h1 := Int.ofNat_lt.2 hq; subst hp; simp [go_sem, e, e2, h0, h1, hq]) k
theorem slFuncs {p : Option Addr} {m c : Nat} (hg : Gok ops n L gd) (hx : evalL L x = some (.slice p m c)) (ht : Nat.blt t n = true)
    (k : St n ((t, .int .i64 (m : Int)) :: L) ops Q rest w) : St n L ops Q (⟨some t, .call { callee := .builtin .len, args := #[x], argTypes := #[37] }, 3, pos, aft, gd⟩ :: rest) w :=
  s_step hg rfl ht (fun ev hev => by have e := hev _ _ hx; simp [go_sem, e]) k
theorem siFuncs {p : Option Addr} {m c q B j : Nat} (hp : p = some ⟨B, j, none⟩) (hq : q < m) (hg : Gok ops n L gd) (hx : evalL L x = some (.slice p m c)) (hy : evalL L y = some (.int .i64 (q : Int))) (ht : Nat.blt t n = true)
    (k : St n ((t, .pointer (some ⟨B, j + q * 4, none⟩)) :: L) ops Q rest w) : St n L ops Q (⟨some t, .indexAddr 37 x y, ty, pos, aft, gd⟩ :: rest) w :=
  s_step hg rfl ht (fun ev hev => by have e := hev _ _ hx; have e2 := hev _ _ hy; have h0 := Int.natCast_nonneg q; have h1 := Int.ofNat_lt.2 hq; subst hp; simp [go_sem, e, e2, h0, h1, hq]) k
theorem sfType0 {B j : Nat} (hg : Gok ops n L gd) (hx : evalL L x = some (.pointer (some ⟨B, j, none⟩))) (ht : Nat.blt t n = true)
    (k : St n ((t, .pointer (some ⟨B, j, none⟩)) :: L) ops Q rest w) : St n L ops Q (⟨some t, .fieldAddr 90 x 0, ty, pos, aft, gd⟩ :: rest) w :=
  s_step hg rfl ht (fun ev hev => by have e := hev _ _ hx; simp [go_sem, e]) k
theorem sfType1 {B j : Nat} (hg : Gok ops n L gd) (hx : evalL L x = some (.pointer (some ⟨B, j, none⟩))) (ht : Nat.blt t n = true)
    (k : St n ((t, .pointer (some ⟨B, j + 1, none⟩)) :: L) ops Q rest w) : St n L ops Q (⟨some t, .fieldAddr 90 x 1, ty, pos, aft, gd⟩ :: rest) w :=
  s_step hg rfl ht (fun ev hev => by have e := hev _ _ hx; simp [go_sem, e]) k
theorem sfType2 {B j : Nat} (hg : Gok ops n L gd) (hx : evalL L x = some (.pointer (some ⟨B, j, none⟩))) (ht : Nat.blt t n = true)
    (k : St n ((t, .pointer (some ⟨B, j + 2, none⟩)) :: L) ops Q rest w) : St n L ops Q (⟨some t, .fieldAddr 90 x 2, ty, pos, aft, gd⟩ :: rest) w :=
  s_step hg rfl ht (fun ev hev => by have e := hev _ _ hx; simp [go_sem, e]) k
theorem sfIns0 {B j : Nat} (hg : Gok ops n L gd) (hx : evalL L x = some (.pointer (some ⟨B, j, none⟩))) (ht : Nat.blt t n = true)
    (k : St n ((t, .pointer (some ⟨B, j, none⟩)) :: L) ops Q rest w) : St n L ops Q (⟨some t, .fieldAddr 46 x 0, ty, pos, aft, gd⟩ :: rest) w :=
  s_step hg rfl ht (fun ev hev => by have e := hev _ _ hx; simp [go_sem, e]) k
theorem sfIns1 {B j : Nat} (hg : Gok ops n L gd) (hx : evalL L x = some (.pointer (some ⟨B, j, none⟩))) (ht : Nat.blt t n = true)
    (k : St n ((t, .pointer (some ⟨B, j + 1, none⟩)) :: L) ops Q rest w) : St n L ops Q (⟨some t, .fieldAddr 46 x 1, ty, pos, aft, gd⟩ :: rest) w :=
  s_step hg rfl ht (fun ev hev => by have e := hev _ _ hx; simp [go_sem, e]) k
theorem sfIns2 {B j : Nat} (hg : Gok ops n L gd) (hx : evalL L x = some (.pointer (some ⟨B, j, none⟩))) (ht : Nat.blt t n = true)
    (k : St n ((t, .pointer (some ⟨B, j + 2, none⟩)) :: L) ops Q rest w) : St n L ops Q (⟨some t, .fieldAddr 46 x 2, ty, pos, aft, gd⟩ :: rest) w :=
  s_step hg rfl ht (fun ev hev => by have e := hev _ _ hx; simp [go_sem, e]) k
theorem sfIns3 {B j : Nat} (hg : Gok ops n L gd) (hx : evalL L x = some (.pointer (some ⟨B, j, none⟩))) (ht : Nat.blt t n = true)
    (k : St n ((t, .pointer (some ⟨B, j + 3, none⟩)) :: L) ops Q rest w) : St n L ops Q (⟨some t, .fieldAddr 46 x 3, ty, pos, aft, gd⟩ :: rest) w :=
  s_step hg rfl ht (fun ev hev => by have e := hev _ _ hx; simp [go_sem, e]) k
theorem sfIns4 {B j : Nat} (hg : Gok ops n L gd) (hx : evalL L x = some (.pointer (some ⟨B, j, none⟩))) (ht : Nat.blt t n = true)
    (k : St n ((t, .pointer (some ⟨B, j + 4, none⟩)) :: L) ops Q rest w) : St n L ops Q (⟨some t, .fieldAddr 46 x 4, ty, pos, aft, gd⟩ :: rest) w :=
  s_step hg rfl ht (fun ev hev => by have e := hev _ _ hx; simp [go_sem, e]) k
theorem sfIns5 {B j : Nat} (hg : Gok ops n L gd) (hx : evalL L x = some (.pointer (some ⟨B, j, none⟩))) (ht : Nat.blt t n = true)
    (k : St n ((t, .pointer (some ⟨B, j + 5, none⟩)) :: L) ops Q rest w) : St n L ops Q (⟨some t, .fieldAddr 46 x 5, ty, pos, aft, gd⟩ :: rest) w :=
  s_step hg rfl ht (fun ev hev => by have e := hev _ _ hx; simp [go_sem, e]) k
theorem sfIns6 {B j : Nat} (hg : Gok ops n L gd) (hx : evalL L x = some (.pointer (some ⟨B, j, none⟩))) (ht : Nat.blt t n = true)
    (k : St n ((t, .pointer (some ⟨B, j + 6, none⟩)) :: L) ops Q rest w) : St n L ops Q (⟨some t, .fieldAddr 46 x 6, ty, pos, aft, gd⟩ :: rest) w :=
  s_step hg rfl ht (fun ev hev => by have e := hev _ _ hx; simp [go_sem, e]) k
theorem sfIns7 {B j : Nat} (hg : Gok ops n L gd) (hx : evalL L x = some (.pointer (some ⟨B, j, none⟩))) (ht : Nat.blt t n = true)
    (k : St n ((t, .pointer (some ⟨B, j + 7, none⟩)) :: L) ops Q rest w) : St n L ops Q (⟨some t, .fieldAddr 46 x 7, ty, pos, aft, gd⟩ :: rest) w :=
  s_step hg rfl ht (fun ev hev => by have e := hev _ _ hx; simp [go_sem, e]) k
theorem sfTo0 {B j : Nat} (hg : Gok ops n L gd) (hx : evalL L x = some (.pointer (some ⟨B, j, none⟩))) (ht : Nat.blt t n = true)
    (k : St n ((t, .pointer (some ⟨B, j, none⟩)) :: L) ops Q rest w) : St n L ops Q (⟨some t, .fieldAddr 52 x 0, ty, pos, aft, gd⟩ :: rest) w :=
  s_step hg rfl ht (fun ev hev => by have e := hev _ _ hx; simp [go_sem, e]) k
theorem sfTo1 {B j : Nat} (hg : Gok ops n L gd) (hx : evalL L x = some (.pointer (some ⟨B, j, none⟩))) (ht : Nat.blt t n = true)
    (k : St n ((t, .pointer (some ⟨B, j + 1, none⟩)) :: L) ops Q rest w) : St n L ops Q (⟨some t, .fieldAddr 52 x 1, ty, pos, aft, gd⟩ :: rest) w :=
  s_step hg rfl ht (fun ev hev => by have e := hev _ _ hx; simp [go_sem, e]) k
theorem sfTo2 {B j : Nat} (hg : Gok ops n L gd) (hx : evalL L x = some (.pointer (some ⟨B, j, none⟩))) (ht : Nat.blt t n = true)
    (k : St n ((t, .pointer (some ⟨B, j + 2, none⟩)) :: L) ops Q rest w) : St n L ops Q (⟨some t, .fieldAddr 52 x 2, ty, pos, aft, gd⟩ :: rest) w :=
  s_step hg rfl ht (fun ev hev => by have e := hev _ _ hx; simp [go_sem, e]) k
theorem sfEnd0 {B j : Nat} (hg : Gok ops n L gd) (hx : evalL L x = some (.pointer (some ⟨B, j, none⟩))) (ht : Nat.blt t n = true)
    (k : St n ((t, .pointer (some ⟨B, j, none⟩)) :: L) ops Q rest w) : St n L ops Q (⟨some t, .fieldAddr 54 x 0, ty, pos, aft, gd⟩ :: rest) w :=
  s_step hg rfl ht (fun ev hev => by have e := hev _ _ hx; simp [go_sem, e]) k
theorem sfEnd1 {B j : Nat} (hg : Gok ops n L gd) (hx : evalL L x = some (.pointer (some ⟨B, j, none⟩))) (ht : Nat.blt t n = true)
    (k : St n ((t, .pointer (some ⟨B, j + 1, none⟩)) :: L) ops Q rest w) : St n L ops Q (⟨some t, .fieldAddr 54 x 1, ty, pos, aft, gd⟩ :: rest) w :=
  s_step hg rfl ht (fun ev hev => by have e := hev _ _ hx; simp [go_sem, e]) k
theorem sfEnd2 {B j : Nat} (hg : Gok ops n L gd) (hx : evalL L x = some (.pointer (some ⟨B, j, none⟩))) (ht : Nat.blt t n = true)
    (k : St n ((t, .pointer (some ⟨B, j + 2, none⟩)) :: L) ops Q rest w) : St n L ops Q (⟨some t, .fieldAddr 54 x 2, ty, pos, aft, gd⟩ :: rest) w :=
  s_step hg rfl ht (fun ev hev => by have e := hev _ _ hx; simp [go_sem, e]) k
theorem sfEnd3 {B j : Nat} (hg : Gok ops n L gd) (hx : evalL L x = some (.pointer (some ⟨B, j, none⟩))) (ht : Nat.blt t n = true)
    (k : St n ((t, .pointer (some ⟨B, j + 5, none⟩)) :: L) ops Q rest w) : St n L ops Q (⟨some t, .fieldAddr 54 x 3, ty, pos, aft, gd⟩ :: rest) w :=
  s_step hg rfl ht (fun ev hev => by have e := hev _ _ hx; simp [go_sem, e]) k
theorem sfEnd4 {B j : Nat} (hg : Gok ops n L gd) (hx : evalL L x = some (.pointer (some ⟨B, j, none⟩))) (ht : Nat.blt t n = true)
    (k : St n ((t, .pointer (some ⟨B, j + 8, none⟩)) :: L) ops Q rest w) : St n L ops Q (⟨some t, .fieldAddr 54 x 4, ty, pos, aft, gd⟩ :: rest) w :=
  s_step hg rfl ht (fun ev hev => by have e := hev _ _ hx; simp [go_sem, e]) k
theorem sfBlock0 {B j : Nat} (hg : Gok ops n L gd) (hx : evalL L x = some (.pointer (some ⟨B, j, none⟩))) (ht : Nat.blt t n = true)
    (k : St n ((t, .pointer (some ⟨B, j, none⟩)) :: L) ops Q rest w) : St n L ops Q (⟨some t, .fieldAddr 77 x 0, ty, pos, aft, gd⟩ :: rest) w :=
  s_step hg rfl ht (fun ev hev => by have e := hev _ _ hx; simp [go_sem, e]) k
theorem sfBlock1 {B j : Nat} (hg : Gok ops n L gd) (hx : evalL L x = some (.pointer (some ⟨B, j, none⟩))) (ht : Nat.blt t n = true)
    (k : St n ((t, .pointer (some ⟨B, j + 1, none⟩)) :: L) ops Q rest w) : St n L ops Q (⟨some t, .fieldAddr 77 x 1, ty, pos, aft, gd⟩ :: rest) w :=
  s_step hg rfl ht (fun ev hev => by have e := hev _ _ hx; simp [go_sem, e]) k
theorem sfBlock2 {B j : Nat} (hg : Gok ops n L gd) (hx : evalL L x = some (.pointer (some ⟨B, j, none⟩))) (ht : Nat.blt t n = true)
    (k : St n ((t, .pointer (some ⟨B, j + 2, none⟩)) :: L) ops Q rest w) : St n L ops Q (⟨some t, .fieldAddr 77 x 2, ty, pos, aft, gd⟩ :: rest) w :=
  s_step hg rfl ht (fun ev hev => by have e := hev _ _ hx; simp [go_sem, e]) k
theorem sfBlock3 {B j : Nat} (hg : Gok ops n L gd) (hx : evalL L x = some (.pointer (some ⟨B, j, none⟩))) (ht : Nat.blt t n = true)
    (k : St n ((t, .pointer (some ⟨B, j + 3, none⟩)) :: L) ops Q rest w) : St n L ops Q (⟨some t, .fieldAddr 77 x 3, ty, pos, aft, gd⟩ :: rest) w :=
  s_step hg rfl ht (fun ev hev => by have e := hev _ _ hx; simp [go_sem, e]) k
theorem sfFunc0 {B j : Nat} (hg : Gok ops n L gd) (hx : evalL L x = some (.pointer (some ⟨B, j, none⟩))) (ht : Nat.blt t n = true)
    (k : St n ((t, .pointer (some ⟨B, j, none⟩)) :: L) ops Q rest w) : St n L ops Q (⟨some t, .fieldAddr 50 x 0, ty, pos, aft, gd⟩ :: rest) w :=
  s_step hg rfl ht (fun ev hev => by have e := hev _ _ hx; simp [go_sem, e]) k
theorem sfFunc1 {B j : Nat} (hg : Gok ops n L gd) (hx : evalL L x = some (.pointer (some ⟨B, j, none⟩))) (ht : Nat.blt t n = true)
    (k : St n ((t, .pointer (some ⟨B, j + 1, none⟩)) :: L) ops Q rest w) : St n L ops Q (⟨some t, .fieldAddr 50 x 1, ty, pos, aft, gd⟩ :: rest) w :=
  s_step hg rfl ht (fun ev hev => by have e := hev _ _ hx; simp [go_sem, e]) k
theorem sfFunc2 {B j : Nat} (hg : Gok ops n L gd) (hx : evalL L x = some (.pointer (some ⟨B, j, none⟩))) (ht : Nat.blt t n = true)
    (k : St n ((t, .pointer (some ⟨B, j + 2, none⟩)) :: L) ops Q rest w) : St n L ops Q (⟨some t, .fieldAddr 50 x 2, ty, pos, aft, gd⟩ :: rest) w :=
  s_step hg rfl ht (fun ev hev => by have e := hev _ _ hx; simp [go_sem, e]) k
theorem sfFunc3 {B j : Nat} (hg : Gok ops n L gd) (hx : evalL L x = some (.pointer (some ⟨B, j, none⟩))) (ht : Nat.blt t n = true)
    (k : St n ((t, .pointer (some ⟨B, j + 3, none⟩)) :: L) ops Q rest w) : St n L ops Q (⟨some t, .fieldAddr 50 x 3, ty, pos, aft, gd⟩ :: rest) w :=
  s_step hg rfl ht (fun ev hev => by have e := hev _ _ hx; simp [go_sem, e]) k
theorem sfModule0 {B j : Nat} (hg : Gok ops n L gd) (hx : evalL L x = some (.pointer (some ⟨B, j, none⟩))) (ht : Nat.blt t n = true)
    (k : St n ((t, .pointer (some ⟨B, j, none⟩)) :: L) ops Q rest w) : St n L ops Q (⟨some t, .fieldAddr 39 x 0, ty, pos, aft, gd⟩ :: rest) w :=
  s_step hg rfl ht (fun ev hev => by have e := hev _ _ hx; simp [go_sem, e]) k
theorem sfFault0 {B j : Nat} (hg : Gok ops n L gd) (hx : evalL L x = some (.pointer (some ⟨B, j, none⟩))) (ht : Nat.blt t n = true)
    (k : St n ((t, .pointer (some ⟨B, j, none⟩)) :: L) ops Q rest w) : St n L ops Q (⟨some t, .fieldAddr 26 x 0, ty, pos, aft, gd⟩ :: rest) w :=
  s_step hg rfl ht (fun ev hev => by have e := hev _ _ hx; simp [go_sem, e]) k
theorem sfFault1 {B j : Nat} (hg : Gok ops n L gd) (hx : evalL L x = some (.pointer (some ⟨B, j, none⟩))) (ht : Nat.blt t n = true)
    (k : St n ((t, .pointer (some ⟨B, j + 1, none⟩)) :: L) ops Q rest w) : St n L ops Q (⟨some t, .fieldAddr 26 x 1, ty, pos, aft, gd⟩ :: rest) w :=
  s_step hg rfl ht (fun ev hev => by have e := hev _ _ hx; simp [go_sem, e]) k
theorem sfFields0 {B j : Nat} (hg : Gok ops n L gd) (hx : evalL L x = some (.pointer (some ⟨B, j, none⟩))) (ht : Nat.blt t n = true)
    (k : St n ((t, .pointer (some ⟨B, j, none⟩)) :: L) ops Q rest w) : St n L ops Q (⟨some t, .fieldAddr 102 x 0, ty, pos, aft, gd⟩ :: rest) w :=
  s_step hg rfl ht (fun ev hev => by have e := hev _ _ hx; simp [go_sem, e]) k
theorem sfFields1 {B j : Nat} (hg : Gok ops n L gd) (hx : evalL L x = some (.pointer (some ⟨B, j, none⟩))) (ht : Nat.blt t n = true)
    (k : St n ((t, .pointer (some ⟨B, j + 1, none⟩)) :: L) ops Q rest w) : St n L ops Q (⟨some t, .fieldAddr 102 x 1, ty, pos, aft, gd⟩ :: rest) w :=
  s_step hg rfl ht (fun ev hev => by have e := hev _ _ hx; simp [go_sem, e]) k
theorem sfFields2 {B j : Nat} (hg : Gok ops n L gd) (hx : evalL L x = some (.pointer (some ⟨B, j, none⟩))) (ht : Nat.blt t n = true)
    (k : St n ((t, .pointer (some ⟨B, j + 2, none⟩)) :: L) ops Q rest w) : St n L ops Q (⟨some t, .fieldAddr 102 x 2, ty, pos, aft, gd⟩ :: rest) w :=
  s_step hg rfl ht (fun ev hev => by have e := hev _ _ hx; simp [go_sem, e]) k
theorem sfFields3 {B j : Nat} (hg : Gok ops n L gd) (hx : evalL L x = some (.pointer (some ⟨B, j, none⟩))) (ht : Nat.blt t n = true)
    (k : St n ((t, .pointer (some ⟨B, j + 3, none⟩)) :: L) ops Q rest w) : St n L ops Q (⟨some t, .fieldAddr 102 x 3, ty, pos, aft, gd⟩ :: rest) w :=
  s_step hg rfl ht (fun ev hev => by have e := hev _ _ hx; simp [go_sem, e]) k
theorem sfFields4 {B j : Nat} (hg : Gok ops n L gd) (hx : evalL L x = some (.pointer (some ⟨B, j, none⟩))) (ht : Nat.blt t n = true)
    (k : St n ((t, .pointer (some ⟨B, j + 4, none⟩)) :: L) ops Q rest w) : St n L ops Q (⟨some t, .fieldAddr 102 x 4, ty, pos, aft, gd⟩ :: rest) w :=
  s_step hg rfl ht (fun ev hev => by have e := hev _ _ hx; simp [go_sem, e]) k
theorem sfFields5 {B j : Nat} (hg : Gok ops n L gd) (hx : evalL L x = some (.pointer (some ⟨B, j, none⟩))) (ht : Nat.blt t n = true)
    (k : St n ((t, .pointer (some ⟨B, j + 5, none⟩)) :: L) ops Q rest w) : St n L ops Q (⟨some t, .fieldAddr 102 x 5, ty, pos, aft, gd⟩ :: rest) w :=
  s_step hg rfl ht (fun ev hev => by have e := hev _ _ hx; simp [go_sem, e]) k
theorem sfFields6 {B j : Nat} (hg : Gok ops n L gd) (hx : evalL L x = some (.pointer (some ⟨B, j, none⟩))) (ht : Nat.blt t n = true)
    (k : St n ((t, .pointer (some ⟨B, j + 6, none⟩)) :: L) ops Q rest w) : St n L ops Q (⟨some t, .fieldAddr 102 x 6, ty, pos, aft, gd⟩ :: rest) w :=
  s_step hg rfl ht (fun ev hev => by have e := hev _ _ hx; simp [go_sem, e]) k
theorem sffuncLook0 {B j : Nat} (hg : Gok ops n L gd) (hx : evalL L x = some (.pointer (some ⟨B, j, none⟩))) (ht : Nat.blt t n = true)
    (k : St n ((t, .pointer (some ⟨B, j, none⟩)) :: L) ops Q rest w) : St n L ops Q (⟨some t, .fieldAddr 84 x 0, ty, pos, aft, gd⟩ :: rest) w :=
  s_step hg rfl ht (fun ev hev => by have e := hev _ _ hx; simp [go_sem, e]) k
theorem sffuncLook1 {B j : Nat} (hg : Gok ops n L gd) (hx : evalL L x = some (.pointer (some ⟨B, j, none⟩))) (ht : Nat.blt t n = true)
    (k : St n ((t, .pointer (some ⟨B, j + 1, none⟩)) :: L) ops Q rest w) : St n L ops Q (⟨some t, .fieldAddr 84 x 1, ty, pos, aft, gd⟩ :: rest) w :=
  s_step hg rfl ht (fun ev hev => by have e := hev _ _ hx; simp [go_sem, e]) k
theorem sffuncLook2 {B j : Nat} (hg : Gok ops n L gd) (hx : evalL L x = some (.pointer (some ⟨B, j, none⟩))) (ht : Nat.blt t n = true)
    (k : St n ((t, .pointer (some ⟨B, j + 5, none⟩)) :: L) ops Q rest w) : St n L ops Q (⟨some t, .fieldAddr 84 x 2, ty, pos, aft, gd⟩ :: rest) w :=
  s_step hg rfl ht (fun ev hev => by have e := hev _ _ hx; simp [go_sem, e]) k
theorem sfblockLook0 {B j : Nat} (hg : Gok ops n L gd) (hx : evalL L x = some (.pointer (some ⟨B, j, none⟩))) (ht : Nat.blt t n = true)
    (k : St n ((t, .pointer (some ⟨B, j, none⟩)) :: L) ops Q rest w) : St n L ops Q (⟨some t, .fieldAddr 113 x 0, ty, pos, aft, gd⟩ :: rest) w :=
  s_step hg rfl ht (fun ev hev => by have e := hev _ _ hx; simp [go_sem, e]) k
theorem sfblockLook1 {B j : Nat} (hg : Gok ops n L gd) (hx : evalL L x = some (.pointer (some ⟨B, j, none⟩))) (ht : Nat.blt t n = true)
    (k : St n ((t, .pointer (some ⟨B, j + 6, none⟩)) :: L) ops Q rest w) : St n L ops Q (⟨some t, .fieldAddr 113 x 1, ty, pos, aft, gd⟩ :: rest) w :=
  s_step hg rfl ht (fun ev hev => by have e := hev _ _ hx; simp [go_sem, e]) k
theorem sfblockLook2 {B j : Nat} (hg : Gok ops n L gd) (hx : evalL L x = some (.pointer (some ⟨B, j, none⟩))) (ht : Nat.blt t n = true)
    (k : St n ((t, .pointer (some ⟨B, j + 18, none⟩)) :: L) ops Q rest w) : St n L ops Q (⟨some t, .fieldAddr 113 x 2, ty, pos, aft, gd⟩ :: rest) w :=
  s_step hg rfl ht (fun ev hev => by have e := hev _ _ hx; simp [go_sem, e]) k
theorem scInt {B j : Nat} (hc : w.cell? ⟨B, j, none⟩ = some v) (hg : Gok ops n L gd) (hx : evalL L x = some (.pointer (some ⟨B, j, none⟩))) (ht : Nat.blt t n = true)
    (k : St n ((t, v) :: L) ops Q rest w) : St n L ops Q (⟨some t, .load 3 x, ty, pos, aft, gd⟩ :: rest) w :=
  s_step hg rfl ht (fun ev hev => by have e := hev _ _ hx; simp [go_sem, e, hc]) k
theorem sbInt (i : Nat) {B j : Nat} {c : Array Value} {bt : TypeId} (hW : Wd w0 w Bs) (hg : Gok ops n L gd) (hx : evalL L x = some (.pointer (some ⟨B, j, none⟩))) (hb : Bs[i]? = some (B, c, bt)) (hc : c[j]? = some v) (ht : Nat.blt t n = true)
    (k : St n ((t, v) :: L) ops Q rest w) : St n L ops Q (⟨some t, .load 3 x, ty, pos, aft, gd⟩ :: rest) w := scInt (cellOf (hW.get i hb) j v hc) hg hx ht k
theorem scInt6 {B j : Nat} (hc : w.cell? ⟨B, j, none⟩ = some v) (hg : Gok ops n L gd) (hx : evalL L x = some (.pointer (some ⟨B, j, none⟩))) (ht : Nat.blt t n = true)
    (k : St n ((t, v) :: L) ops Q rest w) : St n L ops Q (⟨some t, .load 2 x, ty, pos, aft, gd⟩ :: rest) w :=
  s_step hg rfl ht (fun ev hev => by have e := hev _ _ hx; simp [go_sem, e, hc]) k
theorem sbInt6 (i : Nat) {B j : Nat} {c : Array Value} {bt : TypeId} (hW : Wd w0 w Bs) (hg : Gok ops n L gd) (hx : evalL L x = some (.pointer (some ⟨B, j, none⟩))) (hb : Bs[i]? = some (B, c, bt)) (hc : c[j]? = some v) (ht : Nat.blt t n = true)
    (k : St n ((t, v) :: L) ops Q rest w) : St n L ops Q (⟨some t, .load 2 x, ty, pos, aft, gd⟩ :: rest) w := scInt6 (cellOf (hW.get i hb) j v hc) hg hx ht k
theorem scBool {B j : Nat} (hc : w.cell? ⟨B, j, none⟩ = some v) (hg : Gok ops n L gd) (hx : evalL L x = some (.pointer (some ⟨B, j, none⟩))) (ht : Nat.blt t n = true)
    (k : St n ((t, v) :: L) ops Q rest w) : St n L ops Q (⟨some t, .load 4 x, ty, pos, aft, gd⟩ :: rest) w :=
  s_step hg rfl ht (fun ev hev => by have e := hev _ _ hx; simp [go_sem, e, hc]) k
theorem sbBool (i : Nat) {B j : Nat} {c : Array Value} {bt : TypeId} (hW : Wd w0 w Bs) (hg : Gok ops n L gd) (hx : evalL L x = some (.pointer (some ⟨B, j, none⟩))) (hb : Bs[i]? = some (B, c, bt)) (hc : c[j]? = some v) (ht : Nat.blt t n = true)
    (k : St n ((t, v) :: L) ops Q rest w) : St n L ops Q (⟨some t, .load 4 x, ty, pos, aft, gd⟩ :: rest) w := scBool (cellOf (hW.get i hb) j v hc) hg hx ht k
theorem scInts {B j : Nat} (hc : w.cell? ⟨B, j, none⟩ = some v) (hg : Gok ops n L gd) (hx : evalL L x = some (.pointer (some ⟨B, j, none⟩))) (ht : Nat.blt t n = true)
    (k : St n ((t, v) :: L) ops Q rest w) : St n L ops Q (⟨some t, .load 44 x, ty, pos, aft, gd⟩ :: rest) w :=
  s_step hg rfl ht (fun ev hev => by have e := hev _ _ hx; simp [go_sem, e, hc]) k
theorem sbInts (i : Nat) {B j : Nat} {c : Array Value} {bt : TypeId} (hW : Wd w0 w Bs) (hg : Gok ops n L gd) (hx : evalL L x = some (.pointer (some ⟨B, j, none⟩))) (hb : Bs[i]? = some (B, c, bt)) (hc : c[j]? = some v) (ht : Nat.blt t n = true)
    (k : St n ((t, v) :: L) ops Q rest w) : St n L ops Q (⟨some t, .load 44 x, ty, pos, aft, gd⟩ :: rest) w := scInts (cellOf (hW.get i hb) j v hc) hg hx ht k
theorem scTypes {B j : Nat} (hc : w.cell? ⟨B, j, none⟩ = some v) (hg : Gok ops n L gd) (hx : evalL L x = some (.pointer (some ⟨B, j, none⟩))) (ht : Nat.blt t n = true)
    (k : St n ((t, v) :: L) ops Q rest w) : St n L ops Q (⟨some t, .load 47 x, ty, pos, aft, gd⟩ :: rest) w :=
  s_step hg rfl ht (fun ev hev => by have e := hev _ _ hx; simp [go_sem, e, hc]) k
theorem sbTypes (i : Nat) {B j : Nat} {c : Array Value} {bt : TypeId} (hW : Wd w0 w Bs) (hg : Gok ops n L gd) (hx : evalL L x = some (.pointer (some ⟨B, j, none⟩))) (hb : Bs[i]? = some (B, c, bt)) (hc : c[j]? = some v) (ht : Nat.blt t n = true)
    (k : St n ((t, v) :: L) ops Q rest w) : St n L ops Q (⟨some t, .load 47 x, ty, pos, aft, gd⟩ :: rest) w := scTypes (cellOf (hW.get i hb) j v hc) hg hx ht k
theorem scInss {B j : Nat} (hc : w.cell? ⟨B, j, none⟩ = some v) (hg : Gok ops n L gd) (hx : evalL L x = some (.pointer (some ⟨B, j, none⟩))) (ht : Nat.blt t n = true)
    (k : St n ((t, v) :: L) ops Q rest w) : St n L ops Q (⟨some t, .load 75 x, ty, pos, aft, gd⟩ :: rest) w :=
  s_step hg rfl ht (fun ev hev => by have e := hev _ _ hx; simp [go_sem, e, hc]) k
theorem sbInss (i : Nat) {B j : Nat} {c : Array Value} {bt : TypeId} (hW : Wd w0 w Bs) (hg : Gok ops n L gd) (hx : evalL L x = some (.pointer (some ⟨B, j, none⟩))) (hb : Bs[i]? = some (B, c, bt)) (hc : c[j]? = some v) (ht : Nat.blt t n = true)
    (k : St n ((t, v) :: L) ops Q rest w) : St n L ops Q (⟨some t, .load 75 x, ty, pos, aft, gd⟩ :: rest) w := scInss (cellOf (hW.get i hb) j v hc) hg hx ht k
theorem scBlocks {B j : Nat} (hc : w.cell? ⟨B, j, none⟩ = some v) (hg : Gok ops n L gd) (hx : evalL L x = some (.pointer (some ⟨B, j, none⟩))) (ht : Nat.blt t n = true)
    (k : St n ((t, v) :: L) ops Q rest w) : St n L ops Q (⟨some t, .load 48 x, ty, pos, aft, gd⟩ :: rest) w :=
  s_step hg rfl ht (fun ev hev => by have e := hev _ _ hx; simp [go_sem, e, hc]) k
theorem sbBlocks (i : Nat) {B j : Nat} {c : Array Value} {bt : TypeId} (hW : Wd w0 w Bs) (hg : Gok ops n L gd) (hx : evalL L x = some (.pointer (some ⟨B, j, none⟩))) (hb : Bs[i]? = some (B, c, bt)) (hc : c[j]? = some v) (ht : Nat.blt t n = true)
    (k : St n ((t, v) :: L) ops Q rest w) : St n L ops Q (⟨some t, .load 48 x, ty, pos, aft, gd⟩ :: rest) w := scBlocks (cellOf (hW.get i hb) j v hc) hg hx ht k
theorem scFuncs {B j : Nat} (hc : w.cell? ⟨B, j, none⟩ = some v) (hg : Gok ops n L gd) (hx : evalL L x = some (.pointer (some ⟨B, j, none⟩))) (ht : Nat.blt t n = true)
    (k : St n ((t, v) :: L) ops Q rest w) : St n L ops Q (⟨some t, .load 37 x, ty, pos, aft, gd⟩ :: rest) w :=
  s_step hg rfl ht (fun ev hev => by have e := hev _ _ hx; simp [go_sem, e, hc]) k
theorem sbFuncs (i : Nat) {B j : Nat} {c : Array Value} {bt : TypeId} (hW : Wd w0 w Bs) (hg : Gok ops n L gd) (hx : evalL L x = some (.pointer (some ⟨B, j, none⟩))) (hb : Bs[i]? = some (B, c, bt)) (hc : c[j]? = some v) (ht : Nat.blt t n = true)
    (k : St n ((t, v) :: L) ops Q rest w) : St n L ops Q (⟨some t, .load 37 x, ty, pos, aft, gd⟩ :: rest) w := scFuncs (cellOf (hW.get i hb) j v hc) hg hx ht k

theorem rangeOf {w : World} {B : Nat} {c : Array Value} {t : TypeId} (h : Blk w B c t) (j m : Nat) (hn : Nat.ble (j + m) c.size = true) : w.rangeAt B j ((c.toList.drop j).take m) := fun k v hk => by
  have hlt : k < ((c.toList.drop j).take m).length := (List.getElem?_eq_some_iff.1 hk).1
  have hm : k < m := by simp at hlt; omega
  rw [List.getElem?_take, if_pos hm, List.getElem?_drop] at hk
  exact cellOf h (j + k) v (by simpa using hk)
theorem thereOf {w : World} {B : Nat} {c : Array Value} {t : TypeId} (h : Blk w B c t) (j n : Nat) (hn : j + n ≤ c.size) : w.there B j n := fun k hk =>
  ⟨by rw [cellOf h (j + k) c[j + k] (by simp [show j + k < c.size by omega])]; rfl, freeOf h (j + k)⟩
theorem rangeAt_bel {w w' : World} {B j : Nat} {cs : List Value} (h : w.rangeAt B j cs) (b : Below w.heap.size w w') : w'.rangeAt B j cs := fun k v hk => bel_cell b (h k v hk)
/-- A struct, out of cells of which is known what they hold. -/
theorem sSE {d : TypeDesc} {B j : Nat} {cs : List Value} (hu : Try.prog.underlying ty2 = some d) (hd : d.isRow = true) (hr : w.rangeAt B j cs) (hi : (Try.prog.info? ty2).map (·.size) = some cs.length) (hg : Gok ops n L gd) (hx : evalL L x = some (.pointer (some ⟨B, j, none⟩))) (ht : Nat.blt t n = true)
    (k : St n ((t, .agg cs.toArray) :: L) ops Q rest w) : St n L ops Q (⟨some t, .load ty2 x, ty, pos, aft, gd⟩ :: rest) w :=
  s_step hg rfl ht (fun ev hev => by
    have e := hev _ _ hx
    have e2 := run_loadAt_mid (P := Try.prog) w B j ty2 cs d hr hu hd hi
    unfold execOp
    simp only [e, Sem.run_bind, e2, Result.andThen_ok, Sem.run_pure]) k
/-- A struct, out of a box. -/
theorem sS {d : TypeDesc} (i m : Nat) {B j : Nat} {c : Array Value} {bt : TypeId} (hu : Try.prog.underlying ty2 = some d) (hd : d.isRow = true) (hi : (Try.prog.info? ty2).map (·.size) = some m) (hW : Wd w0 w Bs) (hg : Gok ops n L gd) (hx : evalL L x = some (.pointer (some ⟨B, j, none⟩))) (hb : Bs[i]? = some (B, c, bt)) (hn : Nat.ble (j + m) c.size = true) (ht : Nat.blt t n = true)
    (k : St n ((t, .agg ((c.toList.drop j).take m).toArray) :: L) ops Q rest w) : St n L ops Q (⟨some t, .load ty2 x, ty, pos, aft, gd⟩ :: rest) w :=
  sSE hu hd (rangeOf (hW.get i hb) j m hn) (by rw [hi]; have : j + m ≤ c.size := by simpa [Nat.ble_eq] using hn
                                               simp; omega) hg hx ht k
/-- A new box. -/
theorem s_new {o : Oper} (c : Array Value) (bt : TypeId) (hW : Wd w0 w Bs) (hd : o.dst = some t) (hg : Gok ops n L o.guard) (ht : Nat.blt t n = true)
    (h : ∀ ev : Operand → Value, (∀ x v, evalL L x = some v → ev x = v) → (execOp ev o).run Try.prog w = .ok (.value (.pointer (some ⟨w.heap.size, 0, none⟩))) (w.alloc (.cells c bt)))
    (k : ∀ w' B, Wd w0 w' ((B, c, bt) :: Bs) → New w w' B → St n ((t, .pointer (some ⟨B, 0, none⟩)) :: L) ops Q rest w') : St n L ops Q (o :: rest) w := fun a hF =>
  wpList_step fun K hK => by
    rw [if_pos (hg.on hF)]
    unfold Oper.wp
    rw [h a.eval (fun x v e => hF.ev e), Oper.upon_value, hd]
    exact hK _ _ (k _ _ (hW.new' c bt) ⟨bel1 w _, rfl, by simp⟩ _ (hF.put ht))
theorem sB {cs : Array Value} (hW : Wd w0 w Bs) (hg : Gok ops n L gd) (hx : evalL L x = some (.agg cs)) (ht : Nat.blt t n = true)
    (k : ∀ w' B, Wd w0 w' ((B, cs, ty2) :: Bs) → New w w' B → St n ((t, .pointer (some ⟨B, 0, none⟩)) :: L) ops Q rest w') : St n L ops Q (⟨some t, .box ty2 x, ty, pos, aft, gd⟩ :: rest) w :=
  s_new cs ty2 hW rfl hg ht (fun ev hev => by have e := hev _ _ hx; simp [go_sem, e]) k
theorem sAType (hW : Wd w0 w Bs) (hg : Gok ops n L gd) (ht : Nat.blt t n = true)
    (k : ∀ w' B, Wd w0 w' ((B, #[.int .i64 0, .int .i64 0, .slice none 0 0], 90) :: Bs) → New w w' B → St n ((t, .pointer (some ⟨B, 0, none⟩)) :: L) ops Q rest w') : St n L ops Q (⟨some t, .alloc 90, ty, pos, aft, gd⟩ :: rest) w :=
  s_new #[.int .i64 0, .int .i64 0, .slice none 0 0] 90 hW rfl hg ht (fun ev hev => by simp [go_sem]) k
theorem sAIns (hW : Wd w0 w Bs) (hg : Gok ops n L gd) (ht : Nat.blt t n = true)
    (k : ∀ w' B, Wd w0 w' ((B, #[.int .i64 0, .int .i64 0, .int .i64 0, .int .i64 0, .int .i64 0, .int .i64 0, .slice none 0 0, .slice none 0 0], 46) :: Bs) → New w w' B → St n ((t, .pointer (some ⟨B, 0, none⟩)) :: L) ops Q rest w') : St n L ops Q (⟨some t, .alloc 46, ty, pos, aft, gd⟩ :: rest) w :=
  s_new #[.int .i64 0, .int .i64 0, .int .i64 0, .int .i64 0, .int .i64 0, .int .i64 0, .slice none 0 0, .slice none 0 0] 46 hW rfl hg ht (fun ev hev => by simp [go_sem]) k
theorem sATo (hW : Wd w0 w Bs) (hg : Gok ops n L gd) (ht : Nat.blt t n = true)
    (k : ∀ w' B, Wd w0 w' ((B, #[.int .i64 0, .slice none 0 0, .slice none 0 0], 52) :: Bs) → New w w' B → St n ((t, .pointer (some ⟨B, 0, none⟩)) :: L) ops Q rest w') : St n L ops Q (⟨some t, .alloc 52, ty, pos, aft, gd⟩ :: rest) w :=
  s_new #[.int .i64 0, .slice none 0 0, .slice none 0 0] 52 hW rfl hg ht (fun ev hev => by simp [go_sem]) k
theorem sAEnd (hW : Wd w0 w Bs) (hg : Gok ops n L gd) (ht : Nat.blt t n = true)
    (k : ∀ w' B, Wd w0 w' ((B, #[.int .i64 0, .int .i64 0, .int .i64 0, .slice none 0 0, .slice none 0 0, .int .i64 0, .slice none 0 0, .slice none 0 0, .slice none 0 0], 54) :: Bs) → New w w' B → St n ((t, .pointer (some ⟨B, 0, none⟩)) :: L) ops Q rest w') : St n L ops Q (⟨some t, .alloc 54, ty, pos, aft, gd⟩ :: rest) w :=
  s_new #[.int .i64 0, .int .i64 0, .int .i64 0, .slice none 0 0, .slice none 0 0, .int .i64 0, .slice none 0 0, .slice none 0 0, .slice none 0 0] 54 hW rfl hg ht (fun ev hev => by simp [go_sem]) k
theorem sABlock (hW : Wd w0 w Bs) (hg : Gok ops n L gd) (ht : Nat.blt t n = true)
    (k : ∀ w' B, Wd w0 w' ((B, #[.int .i64 0, .slice none 0 0, .slice none 0 0, .int .i64 0, .int .i64 0, .int .i64 0, .slice none 0 0, .slice none 0 0, .int .i64 0, .slice none 0 0, .slice none 0 0, .slice none 0 0], 77) :: Bs) → New w w' B → St n ((t, .pointer (some ⟨B, 0, none⟩)) :: L) ops Q rest w') : St n L ops Q (⟨some t, .alloc 77, ty, pos, aft, gd⟩ :: rest) w :=
  s_new #[.int .i64 0, .slice none 0 0, .slice none 0 0, .int .i64 0, .int .i64 0, .int .i64 0, .slice none 0 0, .slice none 0 0, .int .i64 0, .slice none 0 0, .slice none 0 0, .slice none 0 0] 77 hW rfl hg ht (fun ev hev => by simp [go_sem]) k
theorem sAFunc (hW : Wd w0 w Bs) (hg : Gok ops n L gd) (ht : Nat.blt t n = true)
    (k : ∀ w' B, Wd w0 w' ((B, #[.int .i64 0, .slice none 0 0, .slice none 0 0, .slice none 0 0], 50) :: Bs) → New w w' B → St n ((t, .pointer (some ⟨B, 0, none⟩)) :: L) ops Q rest w') : St n L ops Q (⟨some t, .alloc 50, ty, pos, aft, gd⟩ :: rest) w :=
  s_new #[.int .i64 0, .slice none 0 0, .slice none 0 0, .slice none 0 0] 50 hW rfl hg ht (fun ev hev => by simp [go_sem]) k
theorem sAModule (hW : Wd w0 w Bs) (hg : Gok ops n L gd) (ht : Nat.blt t n = true)
    (k : ∀ w' B, Wd w0 w' ((B, #[.slice none 0 0], 39) :: Bs) → New w w' B → St n ((t, .pointer (some ⟨B, 0, none⟩)) :: L) ops Q rest w') : St n L ops Q (⟨some t, .alloc 39, ty, pos, aft, gd⟩ :: rest) w :=
  s_new #[.slice none 0 0] 39 hW rfl hg ht (fun ev hev => by simp [go_sem]) k
theorem sAFault (hW : Wd w0 w Bs) (hg : Gok ops n L gd) (ht : Nat.blt t n = true)
    (k : ∀ w' B, Wd w0 w' ((B, #[.int .i64 0, .int .i64 0], 26) :: Bs) → New w w' B → St n ((t, .pointer (some ⟨B, 0, none⟩)) :: L) ops Q rest w') : St n L ops Q (⟨some t, .alloc 26, ty, pos, aft, gd⟩ :: rest) w :=
  s_new #[.int .i64 0, .int .i64 0] 26 hW rfl hg ht (fun ev hev => by simp [go_sem]) k
theorem sAFields (hW : Wd w0 w Bs) (hg : Gok ops n L gd) (ht : Nat.blt t n = true)
    (k : ∀ w' B, Wd w0 w' ((B, #[.bool false, .bool false, .bool false, .bool false, .bool false, .bool false, .bool false], 102) :: Bs) → New w w' B → St n ((t, .pointer (some ⟨B, 0, none⟩)) :: L) ops Q rest w') : St n L ops Q (⟨some t, .alloc 102, ty, pos, aft, gd⟩ :: rest) w :=
  s_new #[.bool false, .bool false, .bool false, .bool false, .bool false, .bool false, .bool false] 102 hW rfl hg ht (fun ev hev => by simp [go_sem]) k
theorem sAfuncLook (hW : Wd w0 w Bs) (hg : Gok ops n L gd) (ht : Nat.blt t n = true)
    (k : ∀ w' B, Wd w0 w' ((B, #[.slice none 0 0, .int .i64 0, .slice none 0 0, .slice none 0 0, .slice none 0 0, .int .i64 0], 84) :: Bs) → New w w' B → St n ((t, .pointer (some ⟨B, 0, none⟩)) :: L) ops Q rest w') : St n L ops Q (⟨some t, .alloc 84, ty, pos, aft, gd⟩ :: rest) w :=
  s_new #[.slice none 0 0, .int .i64 0, .slice none 0 0, .slice none 0 0, .slice none 0 0, .int .i64 0] 84 hW rfl hg ht (fun ev hev => by simp [go_sem]) k
theorem sAblockLook (hW : Wd w0 w Bs) (hg : Gok ops n L gd) (ht : Nat.blt t n = true)
    (k : ∀ w' B, Wd w0 w' ((B, #[.slice none 0 0, .int .i64 0, .slice none 0 0, .slice none 0 0, .slice none 0 0, .int .i64 0, .int .i64 0, .slice none 0 0, .slice none 0 0, .int .i64 0, .int .i64 0, .int .i64 0, .slice none 0 0, .slice none 0 0, .int .i64 0, .slice none 0 0, .slice none 0 0, .slice none 0 0, .int .i64 0], 113) :: Bs) → New w w' B → St n ((t, .pointer (some ⟨B, 0, none⟩)) :: L) ops Q rest w') : St n L ops Q (⟨some t, .alloc 113, ty, pos, aft, gd⟩ :: rest) w :=
  s_new #[.slice none 0 0, .int .i64 0, .slice none 0 0, .slice none 0 0, .slice none 0 0, .int .i64 0, .int .i64 0, .slice none 0 0, .slice none 0 0, .int .i64 0, .int .i64 0, .int .i64 0, .slice none 0 0, .slice none 0 0, .int .i64 0, .slice none 0 0, .slice none 0 0, .slice none 0 0, .int .i64 0] 113 hW rfl hg ht (fun ev hev => by simp [go_sem]) k

/-- A store of a struct into a box. -/
theorem sT (i : Nat) {B j : Nat} {c : Array Value} {bt : TypeId} {cells : List Value} (hW : Wd w0 w Bs)
    (hx : evalL L x = some (.pointer (some ⟨B, j, none⟩))) (hy : evalL L y = some (.agg cells.toArray)) (hi : (Try.prog.info? ty2).map (·.size) = some cells.length) (h1 : cells.all (·.oneCell') = true)
    (hb : Bs[i]? = some (B, c, bt)) (hs : Nat.ble (j + cells.length) c.size = true)
    (k : ∀ w', Wd w0 w' (Bs.set i (B, spliced c j cells, bt)) → St n L ops Q rest w') : St n L ops Q (⟨none, .store ty2 x y, ty, pos, aft, none⟩ :: rest) w := fun a hF => by
  have hn : j + cells.length ≤ c.size := by simpa [Nat.ble_eq] using hs
  refine fr_set hF (hW.setAt i hb j cells hs rfl rfl) rfl rfl (fun K hK => ?_) (fun w' hW' => k w' hW' a hF)
  have e := hF.ev hx
  have e2 := hF.ev hy
  have := run_storeAt_mid (P := Try.prog) w B j ty2 cells.toArray (by simpa using thereOf (hW.get i hb) j cells.length hn) (by simpa using hi) (by simpa using h1)
  unfold Oper.wp execOp
  simp only [e, e2, Sem.run_bind, this, Result.andThen_ok, Sem.run_pure]
  rw [Oper.upon_skip]; simpa [Act.put] using hK
/-- A store of one cell into a box. -/
theorem s1 (i : Nat) {B j : Nat} {c : Array Value} {bt : TypeId} (hi : (Try.prog.info? ty2).map (·.size) = some 1) (hW : Wd w0 w Bs)
    (hx : evalL L x = some (.pointer (some ⟨B, j, none⟩))) (hy : evalL L y = some v) (hv : v.cells = #[v]) (h1 : v.oneCell' = true)
    (hb : Bs[i]? = some (B, c, bt)) (hs : Nat.ble (j + 1) c.size = true)
    (k : ∀ w', Wd w0 w' (Bs.set i (B, spliced c j [v], bt)) → St n L ops Q rest w') : St n L ops Q (⟨none, .store ty2 x y, ty, pos, aft, none⟩ :: rest) w := fun a hF => by
  have hn : j + 1 ≤ c.size := by simpa [Nat.ble_eq] using hs
  refine fr_set hF (hW.setAt i hb j [v] hs rfl rfl) rfl rfl (fun K hK => ?_) (fun w' hW' => k w' hW' a hF)
  have e := hF.ev hx
  have e2 := hF.ev hy
  have ht := thereOf (hW.get i hb) j 1 hn
  have h2 := run_storeCells_cells (P := Try.prog) B j [v] 0 w (fun k hk => by simpa using (ht k (by simpa using hk)).1) (fun k hk => by simpa using (ht k (by simpa using hk)).2) (fun u hu => by simp at hu; subst hu; exact h1)
  have h3 : (Instr.storeAt ty2 (.pointer (some ⟨B, j, none⟩)) v).run Try.prog w = .ok () (w.setCells B j [v]) := by
    cases hq : Try.prog.info? ty2 with
    | none => simp [hq] at hi
    | some q =>
      have hs1 : q.size = 1 := by simpa [hq] using hi
      simp only [Nat.add_zero] at h2
      simp [Instr.storeAt, Instr.sureAddr, storeVar, sizeOf, typeInfo, hq, hv, hs1, h2]
  unfold Oper.wp execOp
  simp only [e, e2, Sem.run_bind, h3, Result.andThen_ok, Sem.run_pure]
  rw [Oper.upon_skip]; simpa [Act.put] using hK
/-- A slice that is written out: its row. -/
theorem q_row {o : Oper} (c : Array Value) (ty : TypeId) (m : Nat) (hF : Fr n a L) (hW : Wd w0 w Bs) (hd : o.dst = some t) (hg : Gok ops n L o.guard) (ht : Nat.blt t n = true)
    (h : ∀ K : Act → World → Prop, K (a.put (some t) (.slice (some ⟨w.heap.size, 0, none⟩) m m)) (w.alloc (.cells c ty)) → o.wp Try.prog a w K Q)
    (k : ∀ a' w' B, Wd w0 w' ((B, c, ty) :: Bs) → New w w' B → Fr n a' ((t, .slice (some ⟨B, 0, none⟩) m m) :: L) → wpList Try.prog ops Q rest a' w') : wpList Try.prog ops Q (o :: rest) a w :=
  wpList_step fun K hK => by
    rw [if_pos (hg.on hF)]
    exact h K (hK _ _ (k _ _ _ (hW.new' c ty) ⟨bel1 w _, rfl, by simp⟩ (hF.put ht)))
/-- A call that only reads. -/
theorem s_call {o : Oper} {f : FuncId} {args : Array Value} {V : Value} (hW : Wd w0 w Bs) (hg : Gok ops n L o.guard) (hc : Rd Try.prog f args w V) (hd : o.dst = some t) (ht : Nat.blt t n = true)
    (h : ∀ ev : Operand → Value, (∀ x v, evalL L x = some v → ev x = v) → (execOp ev o).run Try.prog w = .ok (.enter f args) w)
    (k : ∀ w', Wd w0 w' Bs → St n ((t, V) :: L) ops Q rest w') : St n L ops Q (o :: rest) w := fun a hF =>
  wpList_step fun K hK => by
    rw [if_pos (hg.on hF)]
    unfold Oper.wp
    rw [h a.eval (fun x v e => hF.ev e), Oper.upon_enter]
    refine hc.mono ?_
    rintro e w9 ⟨rfl, hb⟩
    rw [hd]
    exact hK _ _ (k _ (hW.below hb) _ (hF.put ht))
/-- A function that has a body is entered. -/
def CF (f : FuncId) : Prop := ∀ (args : Array Value) (w : World), (callFunc f args).run Try.prog w = .ok (.enter f args) w
theorem cf_of {f : FuncId} {fn : Func} (hf : Try.prog.funcs[f]? = some fn) (h1 : (fn.name == "runtime.NumGoroutine") = false) (h2 : fn.body.isNone = false) : CF f := fun args w => by
  have h3 : ¬ fn.name = "runtime.NumGoroutine" := by simpa using h1
  have h4 : ¬ fn.body = none := by intro h; rw [h] at h2; cases h2
  simp [callFunc, hf, h3, h4]
theorem sc_0 {f : FuncId} {ts : Array TypeId}  {V : Value} (hcf : CF f) (hW : Wd w0 w Bs) (hc : Rd Try.prog f #[] w V) (hg : Gok ops n L gd)  (ht : Nat.blt t n = true)
    (k : ∀ w', Wd w0 w' Bs → St n ((t, V) :: L) ops Q rest w') : St n L ops Q (⟨some t, .call { callee := .value (.func f), args := #[], argTypes := ts }, ty, pos, aft, gd⟩ :: rest) w :=
  s_call hW hg hc rfl ht (fun ev hev => by have ef := hev (.func f) _ rfl; have ec := hcf; unfold CF at ec; simp [go_sem, ef, ec]) k
theorem sc_1 {f : FuncId} {ts : Array TypeId} {x0 : Operand} {v0 : Value} {V : Value} (hcf : CF f) (hW : Wd w0 w Bs) (hc : Rd Try.prog f #[v0] w V) (hg : Gok ops n L gd) (h0 : evalL L x0 = some v0) (ht : Nat.blt t n = true)
    (k : ∀ w', Wd w0 w' Bs → St n ((t, V) :: L) ops Q rest w') : St n L ops Q (⟨some t, .call { callee := .value (.func f), args := #[x0], argTypes := ts }, ty, pos, aft, gd⟩ :: rest) w :=
  s_call hW hg hc rfl ht (fun ev hev => by have e0 := hev _ _ h0; have ef := hev (.func f) _ rfl; have ec := hcf; unfold CF at ec; simp [go_sem, ef, ec, e0]) k
theorem sc_2 {f : FuncId} {ts : Array TypeId} {x0 x1 : Operand} {v0 v1 : Value} {V : Value} (hcf : CF f) (hW : Wd w0 w Bs) (hc : Rd Try.prog f #[v0, v1] w V) (hg : Gok ops n L gd) (h0 : evalL L x0 = some v0) (h1 : evalL L x1 = some v1) (ht : Nat.blt t n = true)
    (k : ∀ w', Wd w0 w' Bs → St n ((t, V) :: L) ops Q rest w') : St n L ops Q (⟨some t, .call { callee := .value (.func f), args := #[x0, x1], argTypes := ts }, ty, pos, aft, gd⟩ :: rest) w :=
  s_call hW hg hc rfl ht (fun ev hev => by have e0 := hev _ _ h0; have e1 := hev _ _ h1; have ef := hev (.func f) _ rfl; have ec := hcf; unfold CF at ec; simp [go_sem, ef, ec, e0, e1]) k
theorem sc_3 {f : FuncId} {ts : Array TypeId} {x0 x1 x2 : Operand} {v0 v1 v2 : Value} {V : Value} (hcf : CF f) (hW : Wd w0 w Bs) (hc : Rd Try.prog f #[v0, v1, v2] w V) (hg : Gok ops n L gd) (h0 : evalL L x0 = some v0) (h1 : evalL L x1 = some v1) (h2 : evalL L x2 = some v2) (ht : Nat.blt t n = true)
    (k : ∀ w', Wd w0 w' Bs → St n ((t, V) :: L) ops Q rest w') : St n L ops Q (⟨some t, .call { callee := .value (.func f), args := #[x0, x1, x2], argTypes := ts }, ty, pos, aft, gd⟩ :: rest) w :=
  s_call hW hg hc rfl ht (fun ev hev => by have e0 := hev _ _ h0; have e1 := hev _ _ h1; have e2 := hev _ _ h2; have ef := hev (.func f) _ rfl; have ec := hcf; unfold CF at ec; simp [go_sem, ef, ec, e0, e1, e2]) k
theorem sv_10 {f : FuncId} {ts : Array TypeId} {xf : Operand} {x0 : Operand} {v0 : Value} {V : Value} (hcf : CF f) (hW : Wd w0 w Bs) (hc : Rd Try.prog f #[v0] w V) (hg : Gok ops n L gd) (hf : evalL L xf = some (.func (.func f) #[] #[])) (h0 : evalL L x0 = some v0) (ht : Nat.blt t n = true)
    (k : ∀ w', Wd w0 w' Bs → St n ((t, V) :: L) ops Q rest w') : St n L ops Q (⟨some t, .call { callee := .value xf, args := #[x0], argTypes := ts }, ty, pos, aft, gd⟩ :: rest) w :=
  s_call hW hg hc rfl ht (fun ev hev => by have e0 := hev _ _ h0; have ef := hev _ _ hf; have ec := hcf; unfold CF at ec; simp [go_sem, ef, ec, e0]) k
theorem sv_11 {f : FuncId} {ts : Array TypeId} {xf : Operand} {x0 : Operand} {v0 cp : Value} {V : Value} (hcf : CF f) (hW : Wd w0 w Bs) (hc : Rd Try.prog f #[v0, cp] w V) (hg : Gok ops n L gd) (hf : evalL L xf = some (.func (.func f) #[] #[cp])) (h0 : evalL L x0 = some v0) (ht : Nat.blt t n = true)
    (k : ∀ w', Wd w0 w' Bs → St n ((t, V) :: L) ops Q rest w') : St n L ops Q (⟨some t, .call { callee := .value xf, args := #[x0], argTypes := ts }, ty, pos, aft, gd⟩ :: rest) w :=
  s_call hW hg hc rfl ht (fun ev hev => by have e0 := hev _ _ h0; have ef := hev _ _ hf; have ec := hcf; unfold CF at ec; simp [go_sem, ef, ec, e0]) k
theorem sv_20 {f : FuncId} {ts : Array TypeId} {xf : Operand} {x0 x1 : Operand} {v0 v1 : Value} {V : Value} (hcf : CF f) (hW : Wd w0 w Bs) (hc : Rd Try.prog f #[v0, v1] w V) (hg : Gok ops n L gd) (hf : evalL L xf = some (.func (.func f) #[] #[])) (h0 : evalL L x0 = some v0) (h1 : evalL L x1 = some v1) (ht : Nat.blt t n = true)
    (k : ∀ w', Wd w0 w' Bs → St n ((t, V) :: L) ops Q rest w') : St n L ops Q (⟨some t, .call { callee := .value xf, args := #[x0, x1], argTypes := ts }, ty, pos, aft, gd⟩ :: rest) w :=
  s_call hW hg hc rfl ht (fun ev hev => by have e0 := hev _ _ h0; have e1 := hev _ _ h1; have ef := hev _ _ hf; have ec := hcf; unfold CF at ec; simp [go_sem, ef, ec, e0, e1]) k
theorem sv_21 {f : FuncId} {ts : Array TypeId} {xf : Operand} {x0 x1 : Operand} {v0 v1 cp : Value} {V : Value} (hcf : CF f) (hW : Wd w0 w Bs) (hc : Rd Try.prog f #[v0, v1, cp] w V) (hg : Gok ops n L gd) (hf : evalL L xf = some (.func (.func f) #[] #[cp])) (h0 : evalL L x0 = some v0) (h1 : evalL L x1 = some v1) (ht : Nat.blt t n = true)
    (k : ∀ w', Wd w0 w' Bs → St n ((t, V) :: L) ops Q rest w') : St n L ops Q (⟨some t, .call { callee := .value xf, args := #[x0, x1], argTypes := ts }, ty, pos, aft, gd⟩ :: rest) w :=
  s_call hW hg hc rfl ht (fun ev hev => by have e0 := hev _ _ h0; have e1 := hev _ _ h1; have ef := hev _ _ hf; have ec := hcf; unfold CF at ec; simp [go_sem, ef, ec, e0, e1]) k
theorem cf4 : CF 4 := cf_of Try.func4 (by kernel_rfl) (by kernel_rfl)
theorem cf5 : CF 5 := cf_of Try.func5 (by kernel_rfl) (by kernel_rfl)
theorem cf12 : CF 12 := cf_of Try.func12 (by kernel_rfl) (by kernel_rfl)
theorem cf13 : CF 13 := cf_of Try.func13 (by kernel_rfl) (by kernel_rfl)
theorem cf14 : CF 14 := cf_of Try.func14 (by kernel_rfl) (by kernel_rfl)
theorem cf15 : CF 15 := cf_of Try.func15 (by kernel_rfl) (by kernel_rfl)
theorem cf16 : CF 16 := cf_of Try.func16 (by kernel_rfl) (by kernel_rfl)
theorem cf17 : CF 17 := cf_of Try.func17 (by kernel_rfl) (by kernel_rfl)
theorem cf18 : CF 18 := cf_of Try.func18 (by kernel_rfl) (by kernel_rfl)
theorem cf19 : CF 19 := cf_of Try.func19 (by kernel_rfl) (by kernel_rfl)
theorem cf20 : CF 20 := cf_of Try.func20 (by kernel_rfl) (by kernel_rfl)
theorem cf21 : CF 21 := cf_of Try.func21 (by kernel_rfl) (by kernel_rfl)
theorem cf22 : CF 22 := cf_of Try.func22 (by kernel_rfl) (by kernel_rfl)
theorem cf23 : CF 23 := cf_of Try.func23 (by kernel_rfl) (by kernel_rfl)
theorem cf24 : CF 24 := cf_of Try.func24 (by kernel_rfl) (by kernel_rfl)
theorem cf25 : CF 25 := cf_of Try.func25 (by kernel_rfl) (by kernel_rfl)
theorem cf26 : CF 26 := cf_of Try.func26 (by kernel_rfl) (by kernel_rfl)
theorem cf27 : CF 27 := cf_of Try.func27 (by kernel_rfl) (by kernel_rfl)
theorem cf28 : CF 28 := cf_of Try.func28 (by kernel_rfl) (by kernel_rfl)
theorem cf29 : CF 29 := cf_of Try.func29 (by kernel_rfl) (by kernel_rfl)
theorem cf30 : CF 30 := cf_of Try.func30 (by kernel_rfl) (by kernel_rfl)
theorem cf31 : CF 31 := cf_of Try.func31 (by kernel_rfl) (by kernel_rfl)
theorem cf32 : CF 32 := cf_of Try.func32 (by kernel_rfl) (by kernel_rfl)
theorem cf40 : CF 40 := cf_of Try.func40 (by kernel_rfl) (by kernel_rfl)
theorem cf41 : CF 41 := cf_of Try.func41 (by kernel_rfl) (by kernel_rfl)
theorem cf42 : CF 42 := cf_of Try.func42 (by kernel_rfl) (by kernel_rfl)
theorem cf43 : CF 43 := cf_of Try.func43 (by kernel_rfl) (by kernel_rfl)
theorem cf44 : CF 44 := cf_of Try.func44 (by kernel_rfl) (by kernel_rfl)
theorem cf45 : CF 45 := cf_of Try.func45 (by kernel_rfl) (by kernel_rfl)
theorem cf46 : CF 46 := cf_of Try.func46 (by kernel_rfl) (by kernel_rfl)
theorem cf47 : CF 47 := cf_of Try.func47 (by kernel_rfl) (by kernel_rfl)
theorem cf48 : CF 48 := cf_of Try.func48 (by kernel_rfl) (by kernel_rfl)
theorem cf49 : CF 49 := cf_of Try.func49 (by kernel_rfl) (by kernel_rfl)
theorem cf50 : CF 50 := cf_of Try.func50 (by kernel_rfl) (by kernel_rfl)
theorem cf51 : CF 51 := cf_of Try.func51 (by kernel_rfl) (by kernel_rfl)
theorem cf52 : CF 52 := cf_of Try.func52 (by kernel_rfl) (by kernel_rfl)
theorem cf53 : CF 53 := cf_of Try.func53 (by kernel_rfl) (by kernel_rfl)
theorem cf54 : CF 54 := cf_of Try.func54 (by kernel_rfl) (by kernel_rfl)
theorem cf55 : CF 55 := cf_of Try.func55 (by kernel_rfl) (by kernel_rfl)
theorem cf56 : CF 56 := cf_of Try.func56 (by kernel_rfl) (by kernel_rfl)
theorem cf57 : CF 57 := cf_of Try.func57 (by kernel_rfl) (by kernel_rfl)
theorem cf58 : CF 58 := cf_of Try.func58 (by kernel_rfl) (by kernel_rfl)
theorem cf59 : CF 59 := cf_of Try.func59 (by kernel_rfl) (by kernel_rfl)
theorem cf60 : CF 60 := cf_of Try.func60 (by kernel_rfl) (by kernel_rfl)
theorem cf61 : CF 61 := cf_of Try.func61 (by kernel_rfl) (by kernel_rfl)
theorem cf62 : CF 62 := cf_of Try.func62 (by kernel_rfl) (by kernel_rfl)
theorem cf67 : CF 67 := cf_of Try.func67 (by kernel_rfl) (by kernel_rfl)
theorem cf68 : CF 68 := cf_of Try.func68 (by kernel_rfl) (by kernel_rfl)
theorem cf69 : CF 69 := cf_of Try.func69 (by kernel_rfl) (by kernel_rfl)
theorem cf70 : CF 70 := cf_of Try.func70 (by kernel_rfl) (by kernel_rfl)
theorem cf71 : CF 71 := cf_of Try.func71 (by kernel_rfl) (by kernel_rfl)
theorem cf72 : CF 72 := cf_of Try.func72 (by kernel_rfl) (by kernel_rfl)
theorem cf73 : CF 73 := cf_of Try.func73 (by kernel_rfl) (by kernel_rfl)
theorem cf74 : CF 74 := cf_of Try.func74 (by kernel_rfl) (by kernel_rfl)
theorem cf75 : CF 75 := cf_of Try.func75 (by kernel_rfl) (by kernel_rfl)
theorem cf76 : CF 76 := cf_of Try.func76 (by kernel_rfl) (by kernel_rfl)
theorem cf77 : CF 77 := cf_of Try.func77 (by kernel_rfl) (by kernel_rfl)
theorem cf78 : CF 78 := cf_of Try.func78 (by kernel_rfl) (by kernel_rfl)
theorem cf79 : CF 79 := cf_of Try.func79 (by kernel_rfl) (by kernel_rfl)
theorem cf80 : CF 80 := cf_of Try.func80 (by kernel_rfl) (by kernel_rfl)
theorem cf81 : CF 81 := cf_of Try.func81 (by kernel_rfl) (by kernel_rfl)
theorem cf82 : CF 82 := cf_of Try.func82 (by kernel_rfl) (by kernel_rfl)
theorem cf83 : CF 83 := cf_of Try.func83 (by kernel_rfl) (by kernel_rfl)
theorem cf84 : CF 84 := cf_of Try.func84 (by kernel_rfl) (by kernel_rfl)
theorem cf85 : CF 85 := cf_of Try.func85 (by kernel_rfl) (by kernel_rfl)
theorem cf86 : CF 86 := cf_of Try.func86 (by kernel_rfl) (by kernel_rfl)
theorem cf87 : CF 87 := cf_of Try.func87 (by kernel_rfl) (by kernel_rfl)
theorem cf88 : CF 88 := cf_of Try.func88 (by kernel_rfl) (by kernel_rfl)
theorem cf93 : CF 93 := cf_of Try.func93 (by kernel_rfl) (by kernel_rfl)
theorem cf94 : CF 94 := cf_of Try.func94 (by kernel_rfl) (by kernel_rfl)
theorem cf95 : CF 95 := cf_of Try.func95 (by kernel_rfl) (by kernel_rfl)
theorem cf96 : CF 96 := cf_of Try.func96 (by kernel_rfl) (by kernel_rfl)
theorem cf97 : CF 97 := cf_of Try.func97 (by kernel_rfl) (by kernel_rfl)
theorem cf100 : CF 100 := cf_of Try.func100 (by kernel_rfl) (by kernel_rfl)
theorem cf101 : CF 101 := cf_of Try.func101 (by kernel_rfl) (by kernel_rfl)
theorem cf102 : CF 102 := cf_of Try.func102 (by kernel_rfl) (by kernel_rfl)
theorem cf103 : CF 103 := cf_of Try.func103 (by kernel_rfl) (by kernel_rfl)
theorem cf104 : CF 104 := cf_of Try.func104 (by kernel_rfl) (by kernel_rfl)
theorem cf105 : CF 105 := cf_of Try.func105 (by kernel_rfl) (by kernel_rfl)
theorem cf107 : CF 107 := cf_of Try.func107 (by kernel_rfl) (by kernel_rfl)
theorem cf108 : CF 108 := cf_of Try.func108 (by kernel_rfl) (by kernel_rfl)
theorem cf109 : CF 109 := cf_of Try.func109 (by kernel_rfl) (by kernel_rfl)
theorem cf110 : CF 110 := cf_of Try.func110 (by kernel_rfl) (by kernel_rfl)
theorem cf111 : CF 111 := cf_of Try.func111 (by kernel_rfl) (by kernel_rfl)
theorem cf112 : CF 112 := cf_of Try.func112 (by kernel_rfl) (by kernel_rfl)
theorem cf113 : CF 113 := cf_of Try.func113 (by kernel_rfl) (by kernel_rfl)
theorem cf114 : CF 114 := cf_of Try.func114 (by kernel_rfl) (by kernel_rfl)
theorem cf117 : CF 117 := cf_of Try.func117 (by kernel_rfl) (by kernel_rfl)
theorem infType : (Try.prog.info? 90).map (·.size) = some 3 := by kernel_rfl
theorem infIns : (Try.prog.info? 46).map (·.size) = some 8 := by kernel_rfl
theorem infTo : (Try.prog.info? 52).map (·.size) = some 3 := by kernel_rfl
theorem infEnd : (Try.prog.info? 54).map (·.size) = some 9 := by kernel_rfl
theorem infBlock : (Try.prog.info? 77).map (·.size) = some 12 := by kernel_rfl
theorem infFunc : (Try.prog.info? 50).map (·.size) = some 4 := by kernel_rfl
theorem infModule : (Try.prog.info? 39).map (·.size) = some 1 := by kernel_rfl
theorem infFault : (Try.prog.info? 26).map (·.size) = some 2 := by kernel_rfl
theorem infFields : (Try.prog.info? 102).map (·.size) = some 7 := by kernel_rfl
theorem inffuncLook : (Try.prog.info? 84).map (·.size) = some 6 := by kernel_rfl
theorem infblockLook : (Try.prog.info? 113).map (·.size) = some 19 := by kernel_rfl
theorem inf1Int : (Try.prog.info? 3).map (·.size) = some 1 := by kernel_rfl
theorem inf1Int6 : (Try.prog.info? 2).map (·.size) = some 1 := by kernel_rfl
theorem inf1Bool : (Try.prog.info? 4).map (·.size) = some 1 := by kernel_rfl
theorem inf1Ints : (Try.prog.info? 44).map (·.size) = some 1 := by kernel_rfl
theorem inf1Types : (Try.prog.info? 47).map (·.size) = some 1 := by kernel_rfl
theorem inf1Inss : (Try.prog.info? 75).map (·.size) = some 1 := by kernel_rfl
theorem inf1Blocks : (Try.prog.info? 48).map (·.size) = some 1 := by kernel_rfl
theorem inf1Funcs : (Try.prog.info? 37).map (·.size) = some 1 := by kernel_rfl

/-- The result lies in a box. -/
theorem ret_box {fn : Func} {R : Ending → World → Prop} {d : TypeDesc} (i : Nat) {B : Nat} {c : Array Value} {bt : TypeId} (hF : Fr n a L) (hW : Wd w0 w Bs) (hr : fn.results = #[.cell t ty]) (hv : L.lookup t = some (.pointer (some ⟨B, 0, none⟩))) (hb : Bs[i]? = some (B, c, bt))
    (hu : Try.prog.underlying ty = some d) (hd : d.isRow = true) (hi : (Try.prog.info? ty).map (·.size) = some c.size) (hR : R (.returned (.agg c)) w) : bodyPost Try.prog fn R .ret a w := by
  refine bodyPost_ret ?_ hF.defers hR
  have e := hF.sl2 t _ hv
  have e2 := run_loadVar_mid (P := Try.prog) w B 0 ty c.toList d (by have := rangeOf (hW.get i hb) 0 c.size (by simp [Nat.ble_eq]); rw [List.drop_zero, List.take_of_length_le (by simp)] at this; exact this) hu hd (by simpa using hi)
  simp only [Array.toArray_toList] at e2
  simp [results, hr, e, asAddr, e2]
end
end Go.Proofs.Ytmnmnokkojcodab
/-
  The parts of instructions, ends, blocks and functions as they lie in memory: their cells written out, with the places of their lists. No function of the program is spoken of.
-/
namespace Go.Proofs.Ytmnmnokkojcodab
open Go.ChangeShapes Go.WideShapes Go.ChangeAt Go.RowKit
set_option linter.unusedVariables false
set_option linter.unusedSimpArgs false

abbrev I64 (x : Int) : Prop := -9223372036854775808 ≤ x ∧ x ≤ 9223372036854775807
structure IP where
  pR : Option Addr
  cR : Nat
  pA : Option Addr
  cA : Nat
structure EP where
  pYR : Option Addr
  cYR : Nat
  pYA : Option Addr
  cYA : Nat
  pNR : Option Addr
  cNR : Nat
  pNA : Option Addr
  cNA : Nat
  pA : Option Addr
  cA : Nat
structure BP where
  pP : Option Addr
  cP : Nat
  pC : Option Addr
  cC : Nat
  e : EP
structure FP where
  pP : Option Addr
  cP : Nat
  pR : Option Addr
  cR : Nat
  pB : Option Addr
  cB : Nat
structure TIn2 (w : World) (O : Nat → Prop) (x : MTo) (pR : Option Addr) (cR : Nat) (pA : Option Addr) (cA : Nat) : Prop where
  regs : intsL.In w O x.regs [.slice pR x.regs.length cR]
  args : intsL.In w O x.args [.slice pA x.args.length cA]
  bnd : I64 x.block
structure IIn (w : World) (O : Nat → Prop) (x : MIns) (i : IP) : Prop where
  regs : intsL.In w O x.regs [.slice i.pR x.regs.length i.cR]
  args : intsL.In w O x.args [.slice i.pA x.args.length i.cA]
  bnd : I64 x.op ∧ I64 x.a ∧ I64 x.b ∧ I64 x.c ∧ I64 x.k ∧ I64 x.n
structure EIn (w : World) (O : Nat → Prop) (x : MEnd) (e : EP) : Prop where
  yes : TIn2 w O x.yes e.pYR e.cYR e.pYA e.cYA
  no : TIn2 w O x.no e.pNR e.cNR e.pNA e.cNA
  args : intsL.In w O x.args [.slice e.pA x.args.length e.cA]
  bnd : I64 x.op ∧ I64 x.a
structure BIn (w : World) (O : Nat → Prop) {n : Nat} (x : MBlock n) (b : BP) : Prop where
  params : (typesL n).In w O x.params [.slice b.pP x.params.length b.cP]
  code : insL.list.In w O x.code [.slice b.pC x.code.length b.cC]
  fin : EIn w O x.fin b.e
  bnd : I64 x.regs
structure FIn (w : World) (O : Nat → Prop) {n : Nat} (x : MFunc n) (f : FP) : Prop where
  params : (typesL n).In w O x.params [.slice f.pP x.params.length f.cP]
  results : (typesL n).In w O x.results [.slice f.pR x.results.length f.cR]
  blocks : (blockL n).list.In w O x.blocks [.slice f.pB x.blocks.length f.cB]
  bnd : I64 x.regs
section
variable {w w' : World} {O O' : Nat → Prop} {n : Nat} {cs : List Value}
theorem TIn2.keep {x : MTo} {pR pA : Option Addr} {cR cA : Nat} (hb : ∀ k, O k → k < w.heap.size → w'.heap[k]? = w.heap[k]?) (hl : ∀ k, O k → k < w.heap.size → O' k) (h : TIn2 w O x pR cR pA cA) : TIn2 w' O' x pR cR pA cA := ⟨Lay.keep _ hb hl h.regs, Lay.keep _ hb hl h.args, h.bnd⟩
theorem TIn2.below {x : MTo} {pR pA : Option Addr} {cR cA : Nat} (h : TIn2 w O x pR cR pA cA) (hbl : Below w.heap.size w w') : TIn2 w' O x pR cR pA cA := h.keep (fun k _ hk => hbl.block k hk) (fun _ h _ => h)
theorem TIn2.mono {x : MTo} {pR pA : Option Addr} {cR cA : Nat} (h : TIn2 w O x pR cR pA cA) (hl : ∀ k, O k → k < w.heap.size → O' k) : TIn2 w O' x pR cR pA cA := h.keep (fun k _ _ => rfl) hl
theorem IIn.keep {x : MIns} {i : IP} (hb : ∀ k, O k → k < w.heap.size → w'.heap[k]? = w.heap[k]?) (hl : ∀ k, O k → k < w.heap.size → O' k) (h : IIn w O x i) : IIn w' O' x i := ⟨Lay.keep _ hb hl h.regs, Lay.keep _ hb hl h.args, h.bnd⟩
theorem IIn.below {x : MIns} {i : IP} (h : IIn w O x i) (hbl : Below w.heap.size w w') : IIn w' O x i := h.keep (fun k _ hk => hbl.block k hk) (fun _ h _ => h)
theorem IIn.mono {x : MIns} {i : IP} (h : IIn w O x i) (hl : ∀ k, O k → k < w.heap.size → O' k) : IIn w O' x i := h.keep (fun k _ _ => rfl) hl
theorem EIn.keep {x : MEnd} {e : EP} (hb : ∀ k, O k → k < w.heap.size → w'.heap[k]? = w.heap[k]?) (hl : ∀ k, O k → k < w.heap.size → O' k) (h : EIn w O x e) : EIn w' O' x e := ⟨h.yes.keep hb hl, h.no.keep hb hl, Lay.keep _ hb hl h.args, h.bnd⟩
theorem EIn.below {x : MEnd} {e : EP} (h : EIn w O x e) (hbl : Below w.heap.size w w') : EIn w' O x e := h.keep (fun k _ hk => hbl.block k hk) (fun _ h _ => h)
theorem EIn.mono {x : MEnd} {e : EP} (h : EIn w O x e) (hl : ∀ k, O k → k < w.heap.size → O' k) : EIn w O' x e := h.keep (fun k _ _ => rfl) hl
theorem BIn.keep {x : MBlock n} {b : BP} (hb : ∀ k, O k → k < w.heap.size → w'.heap[k]? = w.heap[k]?) (hl : ∀ k, O k → k < w.heap.size → O' k) (h : BIn w O x b) : BIn w' O' x b := ⟨Lay.keep _ hb hl h.params, Lay.keep _ hb hl h.code, h.fin.keep hb hl, h.bnd⟩
theorem BIn.below {x : MBlock n} {b : BP} (h : BIn w O x b) (hbl : Below w.heap.size w w') : BIn w' O x b := h.keep (fun k _ hk => hbl.block k hk) (fun _ h _ => h)
theorem BIn.mono {x : MBlock n} {b : BP} (h : BIn w O x b) (hl : ∀ k, O k → k < w.heap.size → O' k) : BIn w O' x b := h.keep (fun k _ _ => rfl) hl
theorem FIn.keep {x : MFunc n} {f : FP} (hb : ∀ k, O k → k < w.heap.size → w'.heap[k]? = w.heap[k]?) (hl : ∀ k, O k → k < w.heap.size → O' k) (h : FIn w O x f) : FIn w' O' x f := ⟨Lay.keep _ hb hl h.params, Lay.keep _ hb hl h.results, Lay.keep _ hb hl h.blocks, h.bnd⟩
theorem FIn.below {x : MFunc n} {f : FP} (h : FIn w O x f) (hbl : Below w.heap.size w w') : FIn w' O x f := h.keep (fun k _ hk => hbl.block k hk) (fun _ h _ => h)
theorem FIn.mono {x : MFunc n} {f : FP} (h : FIn w O x f) (hl : ∀ k, O k → k < w.heap.size → O' k) : FIn w O' x f := h.keep (fun k _ _ => rfl) hl

theorem to_open {x : MTo} (h : toL.In w O x cs) : ∃ pR cR pA cA, cs = [.int .i64 x.block, .slice pR x.regs.length cR, .slice pA x.args.length cA] ∧ TIn2 w O x pR cR pA cA := by
  obtain ⟨a, c, b, d, rfl, h1, h2, h0⟩ := to_form h
  exact ⟨a, c, b, d, rfl, h1, h2, h0⟩
theorem to_shut {x : MTo} {pR pA : Option Addr} {cR cA : Nat} (h : TIn2 w O x pR cR pA cA) : toL.In w O x [.int .i64 x.block, .slice pR x.regs.length cR, .slice pA x.args.length cA] := to_mk h.regs h.args h.bnd
theorem ins_open {x : MIns} (h : insL.In w O x cs) : ∃ i : IP, cs = [.int .i64 x.op, .int .i64 x.a, .int .i64 x.b, .int .i64 x.c, .int .i64 x.k, .int .i64 x.n, .slice i.pR x.regs.length i.cR, .slice i.pA x.args.length i.cA] ∧ IIn w O x i := by
  obtain ⟨a, c, b, d, rfl, h1, h2, h0⟩ := ins_form h
  exact ⟨⟨a, c, b, d⟩, rfl, h1, h2, h0⟩
theorem ins_shut {x : MIns} {i : IP} (h : IIn w O x i) : insL.In w O x [.int .i64 x.op, .int .i64 x.a, .int .i64 x.b, .int .i64 x.c, .int .i64 x.k, .int .i64 x.n, .slice i.pR x.regs.length i.cR, .slice i.pA x.args.length i.cA] := ins_mk h.regs h.args h.bnd
theorem end_open {x : MEnd} (h : endL.In w O x cs) : ∃ e : EP, cs = [.int .i64 x.op, .int .i64 x.a, .int .i64 x.yes.block, .slice e.pYR x.yes.regs.length e.cYR, .slice e.pYA x.yes.args.length e.cYA, .int .i64 x.no.block, .slice e.pNR x.no.regs.length e.cNR, .slice e.pNA x.no.args.length e.cNA, .slice e.pA x.args.length e.cA] ∧ EIn w O x e := by
  obtain ⟨c1, c2, a, c, rfl, h1, h2, h3, h0⟩ := end_form h
  obtain ⟨pR, cR, pA, cA, rfl, k1⟩ := to_open h1
  obtain ⟨qR, dR, qA, dA, rfl, k2⟩ := to_open h2
  exact ⟨⟨pR, cR, pA, cA, qR, dR, qA, dA, a, c⟩, rfl, k1, k2, h3, h0⟩
theorem end_shut {x : MEnd} {e : EP} (h : EIn w O x e) : endL.In w O x [.int .i64 x.op, .int .i64 x.a, .int .i64 x.yes.block, .slice e.pYR x.yes.regs.length e.cYR, .slice e.pYA x.yes.args.length e.cYA, .int .i64 x.no.block, .slice e.pNR x.no.regs.length e.cNR, .slice e.pNA x.no.args.length e.cNA, .slice e.pA x.args.length e.cA] := end_mk (to_shut h.yes) (to_shut h.no) h.args h.bnd
theorem block_open {x : MBlock n} (h : (blockL n).In w O x cs) : ∃ b : BP, cs = [.int .i64 x.regs, .slice b.pP x.params.length b.cP, .slice b.pC x.code.length b.cC, .int .i64 x.fin.op, .int .i64 x.fin.a, .int .i64 x.fin.yes.block, .slice b.e.pYR x.fin.yes.regs.length b.e.cYR, .slice b.e.pYA x.fin.yes.args.length b.e.cYA, .int .i64 x.fin.no.block, .slice b.e.pNR x.fin.no.regs.length b.e.cNR, .slice b.e.pNA x.fin.no.args.length b.e.cNA, .slice b.e.pA x.fin.args.length b.e.cA] ∧ BIn w O x b := by
  obtain ⟨a, c, b, d, es, rfl, h1, h2, h3, h0⟩ := block_form h
  obtain ⟨e, rfl, k3⟩ := end_open h3
  exact ⟨⟨a, c, b, d, e⟩, rfl, h1, h2, k3, h0⟩
theorem block_shut {x : MBlock n} {b : BP} (h : BIn w O x b) : (blockL n).In w O x [.int .i64 x.regs, .slice b.pP x.params.length b.cP, .slice b.pC x.code.length b.cC, .int .i64 x.fin.op, .int .i64 x.fin.a, .int .i64 x.fin.yes.block, .slice b.e.pYR x.fin.yes.regs.length b.e.cYR, .slice b.e.pYA x.fin.yes.args.length b.e.cYA, .int .i64 x.fin.no.block, .slice b.e.pNR x.fin.no.regs.length b.e.cNR, .slice b.e.pNA x.fin.no.args.length b.e.cNA, .slice b.e.pA x.fin.args.length b.e.cA] := block_mk h.params h.code (end_shut h.fin) h.bnd
theorem func_open {x : MFunc n} (h : (funcL n).In w O x cs) : ∃ f : FP, cs = [.int .i64 x.regs, .slice f.pP x.params.length f.cP, .slice f.pR x.results.length f.cR, .slice f.pB x.blocks.length f.cB] ∧ FIn w O x f := by
  obtain ⟨a, c, b, d, e, f, rfl, h1, h2, h3, h0⟩ := func_form h
  exact ⟨⟨a, c, b, d, e, f⟩, rfl, h1, h2, h3, h0⟩
theorem func_shut {x : MFunc n} {f : FP} (h : FIn w O x f) : (funcL n).In w O x [.int .i64 x.regs, .slice f.pP x.params.length f.cP, .slice f.pR x.results.length f.cR, .slice f.pB x.blocks.length f.cB] := func_mk h.params h.results h.blocks h.bnd
theorem ins_at {l : List MIns} {p : Option Addr} {m c : Nat} (h : (insL).list.In w O l [.slice p m c]) {i : Nat} {x : MIns} (hx : l[i]? = some x) :
    ∃ (g o : Nat) (i' : IP), p = some ⟨g, o, none⟩ ∧ w.rangeAt g (o + i * 8) [.int .i64 x.op, .int .i64 x.a, .int .i64 x.b, .int .i64 x.c, .int .i64 x.k, .int .i64 x.n, .slice i'.pR x.regs.length i'.cR, .slice i'.pA x.args.length i'.cA] ∧ IIn w O x i' := by
  obtain ⟨g, o, ds, e, h1, h2, h3, h4⟩ := Lay.list_at h hx
  obtain ⟨i', rfl, h5⟩ := ins_open h4
  have hs : (insL).size = 8 := rfl
  rw [hs] at h3
  exact ⟨g, o, i', e, fun j v hj => (h3 j (by have := (List.getElem?_eq_some_iff.1 hj).1; simpa using this)).trans hj, h5⟩
theorem block_at {l : List (MBlock n)} {p : Option Addr} {m c : Nat} (h : (blockL n).list.In w O l [.slice p m c]) {i : Nat} {x : MBlock n} (hx : l[i]? = some x) :
    ∃ (g o : Nat) (b : BP), p = some ⟨g, o, none⟩ ∧ w.rangeAt g (o + i * 12) [.int .i64 x.regs, .slice b.pP x.params.length b.cP, .slice b.pC x.code.length b.cC, .int .i64 x.fin.op, .int .i64 x.fin.a, .int .i64 x.fin.yes.block, .slice b.e.pYR x.fin.yes.regs.length b.e.cYR, .slice b.e.pYA x.fin.yes.args.length b.e.cYA, .int .i64 x.fin.no.block, .slice b.e.pNR x.fin.no.regs.length b.e.cNR, .slice b.e.pNA x.fin.no.args.length b.e.cNA, .slice b.e.pA x.fin.args.length b.e.cA] ∧ BIn w O x b := by
  obtain ⟨g, o, ds, e, h1, h2, h3, h4⟩ := Lay.list_at h hx
  obtain ⟨b, rfl, h5⟩ := block_open h4
  have hs : (blockL n).size = 12 := rfl
  rw [hs] at h3
  exact ⟨g, o, b, e, fun j v hj => (h3 j (by have := (List.getElem?_eq_some_iff.1 hj).1; simpa using this)).trans hj, h5⟩
theorem func_at {l : List (MFunc n)} {p : Option Addr} {m c : Nat} (h : (funcL n).list.In w O l [.slice p m c]) {i : Nat} {x : MFunc n} (hx : l[i]? = some x) :
    ∃ (g o : Nat) (f : FP), p = some ⟨g, o, none⟩ ∧ w.rangeAt g (o + i * 4) [.int .i64 x.regs, .slice f.pP x.params.length f.cP, .slice f.pR x.results.length f.cR, .slice f.pB x.blocks.length f.cB] ∧ FIn w O x f := by
  obtain ⟨g, o, ds, e, h1, h2, h3, h4⟩ := Lay.list_at h hx
  obtain ⟨f, rfl, h5⟩ := func_open h4
  have hs : (funcL n).size = 4 := rfl
  rw [hs] at h3
  exact ⟨g, o, f, e, fun j v hj => (h3 j (by have := (List.getElem?_eq_some_iff.1 hj).1; simpa using this)).trans hj, h5⟩
theorem lin_at {l : List (TT n)} {p : Option Addr} (h : LIn w O l p) {i : Nat} {x : TT n} (hx : l[i]? = some x) : ∃ (g o : Nat) (q : Option Addr) (c : Nat), p = some ⟨g, o, none⟩ ∧ w.rangeAt g (o + i * 3) [.int .i64 x.kind, .int .i64 x.r, .slice q x.len c] ∧ TIn w O x q := by
  obtain ⟨g, o, q, c, e, _, h0, h1, h2, h3⟩ := LIn.at h hx
  refine ⟨g, o, q, c, e, fun j v hj => ?_, h3⟩
  match j, hj with
  | 0, hj => cases hj; exact h0
  | 1, hj => cases hj; exact h1
  | 2, hj => cases hj; exact h2
theorem ints_rg {l : List Int} {a : Option Addr} {m c : Nat} (h : intsL.In w O l [.slice a m c]) {i : Nat} (hi : i < l.length) : ∃ g o, a = some ⟨g, o, none⟩ ∧ w.rangeAt g (o + i) [.int .i64 (l.getD i 0)] := by
  obtain ⟨g, o, e, _, _, h1⟩ := ints_at h hi
  refine ⟨g, o, e, fun j v hj => ?_⟩
  match j, hj with
  | 0, hj => cases hj; exact h1
theorem list_lenI {α : Type} {A : Lay α} {l : List α} {p : Option Addr} {c : Nat} (h : A.list.In w O l [.slice p l.length c]) (hn : l.length = 0) : l = [] := List.length_eq_zero_iff.1 hn
end
end Go.Proofs.Ytmnmnokkojcodab
/-
  SameInts, slices.Equal: are two lists of numbers one?
-/
namespace Go.Proofs.Ytmnmnokkojcodab
open Go.ChangeShapes Go.WideShapes Go.ChangeAt Go.RowKit
set_option linter.unusedVariables false
set_option linter.unusedSimpArgs false

set_option maxHeartbeats 4000000 in
set_option maxRecDepth 100000 in
theorem sameInts_any (l m : List Int) (p p2 : Option Addr) (c d : Nat) (w : World) (hl0 : intsL.In w All l [.slice p l.length c]) (hm0 : intsL.In w All m [.slice p2 m.length d]) (hb1 : l.length ≤ 4294967296) :
    Rd Try.prog 32 #[.slice p l.length c, .slice p2 m.length d] w (.bool (bdec (l = m))) := by
  have hl : Hid _ := hl0
  have hm : Hid _ := hm0
  clear hl0 hm0
  refine fr_enter (n := 26) Try.func32 rfl rfl rfl ?_
  intro a hF
  have hW := Wd.start w
  replace hF : Fr 26 a [(0, .slice p l.length c), (1, .slice p2 m.length d)] := hF
  refine wp_seq_k fun K1 hK1 => ?_
  refine rg hF fun ops => ?_; clear hF a
  refine sa trivial rfl rfl ?_
  refine St.nil fun a2 h2 => ?_
  refine hK1 _ _ ?_
  refine wp_seq_k fun K3 hK3 => ?_
  refine wp_seq_k fun K4 hK4 => ?_
  refine rg h2 fun ops => ?_; clear h2 a2
  refine sm trivial rfl rfl ?_
  refine slInts trivial rfl rfl ?_
  refine sm trivial rfl rfl ?_
  refine slInts trivial rfl rfl ?_
  refine sne trivial rfl rfl rfl ?_
  refine St.nil fun a5 h5 => ?_
  refine hK4 _ _ ?_
  refine fr_cond (t := 10) h5 rfl (fun hb => ?_) (fun hb => ?_)
  ·have h9 : ¬ l.length = m.length := by have h8 := bne_iff_ne.1 hb; omega
   have hlen : ¬ l.length = m.length := h9
   clear h9
   clear hb
   refine wp_seq_k fun K6 hK6 => ?_
   refine rg h5 fun ops => ?_; clear h5 a5
   refine sa trivial rfl rfl ?_
   refine St.nil fun a7 h7 => ?_
   refine hK6 _ _ ?_
   refine wp_ret ?_; with_reducible repeat first | refine of_then_ret ?_ | refine of_block_ret ?_
   have R : ¬ l = m := by
     intro e
     first
       | exact hlen (by rw [e])
       | exact hel (by rw [← hx.out, ← hy.out, e])
   exact ret_tmp (t := 4) h7 rfl rfl ⟨by rw [bdec_false R], hW.bel⟩
  have h9 : l.length = m.length := by have h8 := bne_eq_false_iff_eq.1 hb; omega
  have hlen : Hid (l.length = m.length) := h9
  clear h9
  clear hb
  refine wp_skip ?_
  refine hK3 _ _ ?_
  refine wp_seq_k fun K8 hK8 => ?_
  refine wp_seq_k fun K9 hK9 => ?_
  refine rg h5 fun ops => ?_; clear h5 a5
  refine sa trivial rfl rfl ?_
  refine St.nil fun a10 h10 => ?_
  refine hK9 _ _ ?_
  refine wp_block ?_
  refine fr_loop (fun r a w' => ∃ q : Nat, q ≤ l.length ∧ r = l.length - q ∧ (∀ j, j < q → l.getD j 0 = m.getD j 0) ∧ Fr 26 a [(1, .slice p2 m.length d), (0, .slice p l.length c), (4, .bool false), (5, .int .i64 (q : Int))] ∧ Wd w w' []) (l.length) ⟨0, Nat.zero_le _, rfl, (fun j hj => by omega), (h10.keep (h10.keep (h10.keep (h10.keep h10.nil (t := 5) rfl) (t := 4) rfl) (t := 0) rfl) (t := 1) rfl), hW⟩ ?_
  clear h10 hW
  rintro r a11 w11 ⟨q, hq, hr, hall, hF11, hW11⟩ KL hKL
  refine wp_seq_k fun K12 hK12 => ?_
  refine wp_seq_k fun K13 hK13 => ?_
  refine rg hF11 fun ops => ?_; clear hF11 a11
  refine sm trivial rfl rfl ?_
  refine sm trivial rfl rfl ?_
  refine slInts trivial rfl rfl ?_
  refine slt trivial rfl rfl rfl ?_
  refine St.nil fun a14 h14 => ?_
  refine hK13 _ _ ?_
  refine fr_cond (t := 14) h14 rfl (fun hb => ?_) (fun hb => ?_)
  ·have hlt : q < l.length := by have := of_decide_eq_true hb; omega
   clear hb
   have hlm : q < m.length := by have := hlen.out; omega
   obtain ⟨g1, o1, hp1, E1⟩ := ints_rg hl.out hlt
   obtain ⟨g2, o2, hp2, E2⟩ := ints_rg hm.out hlm
   obtain ⟨x, hx⟩ : ∃ x, l.getD q 0 = x := ⟨_, rfl⟩
   obtain ⟨y, hy⟩ : ∃ y, m.getD q 0 = y := ⟨_, rfl⟩
   rw [hx] at E1
   rw [hy] at E2
   replace hx : Hid _ := hx
   replace hy : Hid _ := hy
   replace E1 : Hid _ := E1
   replace E2 : Hid _ := E2
   replace hp1 : Hid _ := hp1
   replace hp2 : Hid _ := hp2
   refine wp_skip ?_
   refine hK12 _ _ ?_
   refine wp_seq_k fun K15 hK15 => ?_
   refine wp_block ?_
   refine wp_seq_k fun K16 hK16 => ?_
   have hF17 : Fr 26 a14 [(1, .slice p2 m.length d), (0, .slice p l.length c), (4, .bool false), (5, .int .i64 (q : Int))] := (h14.keep (h14.keep (h14.keep (h14.keep h14.nil (t := 5) rfl) (t := 4) rfl) (t := 0) rfl) (t := 1) rfl)
   have ho0 : a14.tmps.getD 0 undef = .slice p l.length c := h14.sl 0 _ rfl
   have ho5 : a14.tmps.getD 5 undef = .int .i64 (q : Int) := h14.sl 5 _ rfl
   have ho1 : a14.tmps.getD 1 undef = .slice p2 m.length d := h14.sl 1 _ rfl
   refine fr_draw_k 9 ([(0, fun v _ => v = .slice p l.length c), (5, fun v _ => v = .int .i64 (q : Int)), (1, fun v _ => v = .slice p2 m.length d), (17, fun v _ => v = .slice p l.length c), (18, fun v _ => v = .int .i64 (q : Int)), (19, fun v _ => v = .pointer (some ⟨g1, o1 + q, none⟩)), (20, fun v _ => v = .int .i64 x), (21, fun v _ => v = .slice p2 m.length d), (22, fun v _ => v = .int .i64 (q : Int)), (23, fun v _ => v = .pointer (some ⟨g2, o2 + q, none⟩)), (24, fun v _ => v = .int .i64 y), (25, fun v _ => v = .bool (x != y))] : PTab) (fun w' => Wd w w' [] ∧ Below w11.heap.size w11 w') (fun w w' => Below w.heap.size w w') (outs := [0, 5, 1]) (gs := []) (bs := [true, true, true, true, true, true, true, true, true]) (by kernel_rfl) hF17 rfl (by kernel_rfl) (by kernel_rfl) ?hR ?hG ⟨hW11.drewN 1, drewN_below (m := 1) (Below.refl _ _)⟩ ⟨ho0, ho5, ho1, trivial⟩ ?hA ?hend
   case hR => exact ⟨fun _ _ _ _ h => h, fun _ _ _ _ h => h, fun _ _ _ _ h => h, fun _ _ _ _ h => h, fun _ _ _ _ h => h, fun _ _ _ _ h => h, fun _ _ _ _ h => h, fun _ _ _ _ h => h, fun _ _ _ _ h => h, fun _ _ _ _ h => h, fun _ _ _ _ h => h, fun _ _ _ _ h => h, trivial⟩
   case hG => exact trivial
   case hA =>
    refine ⟨fun a w hW hk K hK => ?_, ?_⟩
    · obtain ⟨k0, -⟩ := hk
      have k0 : a.tmps.getD 0 undef = .slice p l.length c := k0
      go_simp
      exact hK _ _ (Below.refl _ _) hW rfl
    refine ⟨fun a w hW hk K hK => ?_, ?_⟩
    · obtain ⟨k0, -⟩ := hk
      have k0 : a.tmps.getD 5 undef = .int .i64 (q : Int) := k0
      go_simp
      exact hK _ _ (Below.refl _ _) hW rfl
    refine ⟨fun a w hW hk K hK => ?_, ?_⟩
    · obtain ⟨k0, k1, -⟩ := hk
      have k0 : a.tmps.getD 17 undef = .slice p l.length c := k0
      have k1 : a.tmps.getD 18 undef = .int .i64 (q : Int) := k1
      have hpq := hp1.out
      have hk0 : (0 : Int) ≤ q := by omega
      have hk1 : (q : Int) < (l.length : Int) := by omega
      go_simp
      exact hK _ _ (Below.refl _ _) hW rfl
    refine ⟨fun a w hW hk K hK => ?_, ?_⟩
    · obtain ⟨k0, -⟩ := hk
      have k0 : a.tmps.getD 19 undef = .pointer (some ⟨g1, o1 + q, none⟩) := k0
      have d0 : w.cell? ⟨g1, o1 + q, none⟩ = some (.int .i64 x) := bel_cell hW.1.bel (E1.out 0 _ rfl)
      go_simp
      exact hK _ _ (Below.refl _ _) hW rfl
    refine ⟨fun a w hW hk K hK => ?_, ?_⟩
    · obtain ⟨k0, -⟩ := hk
      have k0 : a.tmps.getD 1 undef = .slice p2 m.length d := k0
      go_simp
      exact hK _ _ (Below.refl _ _) hW rfl
    refine ⟨fun a w hW hk K hK => ?_, ?_⟩
    · obtain ⟨k0, -⟩ := hk
      have k0 : a.tmps.getD 5 undef = .int .i64 (q : Int) := k0
      go_simp
      exact hK _ _ (Below.refl _ _) hW rfl
    refine ⟨fun a w hW hk K hK => ?_, ?_⟩
    · obtain ⟨k0, k1, -⟩ := hk
      have k0 : a.tmps.getD 21 undef = .slice p2 m.length d := k0
      have k1 : a.tmps.getD 22 undef = .int .i64 (q : Int) := k1
      have hpq := hp2.out
      have hk0 : (0 : Int) ≤ q := by omega
      have hk1 : (q : Int) < (m.length : Int) := by omega
      go_simp
      exact hK _ _ (Below.refl _ _) hW rfl
    refine ⟨fun a w hW hk K hK => ?_, ?_⟩
    · obtain ⟨k0, -⟩ := hk
      have k0 : a.tmps.getD 23 undef = .pointer (some ⟨g2, o2 + q, none⟩) := k0
      have d0 : w.cell? ⟨g2, o2 + q, none⟩ = some (.int .i64 y) := bel_cell hW.1.bel (E2.out 0 _ rfl)
      go_simp
      exact hK _ _ (Below.refl _ _) hW rfl
    refine ⟨fun a w hW hk K hK => ?_, ?_⟩
    · obtain ⟨k0, k1, -⟩ := hk
      have k0 : a.tmps.getD 20 undef = .int .i64 x := k0
      have k1 : a.tmps.getD 24 undef = .int .i64 y := k1
      go_simp
      exact hK _ _ (Below.refl _ _) hW rfl
    trivial
   case hend =>
    intro ops a18 w18 hWD hE hFD
    have hd25 : a18.tmps.getD 25 undef = .bool (x != y) := hE 25 rfl
    have hF18 : Fr 26 a18 [(25, .bool (x != y)), (1, .slice p2 m.length d), (0, .slice p l.length c), (4, .bool false), (5, .int .i64 (q : Int))] := (hFD.cons hd25)
    clear hd25
    have hW18 : Wd w w18 [] := hWD.1
    clear hFD hWD hE hF17 h14
    clear hW11
    refine wpList_nil ?_
    refine hK16 _ _ ?_
    refine fr_cond (t := 25) hF18 rfl (fun hb => ?_) (fun hb => ?_)
    ·have h9 : ¬ x = y := bne_iff_ne.1 hb
     have hel : ¬ x = y := h9
     clear h9
     clear hb
     refine wp_seq_k fun K19 hK19 => ?_
     refine rg hF18 fun ops => ?_; clear hF18 a18
     refine sa trivial rfl rfl ?_
     refine St.nil fun a20 h20 => ?_
     refine hK19 _ _ ?_
     refine wp_ret ?_; with_reducible repeat first | refine of_then_ret ?_ | refine of_block_ret ?_
     have R : ¬ l = m := by
       intro e
       first
         | exact hlen (by rw [e])
         | exact hel (by rw [← hx.out, ← hy.out, e])
     exact ret_tmp (t := 4) h20 rfl rfl ⟨by rw [bdec_false R], hW18.bel⟩
    have h9 : x = y := bne_eq_false_iff_eq.1 hb
    have hel : Hid (x = y) := h9
    clear h9
    clear hb
    refine wp_skip ?_
    refine hK15 _ _ ?_
    refine rg hF18 fun ops => ?_; clear hF18 a18
    refine sm trivial rfl rfl ?_
    refine sad (by omega) trivial rfl rfl rfl ?_
    refine sa trivial rfl rfl ?_
    refine St.nil fun a21 h21 => ?_
    refine hKL _ _ (l.length - (q + 1)) (by omega) ⟨q + 1, by omega, rfl, ?_, (h21.keep (h21.keep (h21.keep (h21.keep h21.nil (t := 5) rfl) (t := 4) rfl) (t := 0) rfl) (t := 1) rfl), hW18⟩
    ·intro j hj
     by_cases e : j = q
     · subst e; rw [hx.out, hy.out]; exact hel.out
     · exact hall j (by omega)
  have hge : q = l.length := by have := of_decide_eq_false hb; omega
  clear hb
  refine wp_exit ?_
  refine hK8 _ _ ?_
  refine wp_seq_k fun K22 hK22 => ?_
  refine rg h14 fun ops => ?_; clear h14 a14
  refine sa trivial rfl rfl ?_
  refine St.nil fun a23 h23 => ?_
  refine hK22 _ _ ?_
  refine wp_ret ?_; with_reducible repeat first | refine of_then_ret ?_ | refine of_block_ret ?_
  have R : l = m := by
    refine List.ext_getElem hlen.out fun i h1 h2 => ?_
    have := hall i (by omega)
    simpa [List.getD, h1, h2] using this
  exact ret_tmp (t := 4) h23 rfl rfl ⟨by rw [bdec_true R], hW11.bel⟩

set_option maxHeartbeats 4000000 in
set_option maxRecDepth 100000 in
theorem equal_any (l m : List Int) (p p2 : Option Addr) (c d : Nat) (w : World) (hl0 : intsL.In w All l [.slice p l.length c]) (hm0 : intsL.In w All m [.slice p2 m.length d]) (hb1 : l.length ≤ 4294967296) :
    Rd Try.prog 113 #[.slice p l.length c, .slice p2 m.length d] w (.bool (bdec (l = m))) := by
  have hl : Hid _ := hl0
  have hm : Hid _ := hm0
  clear hl0 hm0
  refine fr_enter (n := 26) Try.func113 rfl rfl rfl ?_
  intro a hF
  have hW := Wd.start w
  replace hF : Fr 26 a [(0, .slice p l.length c), (1, .slice p2 m.length d)] := hF
  refine wp_seq_k fun K1 hK1 => ?_
  refine rg hF fun ops => ?_; clear hF a
  refine sa trivial rfl rfl ?_
  refine St.nil fun a2 h2 => ?_
  refine hK1 _ _ ?_
  refine wp_seq_k fun K3 hK3 => ?_
  refine wp_seq_k fun K4 hK4 => ?_
  refine rg h2 fun ops => ?_; clear h2 a2
  refine sm trivial rfl rfl ?_
  refine slInts trivial rfl rfl ?_
  refine sm trivial rfl rfl ?_
  refine slInts trivial rfl rfl ?_
  refine sne trivial rfl rfl rfl ?_
  refine St.nil fun a5 h5 => ?_
  refine hK4 _ _ ?_
  refine fr_cond (t := 10) h5 rfl (fun hb => ?_) (fun hb => ?_)
  ·have h9 : ¬ l.length = m.length := by have h8 := bne_iff_ne.1 hb; omega
   have hlen : ¬ l.length = m.length := h9
   clear h9
   clear hb
   refine wp_seq_k fun K6 hK6 => ?_
   refine rg h5 fun ops => ?_; clear h5 a5
   refine sa trivial rfl rfl ?_
   refine St.nil fun a7 h7 => ?_
   refine hK6 _ _ ?_
   refine wp_ret ?_; with_reducible repeat first | refine of_then_ret ?_ | refine of_block_ret ?_
   have R : ¬ l = m := by
     intro e
     first
       | exact hlen (by rw [e])
       | exact hel (by rw [← hx.out, ← hy.out, e])
   exact ret_tmp (t := 4) h7 rfl rfl ⟨by rw [bdec_false R], hW.bel⟩
  have h9 : l.length = m.length := by have h8 := bne_eq_false_iff_eq.1 hb; omega
  have hlen : Hid (l.length = m.length) := h9
  clear h9
  clear hb
  refine wp_skip ?_
  refine hK3 _ _ ?_
  refine wp_seq_k fun K8 hK8 => ?_
  refine wp_seq_k fun K9 hK9 => ?_
  refine rg h5 fun ops => ?_; clear h5 a5
  refine sm trivial rfl rfl ?_
  refine slInts trivial rfl rfl ?_
  refine sm trivial rfl rfl ?_
  refine St.nil fun a10 h10 => ?_
  refine hK9 _ _ ?_
  refine wp_block ?_
  refine fr_loop (fun r a w' => ∃ q : Nat, q ≤ l.length ∧ r = l.length - q ∧ (∀ j, j < q → l.getD j 0 = m.getD j 0) ∧ Fr 26 a [(1, .slice p2 m.length d), (0, .slice p l.length c), (4, .bool false), (12, .int .i64 (l.length : Int)), (13, .int .i64 (q : Int))] ∧ Wd w w' []) (l.length) ⟨0, Nat.zero_le _, rfl, (fun j hj => by omega), (h10.keep (h10.keep (h10.keep (h10.keep (h10.keep h10.nil (t := 13) rfl) (t := 12) rfl) (t := 4) rfl) (t := 0) rfl) (t := 1) rfl), hW⟩ ?_
  clear h10 hW
  rintro r a11 w11 ⟨q, hq, hr, hall, hF11, hW11⟩ KL hKL
  refine wp_seq_k fun K12 hK12 => ?_
  refine rg hF11 fun ops => ?_; clear hF11 a11
  refine slt trivial rfl rfl rfl ?_
  refine St.nil fun a13 h13 => ?_
  refine hK12 _ _ ?_
  refine wp_seq_k fun K14 hK14 => ?_
  refine fr_cond (t := 14) h13 rfl (fun hb => ?_) (fun hb => ?_)
  ·have hlt : q < l.length := by have := of_decide_eq_true hb; omega
   clear hb
   have hlm : q < m.length := by have := hlen.out; omega
   obtain ⟨g1, o1, hp1, E1⟩ := ints_rg hl.out hlt
   obtain ⟨g2, o2, hp2, E2⟩ := ints_rg hm.out hlm
   obtain ⟨x, hx⟩ : ∃ x, l.getD q 0 = x := ⟨_, rfl⟩
   obtain ⟨y, hy⟩ : ∃ y, m.getD q 0 = y := ⟨_, rfl⟩
   rw [hx] at E1
   rw [hy] at E2
   replace hx : Hid _ := hx
   replace hy : Hid _ := hy
   replace E1 : Hid _ := E1
   replace E2 : Hid _ := E2
   replace hp1 : Hid _ := hp1
   replace hp2 : Hid _ := hp2
   refine wp_skip ?_
   refine hK14 _ _ ?_
   refine wp_seq_k fun K15 hK15 => ?_
   refine wp_block ?_
   refine wp_seq_k fun K16 hK16 => ?_
   refine rg h13 fun ops => ?_; clear h13 a13
   refine sm trivial rfl rfl ?_
   refine sa trivial rfl rfl ?_
   refine St.nil fun a17 h17 => ?_
   refine hK16 _ _ ?_
   refine wp_seq_k fun K18 hK18 => ?_
   have hF19 : Fr 26 a17 [(1, .slice p2 m.length d), (0, .slice p l.length c), (4, .bool false), (12, .int .i64 (l.length : Int)), (13, .int .i64 (q : Int)), (5, .int .i64 (q : Int))] := (h17.keep (h17.keep (h17.keep (h17.keep (h17.keep (h17.keep h17.nil (t := 5) rfl) (t := 13) rfl) (t := 12) rfl) (t := 4) rfl) (t := 0) rfl) (t := 1) rfl)
   have ho0 : a17.tmps.getD 0 undef = .slice p l.length c := h17.sl 0 _ rfl
   have ho5 : a17.tmps.getD 5 undef = .int .i64 (q : Int) := h17.sl 5 _ rfl
   have ho1 : a17.tmps.getD 1 undef = .slice p2 m.length d := h17.sl 1 _ rfl
   refine fr_draw_k 9 ([(0, fun v _ => v = .slice p l.length c), (5, fun v _ => v = .int .i64 (q : Int)), (1, fun v _ => v = .slice p2 m.length d), (16, fun v _ => v = .slice p l.length c), (17, fun v _ => v = .int .i64 (q : Int)), (18, fun v _ => v = .pointer (some ⟨g1, o1 + q, none⟩)), (19, fun v _ => v = .int .i64 x), (20, fun v _ => v = .slice p2 m.length d), (21, fun v _ => v = .int .i64 (q : Int)), (22, fun v _ => v = .pointer (some ⟨g2, o2 + q, none⟩)), (23, fun v _ => v = .int .i64 y), (24, fun v _ => v = .bool (x != y))] : PTab) (fun w' => Wd w w' [] ∧ Below w11.heap.size w11 w') (fun w w' => Below w.heap.size w w') (outs := [0, 5, 1]) (gs := []) (bs := [true, true, true, true, true, true, true, true, true]) (by kernel_rfl) hF19 rfl (by kernel_rfl) (by kernel_rfl) ?hR ?hG ⟨hW11.drewN 1, drewN_below (m := 1) (Below.refl _ _)⟩ ⟨ho0, ho5, ho1, trivial⟩ ?hA ?hend
   case hR => exact ⟨fun _ _ _ _ h => h, fun _ _ _ _ h => h, fun _ _ _ _ h => h, fun _ _ _ _ h => h, fun _ _ _ _ h => h, fun _ _ _ _ h => h, fun _ _ _ _ h => h, fun _ _ _ _ h => h, fun _ _ _ _ h => h, fun _ _ _ _ h => h, fun _ _ _ _ h => h, fun _ _ _ _ h => h, trivial⟩
   case hG => exact trivial
   case hA =>
    refine ⟨fun a w hW hk K hK => ?_, ?_⟩
    · obtain ⟨k0, -⟩ := hk
      have k0 : a.tmps.getD 0 undef = .slice p l.length c := k0
      go_simp
      exact hK _ _ (Below.refl _ _) hW rfl
    refine ⟨fun a w hW hk K hK => ?_, ?_⟩
    · obtain ⟨k0, -⟩ := hk
      have k0 : a.tmps.getD 5 undef = .int .i64 (q : Int) := k0
      go_simp
      exact hK _ _ (Below.refl _ _) hW rfl
    refine ⟨fun a w hW hk K hK => ?_, ?_⟩
    · obtain ⟨k0, k1, -⟩ := hk
      have k0 : a.tmps.getD 16 undef = .slice p l.length c := k0
      have k1 : a.tmps.getD 17 undef = .int .i64 (q : Int) := k1
      have hpq := hp1.out
      have hk0 : (0 : Int) ≤ q := by omega
      have hk1 : (q : Int) < (l.length : Int) := by omega
      go_simp
      exact hK _ _ (Below.refl _ _) hW rfl
    refine ⟨fun a w hW hk K hK => ?_, ?_⟩
    · obtain ⟨k0, -⟩ := hk
      have k0 : a.tmps.getD 18 undef = .pointer (some ⟨g1, o1 + q, none⟩) := k0
      have d0 : w.cell? ⟨g1, o1 + q, none⟩ = some (.int .i64 x) := bel_cell hW.1.bel (E1.out 0 _ rfl)
      go_simp
      exact hK _ _ (Below.refl _ _) hW rfl
    refine ⟨fun a w hW hk K hK => ?_, ?_⟩
    · obtain ⟨k0, -⟩ := hk
      have k0 : a.tmps.getD 1 undef = .slice p2 m.length d := k0
      go_simp
      exact hK _ _ (Below.refl _ _) hW rfl
    refine ⟨fun a w hW hk K hK => ?_, ?_⟩
    · obtain ⟨k0, -⟩ := hk
      have k0 : a.tmps.getD 5 undef = .int .i64 (q : Int) := k0
      go_simp
      exact hK _ _ (Below.refl _ _) hW rfl
    refine ⟨fun a w hW hk K hK => ?_, ?_⟩
    · obtain ⟨k0, k1, -⟩ := hk
      have k0 : a.tmps.getD 20 undef = .slice p2 m.length d := k0
      have k1 : a.tmps.getD 21 undef = .int .i64 (q : Int) := k1
      have hpq := hp2.out
      have hk0 : (0 : Int) ≤ q := by omega
      have hk1 : (q : Int) < (m.length : Int) := by omega
      go_simp
      exact hK _ _ (Below.refl _ _) hW rfl
    refine ⟨fun a w hW hk K hK => ?_, ?_⟩
    · obtain ⟨k0, -⟩ := hk
      have k0 : a.tmps.getD 22 undef = .pointer (some ⟨g2, o2 + q, none⟩) := k0
      have d0 : w.cell? ⟨g2, o2 + q, none⟩ = some (.int .i64 y) := bel_cell hW.1.bel (E2.out 0 _ rfl)
      go_simp
      exact hK _ _ (Below.refl _ _) hW rfl
    refine ⟨fun a w hW hk K hK => ?_, ?_⟩
    · obtain ⟨k0, k1, -⟩ := hk
      have k0 : a.tmps.getD 19 undef = .int .i64 x := k0
      have k1 : a.tmps.getD 23 undef = .int .i64 y := k1
      go_simp
      exact hK _ _ (Below.refl _ _) hW rfl
    trivial
   case hend =>
    intro ops a20 w20 hWD hE hFD
    have hd24 : a20.tmps.getD 24 undef = .bool (x != y) := hE 24 rfl
    have hF20 : Fr 26 a20 [(24, .bool (x != y)), (1, .slice p2 m.length d), (0, .slice p l.length c), (4, .bool false), (12, .int .i64 (l.length : Int)), (13, .int .i64 (q : Int)), (5, .int .i64 (q : Int))] := (hFD.cons hd24)
    clear hd24
    have hW20 : Wd w w20 [] := hWD.1
    clear hFD hWD hE hF19 h17
    clear hW11
    refine wpList_nil ?_
    refine hK18 _ _ ?_
    refine fr_cond (t := 24) hF20 rfl (fun hb => ?_) (fun hb => ?_)
    ·have h9 : ¬ x = y := bne_iff_ne.1 hb
     have hel : ¬ x = y := h9
     clear h9
     clear hb
     refine wp_seq_k fun K21 hK21 => ?_
     refine rg hF20 fun ops => ?_; clear hF20 a20
     refine sa trivial rfl rfl ?_
     refine St.nil fun a22 h22 => ?_
     refine hK21 _ _ ?_
     refine wp_ret ?_; with_reducible repeat first | refine of_then_ret ?_ | refine of_block_ret ?_
     have R : ¬ l = m := by
       intro e
       first
         | exact hlen (by rw [e])
         | exact hel (by rw [← hx.out, ← hy.out, e])
     exact ret_tmp (t := 4) h22 rfl rfl ⟨by rw [bdec_false R], hW20.bel⟩
    have h9 : x = y := bne_eq_false_iff_eq.1 hb
    have hel : Hid (x = y) := h9
    clear h9
    clear hb
    refine wp_skip ?_
    refine hK15 _ _ ?_
    refine rg hF20 fun ops => ?_; clear hF20 a20
    refine sad (by omega) trivial rfl rfl rfl ?_
    refine sm trivial rfl rfl ?_
    refine St.nil fun a23 h23 => ?_
    refine hKL _ _ (l.length - (q + 1)) (by omega) ⟨q + 1, by omega, rfl, ?_, (h23.keep (h23.keep (h23.keep (h23.keep (h23.keep h23.nil (t := 13) rfl) (t := 12) rfl) (t := 4) rfl) (t := 0) rfl) (t := 1) rfl), hW20⟩
    ·intro j hj
     by_cases e : j = q
     · subst e; rw [hx.out, hy.out]; exact hel.out
     · exact hall j (by omega)
  have hge : q = l.length := by have := of_decide_eq_false hb; omega
  clear hb
  refine wp_exit ?_
  refine hK8 _ _ ?_
  refine wp_seq_k fun K24 hK24 => ?_
  refine rg h13 fun ops => ?_; clear h13 a13
  refine sa trivial rfl rfl ?_
  refine St.nil fun a25 h25 => ?_
  refine hK24 _ _ ?_
  refine wp_ret ?_; with_reducible repeat first | refine of_then_ret ?_ | refine of_block_ret ?_
  have R : l = m := by
    refine List.ext_getElem hlen.out fun i h1 h2 => ?_
    have := hall i (by omega)
    simpa [List.getD, h1, h2] using this
  exact ret_tmp (t := 4) h25 rfl rfl ⟨by rw [bdec_true R], hW11.bel⟩
end Go.Proofs.Ytmnmnokkojcodab
/-
  Same and SameType answer whether the two trees are one.
-/
namespace Go.Proofs.Ytmnmnokkojcodab
open Go.ChangeShapes Go.WideShapes Go.ChangeAt Go.RowKit
set_option linter.unusedVariables false

def SaysEq (e : Ending) (A : Prop) : Prop := ∃ q : Bool, e = .returned (.bool q) ∧ (q = true ↔ A)
theorem SaysEq.yes {A : Prop} (h : A) : SaysEq (.returned (.bool true)) A := ⟨true, rfl, by simp [h]⟩
theorem SaysEq.no {A : Prop} (h : ¬ A) : SaysEq (.returned (.bool false)) A := ⟨false, rfl, by simp [h]⟩

/-- What both say of two types. -/
def SameAt (f : Nat) (n : Nat) : Prop := ∀ (t u : TT n) (a b : Option Addr) (c d : Nat) (w : World), TIn w All t a → TIn w All u b → t.count ≤ 2000 →
    Calls Try.prog f #[Tv t a c, Tv u b d] w fun e w' => SaysEq e (t = u) ∧ Below w.heap.size w w'

set_option maxHeartbeats 4000000 in
set_option maxRecDepth 100000 in
theorem sames_any (n : Nat) (IH0 : SameAt 75 n) (l m : List (TT n)) (a b : Option Addr) (c d : Nat) (w : World) (hl0 : LIn w All l a) (hm0 : LIn w All m b) (hlen : l.length ≤ 2000) (hco0 : ∀ x ∈ l, x.count ≤ 2000) :
    Calls Try.prog 51 #[.slice a l.length c, .slice b m.length d] w fun e w' => SaysEq e (l = m) ∧ Below w.heap.size w w' := by
  have IH : Hid (SameAt 75 n) := IH0
  have hl : Hid (LIn w All l a) := hl0
  have hm : Hid (LIn w All m b) := hm0
  have hco : Hid (∀ x ∈ l, x.count ≤ 2000) := hco0
  clear IH0 hl0 hm0 hco0
  by_cases hne : l.length = m.length
  · have hne' : ((l.length : Int) != (m.length : Int)) = false := by simp; omega
    have E : Hid (l.length = m.length) := hne
    clear hne
    go_enter Try.func51, Try.ntmps51
    go_wp2_with fail
    go_loopw [5] (fun i wr => ∃ q : Nat, q ≤ l.length ∧ i = .int .i64 q ∧ (∀ j, j < q → l[j]? = m[j]?) ∧ Below w.heap.size w wr) (fun i _ => l.length - (intOf i).toNat)
    case atStart => exact ⟨0, Nat.zero_le _, rfl, fun j hj => by omega, Below.refl _ _⟩
    case round =>
      obtain ⟨q, hq, rfl, hall, hb⟩ := hrel
      have A : Hid (∀ j, j < q → l[j]? = m[j]?) := hall
      have B : Hid (Below w.heap.size w wr) := hb
      clear hall hb
      by_cases hlt : q < l.length
      · have hx : l[q]? = some l[q] := List.getElem?_eq_getElem hlt
        have hlm : q < m.length := by have := E.out; omega
        have hy : m[q]? = some m[q] := List.getElem?_eq_getElem hlm
        generalize l[q] = x at hx
        generalize m[q] = y at hy
        obtain ⟨g, o, a', c', rfl, _, d0, d1, d2, hk⟩ := LIn.at (hl.out.below B.out) hx
        obtain ⟨g', o', b', d', rfl, _, d3, d4, d5, hk'⟩ := LIn.at (hm.out.below B.out) hy
        have C : Hid (∀ k, Calls Try.prog 75 #[Tv x a' c', Tv y b' d'] (wr.drewN k) fun e w' => SaysEq e (x = y) ∧ Below wr.heap.size wr w') :=
          fun k => (IH.out x y a' b' c' d' _ (hk.drewN k) (hk'.drewN k) (hco.out x (List.mem_of_getElem? hx))).mono (fun e w' h => ⟨h.1, undrewN_below h.2⟩)
        have hx' : Hid (l[q]? = some x) := hx
        have hy' : Hid (m[q]? = some y) := hy
        clear hk hk' hx hy
        have hk0 : (0 : Int) ≤ q := by omega
        have hk1 : (q : Int) < l.length := by omega
        have hk3 : (q : Int) < m.length := by omega
        have hk2 : (q : Int) < 2000 := by omega
        go_upto_region 6 with fail
        go_cut [26] (fun t wx => ∃ p : Bool, t = .bool (!p) ∧ (p = true ↔ x = y) ∧ Below wr.heap.size wr wx)
        case first =>
          go_region_with (go_at_call 75; refine (C.out 1).mono ?_; rintro r w5 ⟨⟨p, rfl, hp⟩, b5⟩; have HP : Hid (p = true ↔ x = y) := hp; have B5 : Hid (Below wr.heap.size wr w5) := b5; clear hp b5)
          all_goals
            go_wp2
            go_meet
            exact ⟨p, rfl, HP.out, B5.out⟩
        case rest =>
          obtain ⟨p, rfl, hp, b5⟩ := hcut
          have HB : Hid (Below w.heap.size w wc) := B.out.trans (b5.mono B.out.size)
          clear C b5 B d0 d1 d2 d3 d4 d5
          cases p with
          | true =>
            have hxy : x = y := hp.1 rfl
            have A2 : Hid (∀ j, j < q + 1 → l[j]? = m[j]?) := fun j hj => by
              by_cases e : j = q
              · subst e; rw [hx'.out, hy'.out, hxy]
              · exact A.out j (by omega)
            clear hp hxy hx' hy' A
            go_wp2
            go_roundw
            case rel => exact ⟨q + 1, by omega, by go_num, A2.out, HB.out⟩
            case measure => simp [intOf]; omega
          | false =>
            have hxy : Hid (¬ l = m) := fun h => by
              have h1 := hx'.out
              rw [h, hy'.out] at h1
              have := hp.2 (Option.some.inj h1).symm
              cases this
            clear hp hx' hy' A
            go_wp2
            go_ret
            exact ⟨SaysEq.no hxy.out, HB.out⟩
      · have R : Hid (l = m) := by
          have := E.out
          refine List.ext_getElem? (fun i => ?_)
          by_cases hi : i < q
          · exact A.out i hi
          · rw [List.getElem?_eq_none (by omega), List.getElem?_eq_none (by omega)]
        have hk1 : ¬ (q : Int) < l.length := by omega
        clear A
        go_wp2
        go_ret
        exact ⟨SaysEq.yes R.out, B.out⟩
  · have hne' : ((l.length : Int) != (m.length : Int)) = true := by simp; omega
    have E : Hid (l.length ≠ m.length) := hne
    clear hne
    go_enter Try.func51, Try.ntmps51
    go_wp2
    go_ret
    exact ⟨SaysEq.no (fun h => E.out (by rw [h])), Below.refl _ _⟩

theorem TT.eq_iff {n : Nat} {t u : TT (n + 1)} : t = u ↔ t.kind = u.kind ∧ t.r = u.r ∧ t.2.2 = u.2.2 := by
  obtain ⟨a, b, c⟩ := t
  obtain ⟨d, e, f⟩ := u
  constructor
  · intro h; cases h; exact ⟨rfl, rfl, rfl⟩
  · rintro ⟨rfl, rfl, rfl⟩; rfl

set_option maxHeartbeats 4000000 in
set_option maxRecDepth 100000 in
/-- SameType: are they one? -/
theorem samet_any : ∀ n, SameAt 75 n := by
  intro n
  induction n with
  | zero => intro t; exact Empty.elim t
  | succ n ih =>
    intro t u a b c d w ht hu hc
    have hco : ∀ x ∈ t.2.2, x.count ≤ 2000 := fun x hx => by have := t.count_kid hx; omega
    have hlen : t.2.2.length ≤ 2000 := by have := t.len_lt_count; rw [t.len_eq] at this; omega
    have C : Hid (∀ wx, Below w.heap.size w wx → Calls Try.prog 51 #[.slice a t.2.2.length c, .slice b u.2.2.length d] wx fun e w' => SaysEq e (t.2.2 = u.2.2) ∧ Below wx.heap.size wx w') :=
      fun wx hb => sames_any n ih t.2.2 u.2.2 a b c d wx (ht.below hb) (hu.below hb) hlen hco
    rw [TT.eq_iff]
    simp only [Tv, TT.len_eq] at C ⊢
    generalize t.2.2.length = p at C ⊢
    generalize u.2.2.length = q at C ⊢
    generalize (t.2.2 = u.2.2) = E at C ⊢
    generalize t.kind = k
    generalize t.r = r
    generalize u.kind = k'
    generalize u.r = r'
    clear hco hlen hc ht hu ih t u
    by_cases hk : k = k'
    · subst hk
      by_cases hr : r = r'
      · subst hr
        go_enter Try.func75, Try.ntmps75
        go_wp2_with fail
        have B1 : Below w.heap.size w ((w.alloc (.cells #[.int .i64 k, .int .i64 r, .slice a p c] 90)).alloc (.cells #[.int .i64 k, .int .i64 r, .slice b q d] 90)) := ((Below.refl _ w).alloc (Nat.le_refl _) _).alloc (by simp) _
        refine (C.out _ B1).mono ?_
        rintro e w2 ⟨⟨v, rfl, hv⟩, b2⟩
        have B : Hid (Below w.heap.size w w2) := B1.trans (b2.mono B1.size)
        have V : Hid (v = true ↔ E) := hv
        clear b2 C hv B1
        cases v
        all_goals
          go_wp2
          go_ret
        · exact ⟨SaysEq.no (fun h => by have := V.out.2 h.2.2; cases this), B.out⟩
        · exact ⟨SaysEq.yes (by have := V.out; simpa using this), B.out⟩
      · have hr' : (r == r') = false := by simpa using hr
        have R : Hid (¬ r = r') := hr
        clear hr
        go_enter Try.func75, Try.ntmps75
        go_wp2_with fail
        go_ret
        exact ⟨SaysEq.no (fun h => R.out h.2.1), ((Below.refl _ w).alloc (Nat.le_refl _) _).alloc (by simp) _⟩
    · have hk' : (k == k') = false := by simpa using hk
      have R : Hid (¬ k = k') := hk
      clear hk
      go_enter Try.func75, Try.ntmps75
      go_wp2_with fail
      go_ret
      exact ⟨SaysEq.no (fun h => R.out h.1), ((Below.refl _ w).alloc (Nat.le_refl _) _).alloc (by simp) _⟩
end Go.Proofs.Ytmnmnokkojcodab
/-
  types.Same answers whether the two trees are one.
-/
namespace Go.Proofs.Ytmnmnokkojcodab
open Go.ChangeShapes Go.WideShapes Go.ChangeAt Go.RowKit
set_option linter.unusedVariables false

/-- The function's value that is handed on. -/
abbrev FV : Value := .func (.func 83) #[] #[]

set_option maxHeartbeats 4000000 in
set_option maxRecDepth 100000 in
theorem eqf_any (n : Nat) (IH0 : SameAt 83 n) (l m : List (TT n)) (a b : Option Addr) (c d : Nat) (w : World) (hl0 : LIn w All l a) (hm0 : LIn w All m b) (hlen : l.length ≤ 2000) (hco0 : ∀ x ∈ l, x.count ≤ 2000) :
    Calls Try.prog 82 #[.slice a l.length c, .slice b m.length d, FV] w fun e w' => SaysEq e (l = m) ∧ Below w.heap.size w w' := by
  have IH : Hid (SameAt 83 n) := IH0
  have hl : Hid (LIn w All l a) := hl0
  have hm : Hid (LIn w All m b) := hm0
  have hco : Hid (∀ x ∈ l, x.count ≤ 2000) := hco0
  clear IH0 hl0 hm0 hco0
  by_cases hne : l.length = m.length
  · have hne' : ((l.length : Int) != (m.length : Int)) = false := by simp; omega
    have E : Hid (l.length = m.length) := hne
    clear hne
    go_enter Try.func82, Try.ntmps82
    go_wp2_with fail
    go_loopw [17] (fun i wr => ∃ q : Nat, q ≤ l.length ∧ i = .int .i64 q ∧ (∀ j, j < q → l[j]? = m[j]?) ∧ Below w.heap.size w wr) (fun i _ => l.length - (intOf i).toNat)
    case atStart => exact ⟨0, Nat.zero_le _, rfl, fun j hj => by omega, Below.refl _ _⟩
    case round =>
      obtain ⟨q, hq, rfl, hall, hb⟩ := hrel
      have A : Hid (∀ j, j < q → l[j]? = m[j]?) := hall
      have B : Hid (Below w.heap.size w wr) := hb
      clear hall hb
      by_cases hlt : q < l.length
      · have hx : l[q]? = some l[q] := List.getElem?_eq_getElem hlt
        have hlm : q < m.length := by have := E.out; omega
        have hy : m[q]? = some m[q] := List.getElem?_eq_getElem hlm
        generalize l[q] = x at hx
        generalize m[q] = y at hy
        obtain ⟨g, o, a', c', rfl, _, d0, d1, d2, hk⟩ := LIn.at (hl.out.below B.out) hx
        obtain ⟨g', o', b', d', rfl, _, d3, d4, d5, hk'⟩ := LIn.at (hm.out.below B.out) hy
        have C : Hid (∀ wx, Below wr.heap.size wr wx → Calls Try.prog 83 #[Tv x a' c', Tv y b' d'] wx fun e w' => SaysEq e (x = y) ∧ Below wx.heap.size wx w') :=
          fun wx hb => IH.out x y a' b' c' d' _ (hk.below hb) (hk'.below hb) (hco.out x (List.mem_of_getElem? hx))
        have hx' : Hid (l[q]? = some x) := hx
        have hy' : Hid (m[q]? = some y) := hy
        have hg : g < wr.heap.size := World.block_lt_of_cell? wr ⟨g, o + q * 3, none⟩ d0
        have hg' : g' < wr.heap.size := World.block_lt_of_cell? wr ⟨g', o' + q * 3, none⟩ d3
        clear hk hk' hx hy
        simp only [Tv] at C
        generalize x.kind = kx at C d0
        generalize x.r = rx at C d1
        generalize x.len = lx at C d2
        generalize y.kind = ky at C d3
        generalize y.r = ry at C d4
        generalize y.len = ly at C d5
        have hk0 : (0 : Int) ≤ q := by omega
        have hk1 : (q : Int) < l.length := by omega
        have hk3 : (q : Int) < m.length := by omega
        have hk2 : (q : Int) < 2000 := by omega
        go_wp2_with fail
        have B1 : Below wr.heap.size wr ((wr.alloc (.cells #[.int .i64 kx, .int .i64 rx, .slice a' lx c'] 90)).alloc (.cells #[.int .i64 ky, .int .i64 ry, .slice b' ly d'] 90)) := ((Below.refl _ wr).alloc (Nat.le_refl _) _).alloc (by simp) _
        refine (C.out _ B1).mono ?_
        rintro r w5 ⟨⟨p, rfl, hp⟩, b5⟩
        have HB : Hid (Below w.heap.size w w5) := (B.out.trans (B1.mono B.out.size)).trans (b5.mono (Nat.le_trans B.out.size B1.size))
        clear C b5 B d0 d1 d2 d3 d4 d5 B1
        cases p with
        | true =>
          have hxy : x = y := hp.1 rfl
          have A2 : Hid (∀ j, j < q + 1 → l[j]? = m[j]?) := fun j hj => by
            by_cases e : j = q
            · subst e; rw [hx'.out, hy'.out, hxy]
            · exact A.out j (by omega)
          clear hp hxy hx' hy' A
          go_wp2
          go_roundw
          case rel => exact ⟨q + 1, by omega, by go_num, A2.out, HB.out⟩
          case measure => simp [intOf]; omega
        | false =>
          have hxy : Hid (¬ l = m) := fun h => by
            have h1 := hx'.out
            rw [h, hy'.out] at h1
            have := hp.2 (Option.some.inj h1).symm
            cases this
          clear hp hx' hy' A
          go_wp2
          go_ret
          exact ⟨SaysEq.no hxy.out, HB.out⟩
      · have R : Hid (l = m) := by
          have := E.out
          refine List.ext_getElem? (fun i => ?_)
          by_cases hi : i < q
          · exact A.out i hi
          · rw [List.getElem?_eq_none (by omega), List.getElem?_eq_none (by omega)]
        have hk1 : ¬ (q : Int) < l.length := by omega
        clear A
        go_wp2
        go_ret
        exact ⟨SaysEq.yes R.out, B.out⟩
  · have hne' : ((l.length : Int) != (m.length : Int)) = true := by simp; omega
    have E : Hid (l.length ≠ m.length) := hne
    clear hne
    go_enter Try.func82, Try.ntmps82
    go_wp2
    go_ret
    exact ⟨SaysEq.no (fun h => E.out (by rw [h])), Below.refl _ _⟩
set_option maxHeartbeats 4000000 in
set_option maxRecDepth 100000 in
/-- Same: are they one? -/
theorem same_any : ∀ n, SameAt 83 n := by
  intro n
  induction n with
  | zero => intro t; exact Empty.elim t
  | succ n ih =>
    intro t u a b c d w ht hu hc
    have hco : ∀ x ∈ t.2.2, x.count ≤ 2000 := fun x hx => by have := t.count_kid hx; omega
    have hlen : t.2.2.length ≤ 2000 := by have := t.len_lt_count; rw [t.len_eq] at this; omega
    have C : Hid (∀ wx, Below w.heap.size w wx → Calls Try.prog 82 #[.slice a t.2.2.length c, .slice b u.2.2.length d, FV] wx fun e w' => SaysEq e (t.2.2 = u.2.2) ∧ Below wx.heap.size wx w') :=
      fun wx hb => eqf_any n ih t.2.2 u.2.2 a b c d wx (ht.below hb) (hu.below hb) hlen hco
    rw [TT.eq_iff]
    simp only [Tv, TT.len_eq] at C ⊢
    generalize t.2.2.length = p at C ⊢
    generalize u.2.2.length = q at C ⊢
    generalize (t.2.2 = u.2.2) = E at C ⊢
    generalize t.kind = k
    generalize t.r = r
    generalize u.kind = k'
    generalize u.r = r'
    clear hco hlen hc ht hu ih t u
    by_cases hk : k = k'
    · subst hk
      by_cases hr : r = r'
      · subst hr
        go_enter Try.func83, Try.ntmps83
        go_wp2_with fail
        have B1 : Below w.heap.size w ((w.alloc (.cells #[.int .i64 k, .int .i64 r, .slice a p c] 90)).alloc (.cells #[.int .i64 k, .int .i64 r, .slice b q d] 90)) := ((Below.refl _ w).alloc (Nat.le_refl _) _).alloc (by simp) _
        refine (C.out _ B1).mono ?_
        rintro e w2 ⟨⟨v, rfl, hv⟩, b2⟩
        have B : Hid (Below w.heap.size w w2) := B1.trans (b2.mono B1.size)
        have V : Hid (v = true ↔ E) := hv
        clear b2 C hv B1
        cases v
        all_goals
          go_wp2
          go_ret
        · exact ⟨SaysEq.no (fun h => by have := V.out.2 h.2.2; cases this), B.out⟩
        · exact ⟨SaysEq.yes (by have := V.out; simpa using this), B.out⟩
      · have hr' : (r == r') = false := by simpa using hr
        have R : Hid (¬ r = r') := hr
        clear hr
        go_enter Try.func83, Try.ntmps83
        go_wp2_with fail
        go_ret
        exact ⟨SaysEq.no (fun h => R.out h.2.1), ((Below.refl _ w).alloc (Nat.le_refl _) _).alloc (by simp) _⟩
    · have hk' : (k == k') = false := by simpa using hk
      have R : Hid (¬ k = k') := hk
      clear hk
      go_enter Try.func83, Try.ntmps83
      go_wp2_with fail
      go_ret
      exact ⟨SaysEq.no (fun h => R.out h.1), ((Below.refl _ w).alloc (Nat.le_refl _) _).alloc (by simp) _⟩
end Go.Proofs.Ytmnmnokkojcodab
