/-
  Which regions are held, as the document has it: of each region that there ever was, by its number, is it held? What Has, List and Pass make of it. Plain mathematics, and how two rows of yes and no are held one against the other.
-/
import Derived.Test.YtcenkidhaoncgadLay
import Derived.Deep.MidRow
import Derived.Laws.StructEq
import Derived.ChangeKeysEq
namespace Go.Proofs.Ytcenkidhaoncgad
open Go.RowKit
set_option linter.unusedVariables false

/-- Is it held? -/
def hHas (L : List Bool) (r : Int) : Bool := decide (0 ≤ r) && L.getD r.toNat false
/-- Those below k that are held, rising. -/
def hTo (L : List Bool) : Nat → List Int
  | 0 => []
  | k + 1 => hTo L k ++ (if L.getD k false then [(k : Int)] else [])
def hList (L : List Bool) : List Int := hTo L L.length
/-- On a list? -/
def inB (l : List Int) (x : Int) : Bool := l.contains x
/-- May just these be handed on? Those ahead, and the rest. -/
def hPass (L : List Bool) : List Int → List Int → Int
  | ahead, [] => if (hList L).all (fun r => inB ahead r) then 0 else 12
  | ahead, r :: rest => if hHas L r then (if inB ahead r then 13 else hPass L (ahead ++ [r]) rest) else 10

theorem getD_ge (L : List Bool) {k : Nat} (h : L.length ≤ k) : L.getD k false = false := by
  simp [List.getD, List.getElem?_eq_none h]
theorem hTo_ge (L : List Bool) : ∀ k, L.length ≤ k → hTo L k = hList L := by
  intro k
  induction k with
  | zero => intro h; rw [hList, Nat.le_zero.1 h]
  | succ k ih =>
    intro h
    rcases Nat.lt_or_ge k L.length with h' | h'
    · rw [hList, show L.length = k + 1 by omega]
    · rw [hTo, getD_ge L h', ih h']; simp
theorem hTo_len (L : List Bool) : ∀ k, (hTo L k).length ≤ k := by
  intro k
  induction k with
  | zero => simp [hTo]
  | succ k ih =>
    rw [hTo]
    split <;> simp <;> omega
theorem hList_len (L : List Bool) : (hList L).length ≤ L.length := hTo_len L _
theorem mem_hTo (L : List Bool) (r : Int) : ∀ k, r ∈ hTo L k ↔ 0 ≤ r ∧ r < k ∧ L.getD r.toNat false = true := by
  intro k
  induction k with
  | zero => simp [hTo]; omega
  | succ k ih =>
    rw [hTo, List.mem_append, ih]
    constructor
    · rintro (⟨h1, h2, h3⟩ | h)
      · exact ⟨h1, by omega, h3⟩
      · split at h
        · rename_i hk
          simp at h
          subst h
          exact ⟨by omega, by omega, by simpa using hk⟩
        · simp at h
    · rintro ⟨h1, h2, h3⟩
      rcases Nat.lt_or_ge r.toNat k with h' | h'
      · exact .inl ⟨h1, by omega, h3⟩
      · have e : r = (k : Int) := by omega
        subst e
        right
        simp only [Int.toNat_natCast] at h3
        rw [h3]; simp
theorem mem_hList (L : List Bool) (r : Int) : r ∈ hList L ↔ hHas L r = true := by
  rw [hList, mem_hTo, hHas]
  constructor
  · rintro ⟨h1, _, h3⟩; rw [h3]; simp [h1]
  · intro h
    simp only [Bool.and_eq_true, decide_eq_true_eq] at h
    refine ⟨h.1, ?_, h.2⟩
    rcases Nat.lt_or_ge r.toNat L.length with h' | h'
    · omega
    · rw [getD_ge L h'] at h; simp at h
theorem hHas_cast (L : List Bool) (k : Nat) : hHas L (k : Int) = L.getD k false := by simp [hHas]
theorem hHas_true {L : List Bool} {r : Int} (h : hHas L r = true) : ∃ k : Nat, r = (k : Int) ∧ k < L.length ∧ L.getD k false = true := by
  simp only [hHas, Bool.and_eq_true, decide_eq_true_eq] at h
  obtain ⟨k, rfl⟩ := Int.eq_ofNat_of_zero_le h.1
  have h2 : L.getD k false = true := by simpa using h.2
  refine ⟨k, rfl, ?_, h2⟩
  rcases Nat.lt_or_ge k L.length with h' | h'
  · exact h'
  · rw [getD_ge L h'] at h2; cases h2

theorem inB_iff {l : List Int} {x : Int} : inB l x = true ↔ x ∈ l := by simp [inB]
theorem inB_snoc (l : List Int) (x y : Int) : inB (l ++ [x]) y = (inB l y || decide (x = y)) := by
  rw [Bool.eq_iff_iff, inB_iff, Bool.or_eq_true, inB_iff, decide_eq_true_eq, List.mem_append, List.mem_singleton]
  exact ⟨fun h => h.imp id Eq.symm, fun h => h.imp id Eq.symm⟩

/-- One step of a Pass: the list behind k. -/
theorem hPass_step (L : List Bool) (l : List Int) {k : Nat} {x : Int} (hx : l[k]? = some x) :
    hPass L (l.take k) (l.drop k) = if hHas L x then (if inB (l.take k) x then 13 else hPass L (l.take (k + 1)) (l.drop (k + 1))) else 10 := by
  obtain ⟨hk, e⟩ := List.getElem?_eq_some_iff.1 hx
  rw [List.drop_eq_getElem_cons hk, e, hPass, List.take_add_one, hx]
  rfl
theorem hPass_end (L : List Bool) (l : List Int) {k : Nat} (hk : l.length ≤ k) : hPass L (l.take k) (l.drop k) = if (hList L).all (fun r => inB l r) then 0 else 12 := by
  rw [List.drop_of_length_le hk, List.take_of_length_le hk, hPass]

/-- What is left behind a list: of each of sixteen. -/
def hLeft (L : List Bool) (l : List Int) (i : Nat) : Bool := L.getD i false && !inB l (i : Int)
theorem hLeft_nil (L : List Bool) (i : Nat) : hLeft L [] i = L.getD i false := by simp [hLeft, inB]
theorem hLeft_snoc (L : List Bool) (l : List Int) (k i : Nat) : hLeft L (l ++ [(k : Int)]) i = if i = k then false else hLeft L l i := by
  unfold hLeft
  rw [inB_snoc]
  by_cases h : i = k
  · subst h; simp
  · rw [if_neg h]
    have : decide ((k : Int) = (i : Int)) = false := by simp; omega
    rw [this]; simp
theorem hLeft_none {L : List Bool} {l : List Int} (h : L.length ≤ 16) : ((List.range 16).map (hLeft L l) = List.replicate 16 false) ↔ (hList L).all (fun r => inB l r) = true := by
  rw [List.all_eq_true]
  constructor
  · intro e r hr
    obtain ⟨k, rfl, hk, h1⟩ := hHas_true ((mem_hList L r).1 hr)
    have hk16 : k < 16 := by omega
    have : ((List.range 16).map (hLeft L l))[k]? = some false := by rw [e, List.getElem?_replicate, if_pos hk16]
    rw [List.getElem?_map, List.getElem?_range hk16] at this
    simp only [Option.map_some, Option.some.injEq] at this
    unfold hLeft at this
    rw [h1] at this
    simpa using this
  · intro e
    rw [List.eq_replicate_iff]
    refine ⟨by simp, fun b hb => ?_⟩
    obtain ⟨k, hk, rfl⟩ := List.mem_map.1 hb
    unfold hLeft
    cases h1 : L.getD k false with
    | false => rfl
    | true =>
      have := e (k : Int) ((mem_hList L _).2 (by rw [hHas_cast]; exact h1))
      rw [this]; rfl

/-! ### rows of yes and no -/
theorem run_equalIn_bools' {P : Program} {t e : TypeId} {n d : Nat} (ht : P.underlying t = some (.array n e)) (he : P.underlying e = some .bool) (hs : (P.info? e).map (·.size) = some 1) (w : World)
    (hE : ∀ a b, (Op.equalIn d e (.bool a) (.bool b)).run P w = .ok (a == b) w) (xs ys : List Bool) (hx : xs.length = n) (hy : ys.length = n) :
    (Op.equalIn (d + 1) t (.agg (xs.map Value.bool).toArray) (.agg (ys.map Value.bool).toArray)).run P w = .ok (xs == ys) w := by
  have hsz : (sizeOf e).run P w = .ok 1 w := by
    cases hq : P.info? e with
    | none => simp [hq] at hs
    | some i => simp [hq] at hs; simp [sizeOf, typeInfo, hq, hs]
  have hpart : ∀ (zs : List Bool) (i : Nat) (h : i < zs.length), (part e (zs.map Value.bool).toArray (i * 1)).run P w = .ok (.bool zs[i]) w := by
    intro zs i h
    simp [part, isAgg, run_underlying he, h]
  simp only [Op.equalIn, Sem.run_bind, run_underlying ht, Result.andThen_ok, hsz]
  rw [Std.Legacy.Range.forIn_eq_forIn_range', show Std.Legacy.Range.size [0:n] = n by simp [Std.Legacy.Range.size]]
  have key : ∀ (m k : Nat), k + m = n → (xs.take k == ys.take k) = true →
      ((forIn (List.range' k m) ((none, ()) : Option Bool × Unit) fun i __s => do
        let __do_lift ← part e (xs.map Value.bool).toArray (i * 1)
        let __do_lift_1 ← part e (ys.map Value.bool).toArray (i * 1)
        let __do_lift_2 ← Op.equalIn d e __do_lift __do_lift_1
        if (!__do_lift_2) = true then pure (ForInStep.done (some false, ()))
        else pure (ForInStep.yield (none, ())) : Sem (Option Bool × Unit)).run P w) = .ok (if xs == ys then none else some false, ()) w := by
    intro m
    induction m with
    | zero =>
      intro k hk hh
      have : (xs == ys) = true := by
        rw [List.take_of_length_le (by omega), List.take_of_length_le (by omega)] at hh
        exact hh
      simp [this]
    | succ m ih =>
      intro k hk hh
      have hkx : k < xs.length := by omega
      have hky : k < ys.length := by omega
      simp only [List.range'_succ, List.forIn_cons, Sem.run_bind, hpart xs k hkx, hpart ys k hky, Result.andThen_ok, hE]
      by_cases hb : xs[k] = ys[k]
      · have h2 : (xs.take (k + 1) == ys.take (k + 1)) = true := by
          rw [List.take_add_one, List.take_add_one, List.getElem?_eq_getElem hkx, List.getElem?_eq_getElem hky, hb, beq_iff_eq.1 hh]
          simp
        have hb' : (xs[k] == ys[k]) = true := by simpa using hb
        simp only [hb', Bool.not_true, Bool.false_eq_true, if_false, Sem.run_pure, Result.andThen_ok]
        exact ih (k + 1) (by omega) h2
      · have hb' : (xs[k] == ys[k]) = false := by simpa using hb
        have hne : (xs == ys) = false := by
          rw [beq_eq_false_iff_ne]
          intro e; subst e; exact hb rfl
        simp [hb', hne]
  have := key n 0 (by omega) (by simp)
  rw [this]
  cases h : xs == ys <;> simp
theorem run_equalIn_bools {P : Program} {t e : TypeId} {n d : Nat} (ht : P.underlying t = some (.array n e)) (he : P.underlying e = some .bool) (hs : (P.info? e).map (·.size) = some 1) (w : World)
    (xs ys : List Bool) (hx : xs.length = n) (hy : ys.length = n) :
    (Op.equalIn (d + 2) t (.agg (xs.map Value.bool).toArray) (.agg (ys.map Value.bool).toArray)).run P w = .ok (xs == ys) w :=
  run_equalIn_bools' ht he hs w (fun a b => by simp [Op.equalIn, run_underlying he]) xs ys hx hy

end Go.Proofs.Ytcenkidhaoncgad
