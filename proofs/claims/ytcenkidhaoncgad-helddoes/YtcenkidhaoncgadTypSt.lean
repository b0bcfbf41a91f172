/-
  Types as plain trees: a tree of depth at most n is a kind, a number of a region and a list of trees of depth at most n - 1; and what the document's functions answer, as plain functions on them. No function of the program is spoken of.
-/
import Derived.Test.YtcenkidhaoncgadRows
namespace Go.Proofs.Ytcenkidhaoncgad
set_option linter.unusedVariables false

def TT : Nat → Type
  | 0 => Empty
  | n + 1 => Int × Int × List (TT n)

def TT.kind : {n : Nat} → TT n → Int
  | 0, t => Empty.elim t
  | _ + 1, t => t.1
def TT.r : {n : Nat} → TT n → Int
  | 0, t => Empty.elim t
  | _ + 1, t => t.2.1
def TT.len : {n : Nat} → TT n → Nat
  | 0, t => Empty.elim t
  | _ + 1, t => t.2.2.length

/-- Of how many types a type is. -/
def TT.count : {n : Nat} → TT n → Nat
  | 0, t => Empty.elim t
  | n + 1, t => 1 + (t.2.2.map (TT.count (n := n))).sum

/-- How deep types stand in it. -/
def TT.height : {n : Nat} → TT n → Nat
  | 0, t => Empty.elim t
  | n + 1, t => (t.2.2.map (fun x => 1 + TT.height (n := n) x)).foldl max 0

/-- The code of a type apart from what its fields are. -/
def ownC (k r : Int) (len : Nat) (regs : Int) : Int :=
  if k < 1 ∨ 4 < k then 3
  else if k = 1 ∧ r ≠ 0 then 4
  else if k ≠ 3 ∧ 0 < len then 4
  else if 8 < len then 2
  else if k ≠ 1 ∧ (r < 0 ∨ regs ≤ r) then 1
  else 0

def firstL {α : Type} (f : α → Int) : List α → Int
  | [] => 0
  | x :: xs => if f x ≠ 0 then f x else firstL f xs

/-- The first code, the outer one first, from the left. -/
def TT.fault : {n : Nat} → Int → TT n → Int
  | 0, _, t => Empty.elim t
  | n + 1, regs, t => if ownC t.1 t.2.1 t.2.2.length regs ≠ 0 then ownC t.1 t.2.1 t.2.2.length regs else firstL (TT.fault (n := n) regs) t.2.2

def TT.check {n : Nat} (regs : Int) (t : TT n) : Int := if 4 < t.height then 19 else t.fault regs

/-- The new number of the region. -/
def renR (m : Nat) (too : Nat → Int) (k r : Int) : Option Int :=
  if k = 1 then some r else if r < 0 ∨ (m : Int) ≤ r then none else if too r.toNat < 0 then none else some (too r.toNat)

def renL {α : Type} (f : α → Option α) : List α → Option (List α)
  | [] => some []
  | x :: xs => match f x with
    | none => none
    | some y => match renL f xs with
      | none => none
      | some ys => some (y :: ys)

/-- Renamed: the region i is called 'too i' now, i below m. -/
def TT.ren : {n : Nat} → Nat → (Nat → Int) → TT n → Option (TT n)
  | 0, _, _, t => Empty.elim t
  | n + 1, m, too, t => match renR m too t.1 t.2.1 with
    | none => none
    | some r => match renL (TT.ren (n := n) m too) t.2.2 with
      | none => none
      | some l => some ((t.1, r, l) : Int × Int × List (TT n))

/-- Every number of a region is an int64. -/
def TT.ok : {n : Nat} → TT n → Prop
  | 0, t => Empty.elim t
  | n + 1, t => (-9223372036854775808 ≤ t.2.1 ∧ t.2.1 ≤ 9223372036854775807) ∧ ∀ x ∈ t.2.2, TT.ok (n := n) x

/-! ### laws -/

theorem renL_length {α : Type} {f : α → Option α} : ∀ {l l' : List α}, renL f l = some l' → l'.length = l.length
  | [], l', h => by simp [renL] at h; subst h; rfl
  | x :: xs, l', h => by
    simp only [renL] at h
    cases hx : f x with
    | none => simp [hx] at h
    | some y =>
      simp only [hx] at h
      cases hs : renL f xs with
      | none => simp [hs] at h
      | some ys =>
        simp only [hs, Option.some.injEq] at h
        subst h
        simp [renL_length hs]

/-- Renamed element by element. -/
theorem renL_iff {α : Type} {f : α → Option α} : ∀ {l l' : List α}, renL f l = some l' ↔ (l'.length = l.length ∧ ∀ (i : Nat) x, l[i]? = some x → f x = l'[i]?)
  | [], l' => by
    simp only [renL, Option.some.injEq]
    constructor
    · intro h; subst h; simp
    · intro h; exact (List.length_eq_zero_iff.1 h.1).symm
  | x :: xs, l' => by
    simp only [renL]
    constructor
    · intro h
      cases hx : f x with
      | none => simp [hx] at h
      | some y =>
        simp only [hx] at h
        cases hs : renL f xs with
        | none => simp [hs] at h
        | some ys =>
          simp only [hs, Option.some.injEq] at h
          subst h
          obtain ⟨h1, h2⟩ := renL_iff.1 hs
          refine ⟨by simp [h1], fun i z hz => ?_⟩
          cases i with
          | zero => simp at hz; subst hz; simpa using hx
          | succ i => simpa using h2 i z (by simpa using hz)
    · rintro ⟨h1, h2⟩
      cases l' with
      | nil => simp at h1
      | cons y ys =>
        have hx : f x = some y := by simpa using h2 0 x rfl
        have hs : renL f xs = some ys := renL_iff.2 ⟨by simpa using h1, fun i z hz => by simpa using h2 (i + 1) z (by simpa using hz)⟩
        simp [hx, hs]

theorem renL_none {α : Type} {f : α → Option α} : ∀ {l : List α} {i : Nat} {x : α}, l[i]? = some x → f x = none → renL f l = none
  | [], i, x, h, _ => by simp at h
  | y :: ys, 0, x, h, hf => by simp at h; subst h; simp [renL, hf]
  | y :: ys, i + 1, x, h, hf => by
    have := renL_none (l := ys) (i := i) (by simpa using h) hf
    simp only [renL, this]
    cases f y <;> rfl

theorem firstL_eq {α : Type} {f : α → Int} : ∀ {l : List α} {i : Nat} {x : α}, l[i]? = some x → (∀ (j : Nat) y, j < i → l[j]? = some y → f y = 0) → f x ≠ 0 → firstL f l = f x
  | [], i, x, h, _, _ => by simp at h
  | y :: ys, 0, x, h, _, hf => by simp at h; subst h; simp [firstL, hf]
  | y :: ys, i + 1, x, h, hz, hf => by
    have h0 : f y = 0 := hz 0 y (by omega) rfl
    simp only [firstL, h0, ne_eq, not_true_eq_false, if_false]
    exact firstL_eq (by simpa using h) (fun j z hj hjz => hz (j + 1) z (by omega) (by simpa using hjz)) hf

theorem firstL_zero {α : Type} {f : α → Int} : ∀ {l : List α}, (∀ (j : Nat) y, l[j]? = some y → f y = 0) → firstL f l = 0
  | [], _ => rfl
  | y :: ys, h => by
    have h0 : f y = 0 := h 0 y rfl
    simp only [firstL, h0, ne_eq, not_true_eq_false, if_false]
    exact firstL_zero (fun j z hz => h (j + 1) z (by simpa using hz))

theorem firstL_zero_iff {α : Type} {f : α → Int} : ∀ {l : List α}, firstL f l = 0 ↔ ∀ x ∈ l, f x = 0
  | [] => by simp [firstL]
  | y :: ys => by
    simp only [firstL]
    by_cases h : f y = 0
    · simp [h, firstL_zero_iff]
    · simp [h]

theorem firstL_congr {α β : Type} {f : α → Int} {g : β → Int} : ∀ {l : List α} {l' : List β}, l'.length = l.length → (∀ (i : Nat) x y, l[i]? = some x → l'[i]? = some y → f x = g y) → firstL f l = firstL g l'
  | [], [], _, _ => rfl
  | [], _ :: _, h, _ => by simp at h
  | _ :: _, [], h, _ => by simp at h
  | x :: xs, y :: ys, h, k => by
    have h0 : f x = g y := k 0 x y rfl rfl
    have h1 := firstL_congr (f := f) (g := g) (l := xs) (l' := ys) (by simpa using h) (fun i a b ha hb => k (i + 1) a b (by simpa using ha) (by simpa using hb))
    simp only [firstL, h0, h1]

theorem TT.count_pos : {n : Nat} → (t : TT n) → 1 ≤ t.count
  | 0, t => Empty.elim t
  | n + 1, t => by simp only [TT.count]; omega

theorem sum_take_le (l : List Nat) : ∀ i, (l.take i).sum ≤ l.sum := by
  intro i
  have := congrArg List.sum (List.take_append_drop i l)
  rw [List.sum_append] at this
  omega

theorem length_le_sum : ∀ (l : List Nat), (∀ x ∈ l, 1 ≤ x) → l.length ≤ l.sum
  | [], _ => by simp
  | x :: xs, h => by
    have h1 := h x (by simp)
    have h2 := length_le_sum xs (fun y hy => h y (by simp [hy]))
    simp only [List.length_cons, List.sum_cons]
    omega

theorem TT.len_lt_count : {n : Nat} → (t : TT n) → t.len < t.count
  | 0, t => Empty.elim t
  | n + 1, t => by
    have := length_le_sum (t.2.2.map (TT.count (n := n))) (fun x hx => by simp only [List.mem_map] at hx; obtain ⟨y, _, rfl⟩ := hx; exact y.count_pos)
    simp only [TT.count, TT.len]
    simp at this
    omega

theorem le_sum_of_mem : ∀ {l : List Nat} {x : Nat}, x ∈ l → x ≤ l.sum
  | y :: ys, x, h => by
    rcases List.mem_cons.1 h with rfl | h
    · simp
    · have := le_sum_of_mem h
      simp only [List.sum_cons]; omega

theorem TT.count_kid {n : Nat} (t : TT (n + 1)) {x : TT n} (h : x ∈ t.2.2) : x.count < t.count := by
  have := le_sum_of_mem (l := t.2.2.map (TT.count (n := n))) (List.mem_map_of_mem h)
  simp only [TT.count]
  omega

/-! ### the height -/

theorem foldl_max_le {l : List Nat} {a m : Nat} : l.foldl max a ≤ m ↔ a ≤ m ∧ ∀ x ∈ l, x ≤ m := by
  induction l generalizing a with
  | nil => simp
  | cons y ys ih =>
    simp only [List.foldl_cons, ih, List.mem_cons, forall_eq_or_imp, Nat.max_le, and_assoc]

theorem height_le {n : Nat} {t : TT (n + 1)} {m : Nat} : t.height ≤ m ↔ ∀ x ∈ t.2.2, 1 + x.height ≤ m := by
  simp only [TT.height, foldl_max_le, List.mem_map, Nat.zero_le, true_and, forall_exists_index, and_imp, forall_apply_eq_imp_iff₂]

/-! ### two renamings -/

theorem TT.ren_ren {m m' : Nat} {too too' too'' : Nat → Int} (h1 : ∀ k r r' r'', renR m too k r = some r' → renR m' too' k r' = some r'' → renR m too'' k r = some r'') :
    {n : Nat} → {t u v : TT n} → t.ren m too = some u → u.ren m' too' = some v → t.ren m too'' = some v
  | 0, t, _, _, _, _ => Empty.elim t
  | n + 1, t, u, v, hu, hv => by
    simp only [TT.ren] at hu hv ⊢
    cases e1 : renR m too t.1 t.2.1 with
    | none => simp [e1] at hu
    | some r1 =>
      simp only [e1] at hu
      cases e2 : renL (TT.ren m too) t.2.2 with
      | none => simp [e2] at hu
      | some l1 =>
        simp only [e2] at hu
        have hu := Option.some.inj hu
        subst hu
        simp only at hv
        cases e3 : renR m' too' t.1 r1 with
        | none => simp [e3] at hv
        | some r2 =>
          simp only [e3] at hv
          cases e4 : renL (TT.ren m' too') l1 with
          | none => simp [e4] at hv
          | some l2 =>
            simp only [e4] at hv
            have hv := Option.some.inj hv
            subst hv
            rw [h1 _ _ _ _ e1 e3]
            have e5 : renL (TT.ren m too'') t.2.2 = some l2 := by
              obtain ⟨a1, a2⟩ := renL_iff.1 e2
              obtain ⟨b1, b2⟩ := renL_iff.1 e4
              refine renL_iff.2 ⟨b1.trans a1, fun i x hx => ?_⟩
              have hi : i < l1.length := by rw [a1]; exact (List.getElem?_eq_some_iff.1 hx).1
              have ha := a2 i x hx
              rw [List.getElem?_eq_getElem hi] at ha
              have hb := b2 i l1[i] (List.getElem?_eq_getElem hi)
              have hi2 : i < l2.length := by omega
              rw [List.getElem?_eq_getElem hi2] at hb ⊢
              exact TT.ren_ren h1 ha hb
            simp only [e5]

/-- What is renamed over regions that all have a name is renamed. -/
theorem TT.ren_some {m : Nat} {too : Nat → Int} (P : Int → Int → Prop) (h1 : ∀ k r, P k r → ∃ r', renR m too k r = some r') :
    {n : Nat} → (Q : {n : Nat} → TT n → Prop) → (∀ {n : Nat} (t : TT (n + 1)), Q t → P t.1 t.2.1 ∧ ∀ x ∈ t.2.2, Q x) → (t : TT n) → Q t → ∃ u, t.ren m too = some u
  | 0, _, _, t, _ => Empty.elim t
  | n + 1, Q, hQ, t, hq => by
    obtain ⟨p1, p2⟩ := hQ t hq
    obtain ⟨r', hr⟩ := h1 _ _ p1
    have : ∃ l', renL (TT.ren m too) t.2.2 = some l' := by
      generalize t.2.2 = l at p2
      induction l with
      | nil => exact ⟨[], rfl⟩
      | cons x xs ih =>
        obtain ⟨u, hu⟩ := TT.ren_some P h1 Q hQ x (p2 x (by simp))
        obtain ⟨us, hus⟩ := ih (fun y hy => p2 y (by simp [hy]))
        exact ⟨u :: us, by simp [renL, hu, hus]⟩
    obtain ⟨l', hl⟩ := this
    exact ⟨((t.1, r', l') : Int × Int × List (TT n)), by simp only [TT.ren, hr, hl]⟩

theorem TT.ren_height {m : Nat} {too : Nat → Int} : {n : Nat} → {t u : TT n} → t.ren m too = some u → u.height = t.height
  | 0, t, _, _ => Empty.elim t
  | n + 1, t, u, h => by
    simp only [TT.ren] at h
    cases e1 : renR m too t.1 t.2.1 with
    | none => simp [e1] at h
    | some r1 =>
      simp only [e1] at h
      cases e2 : renL (TT.ren m too) t.2.2 with
      | none => simp [e2] at h
      | some l1 =>
        simp only [e2] at h
        have h := Option.some.inj h
        subst h
        simp only [TT.height]
        congr 1
        obtain ⟨a1, a2⟩ := renL_iff.1 e2
        apply List.ext_getElem (by simp [a1])
        intro i h1 h2
        simp at h1 h2
        have ha := a2 i t.2.2[i] (List.getElem?_eq_getElem h2)
        rw [List.getElem?_eq_getElem h1] at ha
        simp [TT.ren_height ha]

theorem TT.ren_fault {m : Nat} {too : Nat → Int} {regs : Int} (h1 : ∀ k r r' len, renR m too k r = some r' → ownC k r' len regs = ownC k r len regs) :
    {n : Nat} → {t u : TT n} → t.ren m too = some u → u.fault regs = t.fault regs
  | 0, t, _, _ => Empty.elim t
  | n + 1, t, u, h => by
    simp only [TT.ren] at h
    cases e1 : renR m too t.1 t.2.1 with
    | none => simp [e1] at h
    | some r1 =>
      simp only [e1] at h
      cases e2 : renL (TT.ren m too) t.2.2 with
      | none => simp [e2] at h
      | some l1 =>
        simp only [e2] at h
        have h := Option.some.inj h
        subst h
        obtain ⟨a1, a2⟩ := renL_iff.1 e2
        have hf : firstL (TT.fault regs) l1 = firstL (TT.fault regs) t.2.2 := by
          refine firstL_congr a1.symm (fun i x y hx hy => ?_)
          have ha := a2 i y hy
          rw [hx] at ha
          exact TT.ren_fault h1 ha
        simp only [TT.fault, a1, h1 _ _ _ _ e1, hf]

theorem TT.fault_zero {n : Nat} {t : TT (n + 1)} {regs : Int} (h : t.fault regs = 0) : ownC t.1 t.2.1 t.2.2.length regs = 0 ∧ ∀ x ∈ t.2.2, x.fault regs = 0 := by
  simp only [TT.fault] at h
  split at h
  · contradiction
  · rename_i h1
    exact ⟨by simpa using h1, firstL_zero_iff.1 h⟩
end Go.Proofs.Ytcenkidhaoncgad
