/-
  Names are names: renamed and then back it is the same; renamed twice it is renamed at once. On plain trees.
-/
import Derived.Test.YtpcnlplcpoohgabDoorTypSt
namespace Go.Proofs.YtpcnlplcpoohgabDoor
set_option linter.unusedVariables false

theorem ren_parts {m : Nat} {nm : Nat → Int} {n : Nat} {t u : TT (n + 1)} (h : t.ren m nm = some u) : u.1 = t.1 ∧ renR m nm t.1 t.2.1 = some u.2.1 ∧ renL (TT.ren m nm) t.2.2 = some u.2.2 := by
  simp only [TT.ren] at h
  cases e1 : renR m nm t.1 t.2.1 with
  | none => simp [e1] at h
  | some r1 =>
    simp only [e1] at h
    cases e2 : renL (TT.ren m nm) t.2.2 with
    | none => simp [e2] at h
    | some l1 =>
      simp only [e2] at h
      have h := Option.some.inj h
      subst h
      exact ⟨rfl, rfl, rfl⟩
theorem ren_make {m : Nat} {nm : Nat → Int} {n : Nat} {t : TT (n + 1)} {r : Int} {l : List (TT n)} (h1 : renR m nm t.1 t.2.1 = some r) (h2 : renL (TT.ren m nm) t.2.2 = some l) : t.ren m nm = some ((t.1, r, l) : Int × Int × List (TT n)) := by
  simp only [TT.ren, h1, h2]
  rfl

theorem TT.ren_inv {m m' : Nat} {nm nm' : Nat → Int} (h1 : ∀ k r r', renR m nm k r = some r' → renR m' nm' k r' = some r) : {n : Nat} → {t u : TT n} → t.ren m nm = some u → u.ren m' nm' = some t
  | 0, t, _, _ => Empty.elim t
  | n + 1, t, u, h => by
    obtain ⟨e1, e2, e3⟩ := ren_parts h
    obtain ⟨a1, a2⟩ := renL_iff.1 e3
    have e5 : renL (TT.ren m' nm') u.2.2 = some t.2.2 := by
      refine renL_iff.2 ⟨a1.symm, fun i x hx => ?_⟩
      have hi : i < t.2.2.length := by rw [← a1]; exact (List.getElem?_eq_some_iff.1 hx).1
      have ha := a2 i t.2.2[i] (List.getElem?_eq_getElem hi)
      rw [hx] at ha
      rw [List.getElem?_eq_getElem hi]
      exact TT.ren_inv h1 ha
    have := ren_make (t := u) (by rw [e1]; exact h1 _ _ _ e2) e5
    rw [this, e1]
    rfl

theorem TT.ren_comp {m m' m'' : Nat} {nm nm' nm'' : Nat → Int} (h1 : ∀ k r r', renR m nm k r = some r' → ∃ r'', renR m' nm' k r' = some r'' ∧ renR m'' nm'' k r = some r'') : {n : Nat} → {t u : TT n} → t.ren m nm = some u → ∃ v, u.ren m' nm' = some v ∧ t.ren m'' nm'' = some v
  | 0, t, _, _ => Empty.elim t
  | n + 1, t, u, h => by
    obtain ⟨e1, e2, e3⟩ := ren_parts h
    obtain ⟨r'', f1, f2⟩ := h1 _ _ _ e2
    obtain ⟨a1, a2⟩ := renL_iff.1 e3
    have key : ∀ (l l' : List (TT n)), l'.length = l.length → (∀ (i : Nat) x, l[i]? = some x → x.ren m nm = l'[i]?) → ∃ l'', renL (TT.ren m' nm') l' = some l'' ∧ renL (TT.ren m'' nm'') l = some l'' := by
      intro l
      induction l with
      | nil =>
        intro l' hl _
        have : l' = [] := List.length_eq_zero_iff.1 hl
        subst this
        exact ⟨[], rfl, rfl⟩
      | cons x xs ih =>
        intro l' hl hp
        cases l' with
        | nil => simp at hl
        | cons y ys =>
          obtain ⟨v, v1, v2⟩ := TT.ren_comp h1 (t := x) (u := y) (by simpa using hp 0 x rfl)
          obtain ⟨vs, w1, w2⟩ := ih ys (by simpa using hl) (fun i z hz => by simpa using hp (i + 1) z (by simpa using hz))
          exact ⟨v :: vs, by simp [renL, v1, w1], by simp [renL, v2, w2]⟩
    obtain ⟨l'', g1, g2⟩ := key t.2.2 u.2.2 a1 a2
    refine ⟨((t.1, r'', l'') : Int × Int × List (TT n)), ?_, ren_make f2 g2⟩
    have := ren_make (t := u) (by rw [e1]; exact f1) g1
    rw [this, e1]
    rfl

/-- The four lists of names. -/
structure Names (k m : Nat) (th bk on both : Nat → Int) : Prop where
  hk : k < 16
  hth : ∀ j, j < 16 → th j = ((j + k) % 16 : Nat)
  hbk : ∀ j, j < 16 → bk ((j + k) % 16) = (j : Int)
  hon : ∀ j, j < 16 → on j = ((j * 3 + m) % 16 : Nat)
  hboth : ∀ j, j < 16 → both j = on ((j + k) % 16)
section
theorem renR_iff {nm : Nat → Int} (h0 : ∀ j, j < 16 → 0 ≤ nm j) {x r r' : Int} : renR 16 nm x r = some r' ↔ (x = 1 ∧ r' = r) ∨ (x ≠ 1 ∧ ∃ j : Nat, j < 16 ∧ r = j ∧ r' = nm j) := by
  unfold renR
  by_cases hx : x = 1
  · simp [hx, eq_comm]
  · rw [if_neg hx]
    by_cases hr : r < 0 ∨ ((16 : Nat) : Int) ≤ r
    · rw [if_pos hr]
      constructor
      · intro h; cases h
      · rintro (⟨h, _⟩ | ⟨_, j, hj, rfl, _⟩)
        · exact absurd h hx
        · omega
    · rw [if_neg hr]
      obtain ⟨j, rfl⟩ := Int.eq_ofNat_of_zero_le (show 0 ≤ r by omega)
      have hj : j < 16 := by omega
      have h1 : ((j : Int)).toNat = j := by simp
      rw [h1, if_neg (by have := h0 j hj; omega)]
      constructor
      · intro h; cases h; exact Or.inr ⟨hx, j, hj, rfl, rfl⟩
      · rintro (⟨h, _⟩ | ⟨_, i, hi, h2, rfl⟩)
        · exact absurd h hx
        · have : i = j := by omega
          rw [this]
theorem mod16 (k j : Nat) : (j + k) % 16 < 16 := Nat.mod_lt _ (by omega)

end
theorem Names.pos {k m : Nat} {th bk on both : Nat → Int} (N : Names k m th bk on both) : (∀ j, j < 16 → 0 ≤ th j) ∧ (∀ j, j < 16 → 0 ≤ bk j) ∧ (∀ j, j < 16 → 0 ≤ on j) ∧ (∀ j, j < 16 → 0 ≤ both j) := by
  have hon : ∀ j, j < 16 → 0 ≤ on j := fun j hj => by rw [N.hon j hj]; omega
  refine ⟨fun j hj => by rw [N.hth j hj]; omega, fun j hj => ?_, hon, fun j hj => by rw [N.hboth j hj]; exact hon _ (mod16 k j)⟩
  have hk := N.hk
  have : ((j + 16 - k) % 16 + k) % 16 = j := by omega
  rw [← this, N.hbk ((j + 16 - k) % 16) (Nat.mod_lt _ (by omega))]
  omega
theorem Names.inv {k m : Nat} {th bk on both : Nat → Int} (N : Names k m th bk on both) (x r r' : Int) (h : renR 16 th x r = some r') : renR 16 bk x r' = some r := by
  rw [renR_iff N.pos.1] at h
  rw [renR_iff N.pos.2.1]
  rcases h with ⟨h1, h2⟩ | ⟨h1, j, hj, rfl, rfl⟩
  · exact Or.inl ⟨h1, h2.symm⟩
  · exact Or.inr ⟨h1, (j + k) % 16, mod16 k j, N.hth j hj, (N.hbk j hj).symm⟩
theorem Names.comp {k m : Nat} {th bk on both : Nat → Int} (N : Names k m th bk on both) (x r r' : Int) (h : renR 16 th x r = some r') : ∃ r'', renR 16 on x r' = some r'' ∧ renR 16 both x r = some r'' := by
  rw [renR_iff N.pos.1] at h
  rcases h with ⟨h1, h2⟩ | ⟨h1, j, hj, rfl, rfl⟩
  · exact ⟨r, (renR_iff N.pos.2.2.1).2 (Or.inl ⟨h1, h2.symm⟩), (renR_iff N.pos.2.2.2).2 (Or.inl ⟨h1, rfl⟩)⟩
  · exact ⟨on ((j + k) % 16), (renR_iff N.pos.2.2.1).2 (Or.inr ⟨h1, (j + k) % 16, mod16 k j, N.hth j hj, rfl⟩), (renR_iff N.pos.2.2.2).2 (Or.inr ⟨h1, j, hj, rfl, (N.hboth j hj).symm⟩)⟩
theorem Names.own {k m : Nat} {th bk on both : Nat → Int} (N : Names k m th bk on both) (x r r' : Int) (len : Nat) (h : renR 16 th x r = some r') : ownC x r' len 16 = ownC x r len 16 := by
  rw [renR_iff N.pos.1] at h
  rcases h with ⟨h1, rfl⟩ | ⟨h1, j, hj, rfl, rfl⟩
  · rfl
  · have h2 := N.hth j hj
    have h3 := mod16 k j
    unfold ownC
    have e1 : (x ≠ 1 ∧ (th j < 0 ∨ (16 : Int) ≤ th j)) ↔ (x ≠ 1 ∧ ((j : Int) < 0 ∨ (16 : Int) ≤ (j : Int))) := by
      constructor <;> rintro ⟨_, h⟩ <;> omega
    simp only [e1, h1, false_and]

/-- What the law asks. -/
theorem Names.law {k m : Nat} {th bk on both : Nat → Int} (N : Names k m th bk on both) {n : Nat} {t u : TT n} (h : t.ren 16 th = some u) :
    u.ren 16 bk = some t ∧ (∃ v, u.ren 16 on = some v ∧ t.ren 16 both = some v) ∧ u.check 16 = t.check 16 :=
  ⟨TT.ren_inv N.inv h, TT.ren_comp N.comp h, by unfold TT.check; rw [TT.ren_height h, TT.ren_fault N.own h]⟩
theorem Names.none {k m : Nat} {th bk on both : Nat → Int} (N : Names k m th bk on both) {n : Nat} {t : TT n} (h : t.ren 16 th = none) : t.check 16 ≠ 0 := by
  intro hc
  have hf : t.fault 16 = 0 := by
    unfold TT.check at hc
    split at hc
    · cases hc
    · exact hc
  obtain ⟨u, hu⟩ := TT.ren_some (m := 16) (to := th) (fun x r => x = 1 ∨ (0 ≤ r ∧ r < 16)) (fun x r hp => by
    rcases hp with h1 | ⟨h1, h2⟩
    · exact ⟨r, (renR_iff N.pos.1).2 (Or.inl ⟨h1, rfl⟩)⟩
    · by_cases hx : x = 1
      · exact ⟨r, (renR_iff N.pos.1).2 (Or.inl ⟨hx, rfl⟩)⟩
      · obtain ⟨j, rfl⟩ := Int.eq_ofNat_of_zero_le h1
        exact ⟨th j, (renR_iff N.pos.1).2 (Or.inr ⟨hx, j, by omega, rfl, rfl⟩)⟩) (fun t => t.fault 16 = 0) (fun t ht => by
      obtain ⟨h1, h2⟩ := TT.fault_zero ht
      refine ⟨?_, h2⟩
      unfold ownC at h1
      by_cases hx : t.1 = 1
      · exact Or.inl hx
      · right
        repeat' split at h1
        all_goals first | omega | skip
        all_goals rename_i hh
        all_goals simp only [ne_eq, hx, not_false_eq_true, true_and] at hh
        all_goals omega) t hf
  rw [h] at hu
  cases hu
end Go.Proofs.YtpcnlplcpoohgabDoor
