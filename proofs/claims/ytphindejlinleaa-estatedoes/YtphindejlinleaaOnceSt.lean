/-
  The list of the pages that are taken, beside the document's pool: how Take, Give and Store turn it, and how long it is. Plain mathematics.
-/
import Derived.Test.YtphindejlinleaaPoolSt
namespace Go.Proofs.Ytphindejlinleaa
open Go.RowKit
set_option linter.unusedVariables false

theorem full_of_all : ∀ (n : Nat) (l : List Int), l.Nodup → (∀ x, x ∈ l ↔ 0 ≤ x ∧ x < n) → l.length = n := by
  intro n
  induction n with
  | zero =>
    intro l _ h
    cases l with
    | nil => rfl
    | cons x r => have := (h x).1 (by simp); omega
  | succ n ih =>
    intro l hn h
    have h1 := ih (l.erase (n : Int)) (hn.erase _) (fun x => by
      rw [List.Nodup.mem_erase_iff hn, h x]
      omega)
    have hm : (n : Int) ∈ l := (h n).2 (by omega)
    have := List.length_erase_of_mem hm
    have h0 : 0 < l.length := List.length_pos_of_mem hm
    omega

theorem took_iff (s : St) (k : Int) : s.took k = true ↔ 0 ≤ k ∧ k < s.fresh ∧ k ∉ s.given := by
  simp [St.took, hasB, and_assoc]

/-- T: the pages that are taken. -/
structure Tk (s : St) (T : List Int) : Prop where
  nodup : T.Nodup
  mem : ∀ k, k ∈ T ↔ 0 ≤ k ∧ k < s.fresh ∧ k ∉ s.given

theorem Tk.new (n : Nat) : Tk (St.new n) [] := ⟨by simp, fun k => by simp [St.new] <;> omega⟩

theorem Tk.len {s : St} {T : List Int} (h : Tk s T) (hs : s.Ok) : (T.length : Int) = s.fresh - s.given.length := by
  obtain ⟨n, hn⟩ := Int.eq_ofNat_of_zero_le hs.low
  have hd : (T ++ s.given).Nodup := by
    rw [List.nodup_append]
    refine ⟨h.nodup, hs.nodup, fun a ha c hc e => ?_⟩
    subst e
    exact ((h.mem a).1 ha).2.2 hc
  have := full_of_all n (T ++ s.given) hd (fun x => by
    rw [List.mem_append, h.mem x]
    constructor
    · rintro (h1 | h1)
      · omega
      · have := hs.mem x h1; omega
    · intro h1
      by_cases hg : x ∈ s.given
      · exact Or.inr hg
      · exact Or.inl ⟨h1.1, by omega, hg⟩)
  rw [List.length_append] at this
  omega

theorem Tk.free {s : St} {T : List Int} (h : Tk s T) (hs : s.Ok) : s.free = s.pages - T.length := by
  have := h.len hs
  unfold St.free; omega

theorem Tk.none {s : St} {T : List Int} (h : Tk s T) (hs : s.Ok) (hk : s.nextK < 0) : (T.length : Int) = s.pages := by
  have hl := h.len hs
  unfold St.nextK at hk
  split at hk
  · rename_i k e
    have := hs.mem k (List.mem_of_getLast? e)
    omega
  · rename_i e
    have hg : s.given = [] := by simpa using e
    split at hk
    · rw [hg] at hl; simp at hl; omega
    · have := hs.low; omega
theorem St.take_none {s : St} (hs : s.Ok) (hk : s.nextK < 0) : s.take = s := by
  have h2 : s.take = s.next := by simp [St.take, hk]
  rw [h2]
  unfold St.nextK at hk
  unfold St.next
  split at hk
  · rename_i k e
    have := hs.mem k (List.mem_of_getLast? e)
    omega
  · split at hk
    · rename_i e; simp [e]
    · have := hs.low; omega

theorem Tk.take {s : St} {T : List Int} (h : Tk s T) (hs : s.Ok) (hk : 0 ≤ s.nextK) : s.nextK ∉ T ∧ Tk s.take (T ++ [s.nextK]) := by
  have h2 : s.take = s.next.wipe s.nextK := by simp [St.take]; omega
  have e1 : s.take.given = s.next.given := by rw [h2]; rfl
  have e2 : s.take.fresh = s.next.fresh := by rw [h2]; rfl
  have hno : s.nextK ∉ T := by
    intro hm
    have hm' := (h.mem _).1 hm
    unfold St.nextK at hm' hk
    split at hk
    · rename_i k e
      rw [e] at hm'
      exact hm'.2.2 (List.mem_of_getLast? e)
    · rename_i e
      rw [e] at hm'
      split at hk
      · omega
      · rename_i e'
        simp [e'] at hm'
  refine ⟨hno, ?_, fun k => ?_⟩
  · rw [List.nodup_append]
    refine ⟨h.nodup, by simp, fun a ha c hc e => ?_⟩
    simp at hc; subst hc; subst e; exact hno ha
  · rw [e1, e2, List.mem_append, h.mem k, List.mem_singleton]
    have hlow := hs.low
    unfold St.nextK at hk ⊢
    unfold St.next
    split at hk
    · rename_i q e
      obtain ⟨ys, hys⟩ : ∃ ys, s.given = ys ++ [q] := by
        rcases List.eq_nil_or_concat s.given with h' | ⟨ys, b, h'⟩
        · rw [h'] at e; simp at e
        · rw [h'] at e; simp at e; exact ⟨ys, by simpa [e] using h'⟩
      have hnd := hs.nodup
      have hqm := hs.mem q (by rw [hys]; simp)
      rw [hys, List.nodup_append] at hnd
      have htk : List.take (s.given.length - 1) s.given = ys := by rw [hys]; simp
      simp only [htk]
      rw [hys]
      simp only [List.mem_append, List.mem_singleton]
      constructor
      · rintro (⟨a, b, c⟩ | rfl)
        · exact ⟨a, b, fun h => c (Or.inl h)⟩
        · exact ⟨hqm.1, hqm.2, fun h => hnd.2.2 _ h _ (by simp) rfl⟩
      · rintro ⟨a, b, c⟩
        by_cases e : k = q
        · exact Or.inr e
        · exact Or.inl ⟨a, b, fun h => h.elim c e⟩
    · rename_i e
      have hg : s.given = [] := by simpa using e
      split at hk
      · omega
      · rename_i e'
        simp only [e', hg]
        simp
        omega

theorem Tk.store {s : St} {T : List Int} (h : Tk s T) (k x : Int) : Tk (s.store k x) T := by
  unfold St.store; split
  · exact ⟨h.nodup, h.mem⟩
  · exact h

/-- Those but one. -/
def but (T : List Int) (k : Int) : List Int := T.filter (fun x => x != k)
theorem but_len (T : List Int) (k : Int) : (but T k).length ≤ T.length := List.length_filter_le _ _
theorem but_snoc (T : List Int) (k x : Int) : but (T ++ [x]) k = if x = k then but T k else but T k ++ [x] := by
  unfold but; rw [List.filter_append]
  by_cases h : x = k <;> simp [h]
theorem but_take_succ (T : List Int) (k : Int) (j : Nat) (hj : j < T.length) : but (T.take (j + 1)) k = if T.getD j 0 = k then but (T.take j) k else but (T.take j) k ++ [T.getD j 0] := by
  rw [List.take_succ_eq_append_getElem hj, but_snoc]
  simp [List.getD, hj]
theorem but_take_len (T : List Int) (k : Int) (j : Nat) : (but (T.take j) k).length ≤ T.length := Nat.le_trans (but_len _ _) (List.length_take_le' _ _)
theorem Tk.give {s : St} {T : List Int} (h : Tk s T) (k : Int) : Tk (s.give k) (but T k) ∧ s.took k = decide (((but T k).length : Int) < T.length) := by
  by_cases ht : s.took k = true
  · have ht' := (took_iff s k).1 ht
    have hm : k ∈ T := (h.mem k).2 ht'
    refine ⟨⟨h.nodup.sublist (List.filter_sublist), fun q => ?_⟩, ?_⟩
    · have e : s.give k = { s with given := s.given ++ [k] } := by simp [St.give, ht]
      rw [e]
      simp only [but, List.mem_filter, h.mem q, List.mem_append, List.mem_singleton]
      simp
      constructor
      · rintro ⟨⟨a, b, c⟩, d⟩; exact ⟨a, b, c, d⟩
      · rintro ⟨a, b, c, d⟩; exact ⟨⟨a, b, c⟩, d⟩
    · have hlt : (but T k).length < T.length := by
        unfold but
        rcases Nat.lt_or_ge (T.filter (fun x => x != k)).length T.length with h' | h'
        · exact h'
        · have := List.length_filter_eq_length_iff.1 (Nat.le_antisymm (List.length_filter_le _ _) h') k hm
          simp at this
      rw [ht]; simp; omega
  · have hf : s.took k = false := by simpa using ht
    have hm : k ∉ T := fun hm => ht ((took_iff s k).2 ((h.mem k).1 hm))
    have e : but T k = T := by
      unfold but
      rw [List.filter_eq_self]
      intro a ha
      simp; intro e; subst e; exact hm ha
    have e2 : s.give k = s := by simp [St.give, hf]
    rw [e, e2, hf]
    exact ⟨h, by simp⟩

theorem take_words {s : St} (hs : s.Ok) {k : Nat} (hk : s.nextK = k) (j : Nat) (hj : j < 16) : s.take.load ((k : Int) * 16 + j) = 0 ∧ s.take.place ((k : Int) * 16 + j) = true := by
  have hlt := (St.nextK_lt hs).2
  have hp : s.take.place ((k : Int) * 16 + j) = true := by simp [St.place]; omega
  refine ⟨?_, hp⟩
  have h2 : s.take = s.next.wipe s.nextK := by simp [St.take]; omega
  simp only [St.load, hp, if_true]
  rw [h2, hk]
  simp only [St.wipe]
  rw [if_pos (by omega)]

#print axioms Tk.take
end Go.Proofs.Ytphindejlinleaa
