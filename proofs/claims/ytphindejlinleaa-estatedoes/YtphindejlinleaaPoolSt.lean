/-
  The pool of pages as the document has it: its words by their places, the pages that were given back in the order in which they came, the lowest page that was never taken; what Take, Give, Free, Store and Load make of it. Plain mathematics.
-/
import Derived.Test.YtphindejlinleaaCore
namespace Go.Proofs.Ytphindejlinleaa
open Go.RowKit
set_option linter.unusedVariables false

theorem short_of_nodup : ∀ (n : Nat) (l : List Int), l.Nodup → (∀ x, x ∈ l → 0 ≤ x ∧ x < n) → l.length ≤ n := by
  intro n
  induction n with
  | zero =>
    intro l _ h
    cases l with
    | nil => simp
    | cons x r => have := h x (by simp); omega
  | succ n ih =>
    intro l hn h
    have h1 := ih (l.erase (n : Int)) (hn.erase _) (fun x hx => by
      have hx' := (List.Nodup.mem_erase_iff hn).1 hx
      have := h x hx'.2
      have := hx'.1
      omega)
    have := List.length_erase (a := (n : Int)) (l := l)
    split at this <;> omega

structure St where
  pages : Nat
  ws : Nat → Int
  given : List Int
  fresh : Int

structure St.Ok (s : St) : Prop where
  most : s.pages ≤ 64
  low : 0 ≤ s.fresh
  high : s.fresh ≤ s.pages
  nodup : s.given.Nodup
  mem : ∀ k, k ∈ s.given → 0 ≤ k ∧ k < s.fresh

theorem St.Ok.len {s : St} (h : s.Ok) : (s.given.length : Int) ≤ s.fresh := by
  obtain ⟨n, hn⟩ := Int.eq_ofNat_of_zero_le h.low
  have := short_of_nodup n s.given h.nodup (fun x hx => by have := h.mem x hx; omega)
  omega

def St.new (pages : Nat) : St := ⟨pages, fun _ => 0, [], 0⟩
theorem St.ok_new (pages : Nat) (h : pages ≤ 64) : (St.new pages).Ok := ⟨h, Int.le_refl _, by simp [St.new], by simp [St.new], by simp [St.new]⟩

/-- The words of a page are 0. -/
def St.wipe (s : St) (k : Int) : St := { s with ws := fun i => if k * 16 ≤ (i : Int) ∧ (i : Int) < k * 16 + 16 then 0 else s.ws i }
/-- Is it on the list? -/
def hasB (xs : List Int) (x : Int) : Bool := xs.contains x
def St.took (s : St) (k : Int) : Bool := decide (0 ≤ k) && decide (k < s.fresh) && !hasB s.given k
def St.give (s : St) (k : Int) : St := if s.took k then { s with given := s.given ++ [k] } else s
def St.free (s : St) : Int := s.pages - s.fresh + s.given.length
def St.place (s : St) (k : Int) : Bool := decide (0 ≤ k) && decide (k < 16 * s.pages)
def St.store (s : St) (k : Int) (n : Int) : St := if s.place k then { s with ws := fun i => if (i : Int) = k then n else s.ws i } else s
def St.load (s : St) (k : Int) : Int := if s.place k then s.ws k.toNat else 0
/-- The page that goes out next, and what is left then; the words as they were. -/
def St.nextK (s : St) : Int := match s.given.getLast? with | some k => k | none => if s.fresh = s.pages then -1 else s.fresh
def St.next (s : St) : St := match s.given.getLast? with | some _ => { s with given := s.given.take (s.given.length - 1) } | none => if s.fresh = s.pages then s else { s with fresh := s.fresh + 1 }
def St.take (s : St) : St := if s.nextK < 0 then s.next else s.next.wipe s.nextK

theorem St.ok_wipe {s : St} (h : s.Ok) (k : Int) : (s.wipe k).Ok := ⟨h.most, h.low, h.high, h.nodup, h.mem⟩
theorem St.ok_store {s : St} (h : s.Ok) (k n : Int) : (s.store k n).Ok := by
  unfold St.store; split
  · exact ⟨h.most, h.low, h.high, h.nodup, h.mem⟩
  · exact h
theorem St.ok_give {s : St} (h : s.Ok) (k : Int) : (s.give k).Ok := by
  unfold St.give; split
  · rename_i ht
    simp [St.took, hasB] at ht
    refine ⟨h.most, h.low, h.high, ?_, ?_⟩
    · rw [List.nodup_append]
      refine ⟨h.nodup, by simp, ?_⟩
      intro a ha c hc
      simp at hc; subst hc
      intro e; subst e; exact ht.2 ha
    · intro x hx
      simp at hx
      rcases hx with hx | hx
      · exact h.mem x hx
      · subst hx; exact ht.1
  · exact h
theorem St.ok_next {s : St} (h : s.Ok) : s.next.Ok := by
  unfold St.next; split
  · exact ⟨h.most, h.low, h.high, h.nodup.sublist (List.take_sublist _ _), fun k hk => h.mem k (List.mem_of_mem_take hk)⟩
  · split
    · exact h
    · refine ⟨h.most, by have := h.low; simp; omega, by have := h.high; simp; omega, h.nodup, fun k hk => ?_⟩
      have := h.mem k hk
      simp; omega
theorem St.ok_take {s : St} (h : s.Ok) : s.take.Ok := by
  unfold St.take; split
  · exact St.ok_next h
  · exact St.ok_wipe (St.ok_next h) _
theorem St.nextK_lt {s : St} (h : s.Ok) : -1 ≤ s.nextK ∧ s.nextK < s.pages := by
  have := h.high; have := h.low
  unfold St.nextK; split
  · rename_i k e
    have := h.mem k (List.mem_of_getLast? e)
    omega
  · split <;> omega
@[simp] theorem St.pages_wipe (s : St) (k : Int) : (s.wipe k).pages = s.pages := rfl
@[simp] theorem St.pages_next (s : St) : s.next.pages = s.pages := by
  unfold St.next; split
  · rfl
  · split <;> rfl
@[simp] theorem St.pages_take (s : St) : s.take.pages = s.pages := by unfold St.take; split <;> simp
@[simp] theorem St.pages_give (s : St) (k : Int) : (s.give k).pages = s.pages := by unfold St.give; split <;> rfl
@[simp] theorem St.pages_store (s : St) (k n : Int) : (s.store k n).pages = s.pages := by unfold St.store; split <;> rfl

#print axioms St.ok_take
end Go.Proofs.Ytphindejlinleaa
