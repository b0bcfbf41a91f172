/-
  How many pages a region has, and how many words of the last one are in use: what Open, Shut and Get make of these; a page is to be had just if not all are taken. Plain mathematics.
-/
import Derived.Test.YtphindejlinleaaEstSt
namespace Go.Proofs.Ytphindejlinleaa
open Go.RowKit
set_option linter.unusedVariables false

def Est.usedAt (e : Est) (k : Nat) : Int := match e.reg k with | some r => r.used | none => 0
def Est.lenAt (e : Est) (k : Nat) : Int := (e.pagesAt k).length

theorem St.nextK_iff {s : St} (h : s.Ok) : s.nextK < 0 ↔ s.free = 0 := by
  have hl := h.low
  have hh := h.high
  unfold St.nextK St.free
  split
  · rename_i k e
    have hm := h.mem k (List.mem_of_getLast? e)
    have hlen := h.len
    have : 0 < s.given.length := List.length_pos_of_mem (List.mem_of_getLast? e)
    omega
  · rename_i e
    have hg : s.given = [] := by simpa using e
    rw [hg]
    split
    · rename_i e'; simp; omega
    · rename_i e'; simp; omega
theorem Est.Ok.full {e : Est} (h : e.Ok) : e.p.nextK < 0 ↔ (e.all.length : Int) = e.p.pages := by
  rw [St.nextK_iff h.ok, h.free]; omega

theorem Est.len_opened {e : Est} (h : e.Ok) : e.opened.lenAt = e.lenAt ∧ e.opened.usedAt = e.usedAt := by
  rcases exists_free e.reg 16 with h1 | ⟨k, h1, h2, h3⟩
  · rw [(Est.open_no h1).2]; exact ⟨rfl, rfl⟩
  · rw [(Est.open_yes h3 h1 h2).2]
    constructor
    · funext j
      unfold Est.lenAt
      rw [Est.pagesAt_set]
      by_cases e' : j = k
      · subst e'; simp [Est.pagesAt, h2]
      · simp [e']
    · funext j
      unfold Est.usedAt Est.set
      by_cases e' : j = k
      · subst e'; simp [h2]
      · simp [e']
theorem Est.len_shut {e : Est} {k : Nat} {r : Reg} (hk : k < 16) (hr : e.reg k = some r) : (e.shut k).lenAt = (fun j => if j = k then 0 else e.lenAt j) ∧ (e.shut k).usedAt = (fun j => if j = k then 0 else e.usedAt j) := by
  rw [Est.shut_yes hk hr]
  constructor
  · funext j
    show (((e.set k none).pagesAt j).length : Int) = _
    rw [Est.pagesAt_set]
    by_cases e' : j = k
    · subst e'; simp
    · simp [e', Est.lenAt]
  · funext j
    show (match (e.set k none).reg j with | some r => r.used | none => 0) = _
    unfold Est.set Est.usedAt
    by_cases e' : j = k
    · subst e'; simp
    · simp [e']
theorem Est.len_room {e : Est} {k : Nat} {r : Reg} (hr : e.reg k = some r) (n : Int) : (e.set k (some ⟨r.pages, r.used + n⟩)).lenAt = e.lenAt ∧ (e.set k (some ⟨r.pages, r.used + n⟩)).usedAt = (fun j => if j = k then e.usedAt k + n else e.usedAt j) := by
  constructor
  · funext j
    unfold Est.lenAt
    rw [Est.pagesAt_set]
    by_cases e' : j = k
    · subst e'; simp [Est.pagesAt, hr]
    · simp [e']
  · funext j
    unfold Est.set Est.usedAt
    by_cases e' : j = k
    · subst e'; simp [hr]
    · simp [e']
theorem Est.len_more {e : Est} {k : Nat} {r : Reg} (hr : e.reg k = some r) (q n : Int) (s : St) : ((e.set k (some ⟨r.pages ++ [q], n⟩)).withP s).lenAt = (fun j => if j = k then e.lenAt k + 1 else e.lenAt j) ∧ ((e.set k (some ⟨r.pages ++ [q], n⟩)).withP s).usedAt = (fun j => if j = k then n else e.usedAt j) := by
  constructor
  · funext j
    show (((e.set k (some ⟨r.pages ++ [q], n⟩)).pagesAt j).length : Int) = _
    rw [Est.pagesAt_set]
    by_cases e' : j = k
    · subst e'; simp [Est.lenAt, Est.at_some hr]
    · simp [e', Est.lenAt]
  · funext j
    show (match (e.set k (some ⟨r.pages ++ [q], n⟩)).reg j with | some r => r.used | none => 0) = _
    unfold Est.set Est.usedAt
    by_cases e' : j = k
    · subst e'; simp
    · simp [e']
theorem Est.Ok.lenAt_le {e : Est} (h : e.Ok) (k : Nat) : 0 ≤ e.lenAt k ∧ e.lenAt k ≤ 64 := by
  have := h.len k
  unfold Est.lenAt; omega
theorem Est.Ok.usedAt_le {e : Est} (h : e.Ok) (k : Nat) : 0 ≤ e.usedAt k ∧ e.usedAt k ≤ 16 := by
  unfold Est.usedAt
  split
  · rename_i r hr; exact h.used k r hr
  · omega
theorem Est.allTo_succ (e : Est) (k : Nat) : ((e.allTo (k + 1)).length : Int) = (e.allTo k).length + e.lenAt k := by
  rw [Est.allTo, List.length_append]; unfold Est.lenAt; omega
theorem Est.more_at {e : Est} {k : Nat} {r : Reg} (hr : e.reg k = some r) {n : Int} (hn : 1 ≤ n) : r.more n = (e.lenAt k == 0 || decide (16 < e.usedAt k + n)) := by
  have h1 : e.usedAt k = r.used := by simp [Est.usedAt, hr]
  have h2 : e.lenAt k = r.pages.length := by simp [Est.lenAt, Est.at_some hr]
  rw [h1, h2, Bool.eq_iff_iff, Reg.more_iff hn]
  by_cases h3 : r.pages = []
  · simp [h3]
  · simp [h3]; omega

#print axioms Est.more_at
end Go.Proofs.Ytphindejlinleaa
