/-
  Things that know what they are: the chapter as plain functions. No function of the program is spoken of.
-/
import Derived.Test.YtjhdpajpibdnaaeCore
namespace Go.Proofs.Ytjhdpajpibdnaae
set_option linter.unusedVariables false
set_option linter.unusedSimpArgs false

/-- A value: its kind, region, thing, number. -/
structure HVal where
  kind : Int
  region : Int
  thing : Int
  n : Int
structure HThing where
  arr : Bool
  l : List HVal
structure HPlace where
  there : Bool
  l : List HThing
  pages : Nat
  used : Int
structure HHeap where
  L : List HPlace
  left : Nat
/-- What the kind of a value names; all else of it is 0. -/
def HVal.bare (v : HVal) : HVal := if v.kind = 1 then ⟨1, 0, 0, v.n⟩ else if v.kind = 2 then ⟨2, v.region, 0, 0⟩ else if v.kind = 3 ∨ v.kind = 4 then ⟨v.kind, v.region, v.thing, 0⟩ else ⟨v.kind, 0, 0, 0⟩
def is64 (x : Int) : Prop := -9223372036854775808 ≤ x ∧ x ≤ 9223372036854775807
def HVal.ok (v : HVal) : Prop := is64 v.kind ∧ is64 v.region ∧ is64 v.thing ∧ is64 v.n
def HThing.knd (t : HThing) : Int := if t.arr then 4 else 3
def noV : HVal := ⟨0, 0, 0, 0⟩
def intV (n : Int) : HVal := ⟨1, 0, 0, n⟩
def noP : HPlace := ⟨false, [], 0, 0⟩
def newP : HPlace := ⟨true, [], 0, 0⟩
def HHeap.new (pages : Nat) : HHeap := ⟨[], pages⟩
def HHeap.live (h : HHeap) : Nat := (h.L.filter (·.there)).length
def HHeap.place (h : HHeap) (k : Int) : Option HPlace := if k < 0 then none else match h.L[k.toNat]? with
  | none => none
  | some p => if p.there then some p else none
def HHeap.open_ (h : HHeap) : HVal × Bool × HHeap := if 16 ≤ h.live then (noV, false, h) else (⟨2, h.L.length, 0, 0⟩, true, { h with L := h.L ++ [newP] })
def HHeap.at (h : HHeap) (v : HVal) : Option HPlace := if v.kind = 2 then h.place v.region else none
def HHeap.shut (h : HHeap) (v : HVal) : Bool × HHeap := match h.at v with
  | none => (false, h)
  | some p => (true, ⟨h.L.set v.region.toNat noP, h.left + p.pages⟩)
/-- A thing more, of so many words. -/
def HPlace.tight (p : HPlace) (words : Int) : Bool := decide (p.pages = 0) || decide (words > 16 - p.used)
def HPlace.more (p : HPlace) (t : HThing) (words : Int) : HPlace := if p.tight words then ⟨p.there, p.l ++ [t], p.pages + 1, words⟩ else ⟨p.there, p.l ++ [t], p.pages, p.used + words⟩
def HHeap.put (h : HHeap) (v : HVal) (t : HThing) (words : Int) : HVal × Int × HHeap := match h.at v with
  | none => (noV, 20, h)
  | some p => if p.tight words ∧ h.left = 0 then (noV, 14, h)
    else (⟨if t.arr then 4 else 3, v.region, p.l.length, 0⟩, 0, ⟨h.L.set v.region.toNat (p.more t words), if p.tight words then h.left - 1 else h.left⟩)
def HHeap.tuple (h : HHeap) (v : HVal) (l : List HVal) : HVal × Int × HHeap := h.put v ⟨false, l⟩ (if l.length = 0 then 1 else l.length)
def HHeap.array (h : HHeap) (v : HVal) (n : Int) : HVal × Int × HHeap := if n < 0 ∨ 15 < n then (noV, 1, h) else h.put v ⟨true, List.replicate n.toNat (intV 0)⟩ (n + 1)
def HHeap.thing (h : HHeap) (v : HVal) : Option HThing := if v.kind = 3 ∨ v.kind = 4 then (match h.place v.region with
  | none => none
  | some p => if v.thing < 0 then none else match p.l[v.thing.toNat]? with
    | none => none
    | some t => if t.arr = decide (v.kind = 4) then some t else none) else none
def HHeap.get (h : HHeap) (v : HVal) (k : Int) : HVal × Int := match h.thing v with
  | none => (noV, 20)
  | some t => if k < 0 then (noV, 1) else match t.l[k.toNat]? with
    | none => (noV, 1)
    | some x => (x, 0)
def HHeap.set (h : HHeap) (v : HVal) (k : Int) (x : HVal) : Int × HHeap := match h.thing v, h.place v.region with
  | some t, some p => if t.arr = true ∧ x.kind ≠ 1 then (20, h) else if k < 0 ∨ t.l.length ≤ k.toNat then (1, h)
    else (0, { h with L := h.L.set v.region.toNat { p with l := p.l.set v.thing.toNat { t with l := t.l.set k.toNat x } } })
  | _, _ => (20, h)
def HHeap.len (h : HHeap) (v : HVal) : Int × Int := match h.thing v with
  | none => (0, 20)
  | some t => (t.l.length, 0)
theorem HHeap.place_nat (h : HHeap) (k : Nat) : h.place (k : Int) = match h.L[k]? with
  | none => none
  | some p => if p.there then some p else none := by
  unfold HHeap.place
  rw [if_neg (by omega), Int.toNat_natCast]
theorem HHeap.place_some {h : HHeap} {k : Int} {p : HPlace} (e : h.place k = some p) : 0 ≤ k ∧ h.L[k.toNat]? = some p ∧ p.there = true := by
  unfold HHeap.place at e
  split at e
  · cases e
  · rename_i hk
    refine ⟨by omega, ?_⟩
    split at e
    · cases e
    · rename_i q hq
      split at e
      · rename_i ht; cases e; exact ⟨hq, ht⟩
      · cases e
theorem HHeap.place_of {h : HHeap} {k : Nat} {p : HPlace} (e : h.L[k]? = some p) (ht : p.there = true) : h.place (k : Int) = some p := by rw [h.place_nat, e]; simp [ht]
theorem HHeap.place_set {h : HHeap} {k : Nat} (hk : k < h.L.length) (p : HPlace) (n : Nat) (j : Int) : HHeap.place ⟨h.L.set k p, n⟩ j = if j = k then (if p.there then some p else none) else h.place j := by
  unfold HHeap.place
  by_cases h0 : j < 0
  · rw [if_pos h0, if_neg (by omega), if_pos h0]
  · rw [if_neg h0, if_neg h0]
    by_cases e : j = k
    · subst e; simp [hk]
    · rw [if_neg e, List.getElem?_set_ne (by omega)]
theorem HHeap.place_push (h : HHeap) (p : HPlace) (j : Int) (n : Nat) : HHeap.place ⟨h.L ++ [p], n⟩ j = if j = h.L.length then (if p.there then some p else none) else h.place j := by
  unfold HHeap.place
  by_cases h0 : j < 0
  · rw [if_pos h0, if_neg (by omega), if_pos h0]
  · rw [if_neg h0, if_neg h0]
    by_cases e : j = h.L.length
    · subst e; simp
    · rw [if_neg e]
      rcases Nat.lt_or_ge j.toNat h.L.length with h1 | h1
      · simp [List.getElem?_append, h1]
      · rw [List.getElem?_append_right h1, List.getElem?_eq_none h1, List.getElem?_eq_none (by simp; omega)]
theorem HHeap.live_push (h : HHeap) (n : Nat) : HHeap.live ⟨h.L ++ [newP], n⟩ = h.live + 1 := by simp [HHeap.live, newP]
theorem filter_set_len {α : Type} (f : α → Bool) (q : α) : ∀ (l : List α) (k : Nat) (p : α), l[k]? = some p → ((l.set k q).filter f).length + (if f p then 1 else 0) = (l.filter f).length + (if f q then 1 else 0)
  | [], _, _, h => by simp at h
  | x :: r, 0, p, h => by
    simp at h; subst h
    simp only [List.set_cons_zero, List.filter_cons]
    cases f x <;> cases f q <;> simp
  | x :: r, k + 1, p, h => by
    have ih := filter_set_len f q r k p (by simpa using h)
    simp only [List.set_cons_succ, List.filter_cons]
    cases f x <;> simp <;> omega
theorem HHeap.live_set {h : HHeap} {k : Nat} {p q : HPlace} (e : h.L[k]? = some p) (n : Nat) : HHeap.live ⟨h.L.set k q, n⟩ + (if p.there then 1 else 0) = h.live + (if q.there then 1 else 0) := filter_set_len (fun x : HPlace => x.there) q h.L k p e
/-- What bounds a heap: so many regions, things and words at most, so many pages in all. -/
structure HOk (N T : Nat) (h : HHeap) : Prop where
  len : h.L.length ≤ N
  things : ∀ (k : Nat) (p : HPlace), h.L[k]? = some p → p.l.length ≤ N
  used : ∀ (k : Nat) (p : HPlace), h.L[k]? = some p → 0 ≤ p.used ∧ p.used ≤ N
  pages : h.left + (h.L.map (·.pages)).sum ≤ T
theorem sum_mem {l : List HPlace} {k : Nat} {p : HPlace} (e : l[k]? = some p) : p.pages ≤ (l.map (·.pages)).sum := by
  induction l generalizing k with
  | nil => simp at e
  | cons x r ih =>
    cases k with
    | zero => simp at e; subst e; simp
    | succ k => have := ih (k := k) (by simpa using e); simp; omega
theorem sum_set : ∀ (l : List HPlace) (k : Nat) (p q : HPlace), l[k]? = some p → ((l.set k q).map (·.pages)).sum + p.pages = (l.map (·.pages)).sum + q.pages
  | [], _, _, _, h => by simp at h
  | x :: r, 0, p, q, h => by simp at h; subst h; simp only [List.set_cons_zero, List.map_cons, List.sum_cons]; omega
  | x :: r, k + 1, p, q, h => by have := sum_set r k p q (by simpa using h); simp only [List.set_cons_succ, List.map_cons, List.sum_cons]; omega
theorem set_or {l : List HPlace} {k j : Nat} {q p : HPlace} (e : (l.set k q)[j]? = some p) : p = q ∨ l[j]? = some p := by
  by_cases hj : j = k
  · subst hj
    rcases Nat.lt_or_ge j l.length with h | h
    · simp [h] at e; exact .inl e.symm
    · rw [List.getElem?_eq_none (by simpa using h)] at e; cases e
  · rw [List.getElem?_set_ne (Ne.symm hj)] at e; exact .inr e
end Go.Proofs.Ytjhdpajpibdnaae
