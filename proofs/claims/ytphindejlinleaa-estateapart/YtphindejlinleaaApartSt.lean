/-
  Words that were got of regions that are there: each run lies in a page of its region, below the mark up to which the last page is in use; behind the mark all words are noughts; what Open, Shut, Get and the storing of words that were got make of it. Plain mathematics.
-/
import Derived.Test.YtphindejlinleaaRoomSt
namespace Go.Proofs.Ytphindejlinleaa
open Go.RowKit
set_option linter.unusedVariables false

/-- A run: its region, where it begins, how many words. -/
structure Run where
  region : Int
  at_ : Int
  n : Int

/-- The run lies in a page of its region; in the last one below the mark. -/
def RunIn (e : Est) (q : Run) : Prop :=
  ∃ (j : Nat) (r : Reg) (p : Int), q.region = j ∧ e.reg j = some r ∧ p ∈ r.pages ∧ 16 * p ≤ q.at_ ∧ q.at_ + q.n ≤ 16 * p + 16 ∧ 0 ≤ q.n ∧ (p = r.pages.getLastD 0 → q.at_ + q.n ≤ 16 * p + r.used)
/-- Behind the mark all words are noughts. -/
def Clear (e : Est) : Prop := ∀ (j : Nat) (r : Reg), e.reg j = some r → r.pages ≠ [] → ∀ i : Nat, 16 * r.pages.getLastD 0 + r.used ≤ i → (i : Int) < 16 * r.pages.getLastD 0 + 16 → e.p.ws i = 0
structure Ap (e : Est) (rs : List Run) : Prop where
  run : ∀ q, q ∈ rs → RunIn e q
  clear : Clear e

theorem Ap.new (n : Nat) : Ap (Est.new n) [] := ⟨fun q hq => by simp at hq, fun j r hr => by simp [Est.new] at hr⟩

theorem Ap.opened {e : Est} {rs : List Run} (h : Ap e rs) : Ap e.opened rs := by
  rcases exists_free e.reg 16 with h1 | ⟨k, h1, h2, h3⟩
  · rw [(Est.open_no h1).2]; exact h
  · rw [(Est.open_yes h3 h1 h2).2]
    have key : ∀ j r, e.reg j = some r → (e.set k (some ⟨[], 0⟩)).reg j = some r := fun j r hr => by
      show (if j = k then _ else e.reg j) = _
      rw [if_neg]
      · exact hr
      · rintro rfl; rw [h2] at hr; cases hr
    refine ⟨fun q hq => ?_, fun j r hr hp => ?_⟩
    · obtain ⟨j, r, p, a1, a2, a3⟩ := h.run q hq
      exact ⟨j, r, p, a1, key j r a2, a3⟩
    · have hr' : (if j = k then some ⟨[], 0⟩ else e.reg j) = some r := hr
      split at hr'
      · cases hr'; exact absurd rfl hp
      · exact h.clear j r hr' hp

/-- Those of other regions. -/
def others (rs : List Run) (k : Int) : List Run := rs.filter (fun q => q.region != k)
theorem ws_giveAll (l : List Int) : ∀ s : St, (s.giveAll l).ws = s.ws := by
  induction l with
  | nil => intro s; rfl
  | cons x r ih =>
    intro s
    show (St.giveAll (s.give x) r).ws = _
    rw [ih]
    unfold St.give; split <;> rfl
theorem Ap.shut {e : Est} {rs : List Run} (h : Ap e rs) (k : Int) : Ap (e.shut k) (others rs k) := by
  cases hh : e.has k with
  | false =>
    rw [Est.shut_no hh]
    exact ⟨fun q hq => h.run q (List.mem_filter.1 hq).1, h.clear⟩
  | true =>
    obtain ⟨i, r0, rfl, hi, hr0⟩ := Est.has_true hh
    rw [Est.shut_yes hi hr0]
    refine ⟨fun q hq => ?_, fun j r hr hp => ?_⟩
    · obtain ⟨hq1, hq2⟩ := List.mem_filter.1 hq
      obtain ⟨j, r, p, a1, a2, a3⟩ := h.run q hq1
      refine ⟨j, r, p, a1, ?_, a3⟩
      show (if j = i then none else e.reg j) = some r
      rw [if_neg]
      · exact a2
      · rintro rfl; simp [a1] at hq2
    · have hr' : (if j = i then none else e.reg j) = some r := hr
      split at hr'
      · cases hr'
      · intro m h1 h2
        show (e.p.giveAll r0.pages).ws m = 0
        rw [ws_giveAll]
        exact h.clear j r hr' hp m h1 h2

/-- So many words from a place on are 7. -/
def St.fill (s : St) (at_ : Int) (m : Nat) : St := { s with ws := fun i => if at_ ≤ (i : Int) ∧ (i : Int) < at_ + m then 7 else s.ws i }
theorem St.fill_zero (s : St) (at_ : Int) : s.fill at_ 0 = s := by
  unfold St.fill
  have : (fun (i : Nat) => if at_ ≤ (i : Int) ∧ (i : Int) < at_ + (0 : Nat) then (7 : Int) else s.ws i) = s.ws := by
    funext i; rw [if_neg (by omega)]
  rw [this]
theorem St.fill_succ {s : St} {at_ : Int} {m : Nat} (h0 : 0 ≤ at_) (h1 : at_ + m < 16 * s.pages) : (s.fill at_ m).store (at_ + m) 7 = s.fill at_ (m + 1) := by
  have hp : (s.fill at_ m).place (at_ + m) = true := by
    show (decide (0 ≤ at_ + (m : Int)) && decide (at_ + (m : Int) < 16 * (s.pages : Int))) = true
    rw [decide_eq_true (by omega), decide_eq_true (by omega)]; rfl
  unfold St.store
  rw [if_pos hp]
  unfold St.fill
  simp only
  congr 1
  funext i
  by_cases e1 : (i : Int) = at_ + m
  · rw [if_pos e1, if_pos (by omega)]
  · rw [if_neg e1]
    by_cases e2 : at_ ≤ (i : Int) ∧ (i : Int) < at_ + m
    · rw [if_pos e2, if_pos (by omega)]
    · rw [if_neg e2, if_neg (by omega)]
theorem Est.Ok.fill {e : Est} (h : e.Ok) (at_ : Int) (m : Nat) : (e.withP (e.p.fill at_ m)).Ok := ⟨⟨h.ok.most, h.ok.low, h.ok.high, h.ok.nodup, h.ok.mem⟩, h.top, h.nodup, h.apart, h.mem, h.used⟩

theorem last_mem {l : List Int} (h : l ≠ []) : l.getLastD 0 ∈ l := by
  rcases List.eq_nil_or_concat l with h' | ⟨ys, k, h'⟩
  · exact absurd h' h
  · rw [h']; simp

/-- What a Get that is not refused tells, and what it leaves. -/
structure GotIt (e : Est) (rs : List Run) (k n : Int) : Prop where
  low : 0 ≤ e.getAt k n
  high : e.getAt k n + n ≤ 16 * e.p.pages
  pos : 1 ≤ n
  top : n ≤ 16
  page : hasB (if (e.got k n).has k then (e.got k n).pagesAt k.toNat else []) (e.getAt k n / 16) = true
  room : e.getAt k n % 16 + n ≤ 16
  apart : ∀ q, q ∈ rs → ¬ (e.getAt k n < q.at_ + q.n ∧ q.at_ < e.getAt k n + n)
  zero : ∀ m : Nat, (m : Int) < n → (e.got k n).p.ws (e.getAt k n + m).toNat = 0
  ap : Ap ((e.got k n).withP ((e.got k n).p.fill (e.getAt k n) n.toNat)) (rs ++ [⟨k, e.getAt k n, n⟩])

theorem got_room {e : Est} {rs : List Run} {j : Nat} {r : Reg} {n : Int} (hok : e.Ok) (h : Ap e rs) (hj : j < 16) (hr : e.reg j = some r) (hn : ¬ (n < 1 ∨ 16 < n)) (hm : r.more n = false) : GotIt e rs j n := by
  obtain ⟨h1, h2, h3⟩ := Est.get_room hj hr hn hm
  obtain ⟨hne, hle⟩ := Reg.room hm (by omega)
  have hmem := last_mem hne
  have hat := Est.at_some hr
  have hlow := hok.low (k := j) (x := r.pages.getLastD 0) (by rw [hat]; exact hmem)
  have hus := hok.used j r hr
  have hh : (e.set j (some ⟨r.pages, r.used + n⟩)).has j = true := Est.has_of hj (r := ⟨r.pages, r.used + n⟩) (by simp [Est.set])
  have hp : (e.set j (some ⟨r.pages, r.used + n⟩)).pagesAt j = r.pages := by rw [Est.pagesAt_set]; simp
  have hset : ∀ i, (e.set j (some ⟨r.pages, r.used + n⟩)).reg i = if i = j then some ⟨r.pages, r.used + n⟩ else e.reg i := fun i => rfl
  refine ⟨?_, ?_, by omega, by omega, ?_, ?_, ?_, ?_, ?_⟩
  · rw [h2]; omega
  · rw [h2]; omega
  · rw [h2, h3, hh]
    simp only [if_true, Int.toNat_natCast, hp]
    have : (16 * r.pages.getLastD 0 + r.used) / 16 = r.pages.getLastD 0 := by omega
    rw [this]
    simpa [hasB] using hmem
  · rw [h2]; omega
  · rw [h2]
    intro q hq
    obtain ⟨i, r', p, a1, a2, a3, a4, a5, a6, a7⟩ := h.run q hq
    intro hc
    by_cases e1 : p = r.pages.getLastD 0
    · have : i = j := hok.apart i j p (by rw [Est.at_some a2]; exact a3) (by rw [hat, e1]; exact hmem)
      subst this
      rw [hr] at a2; cases a2
      have := a7 e1
      omega
    · omega
  · rw [h2, h3]
    intro m hm'
    show e.p.ws _ = 0
    refine h.clear j r hr hne _ ?_ ?_ <;> omega
  · rw [h2, h3]
    refine ⟨fun q hq => ?_, fun i q hq hp' => ?_⟩
    · rcases List.mem_append.1 hq with hq | hq
      · obtain ⟨i, r', p, a1, a2, a3, a4, a5, a6, a7⟩ := h.run q hq
        by_cases e1 : i = j
        · subst e1
          rw [hr] at a2; cases a2
          exact ⟨i, ⟨r.pages, r.used + n⟩, p, a1, by simp [Est.withP, Est.set], a3, a4, a5, a6, fun e2 => by have := a7 e2; simp only; omega⟩
        · exact ⟨i, r', p, a1, by simp [Est.withP, Est.set, e1, a2], a3, a4, a5, a6, a7⟩
      · have hq' := List.mem_singleton.1 hq
        subst hq'
        refine ⟨j, ⟨r.pages, r.used + n⟩, r.pages.getLastD 0, rfl, by simp [Est.withP, Est.set], hmem, ?_, ?_, ?_, fun _ => ?_⟩ <;> simp only <;> omega
    · have hq' : (if i = j then some ⟨r.pages, r.used + n⟩ else e.reg i) = some q := hq
      intro m b1 b2
      show (if 16 * r.pages.getLastD 0 + r.used ≤ (m : Int) ∧ (m : Int) < 16 * r.pages.getLastD 0 + r.used + n.toNat then 7 else e.p.ws m) = 0
      split at hq'
      · cases hq'
        simp only at b1 b2
        rw [if_neg (by omega)]
        exact h.clear j r hr hne m (by omega) (by omega)
      · rename_i e1
        have hm2 := last_mem hp'
        have hd : q.pages.getLastD 0 ≠ r.pages.getLastD 0 := fun e2 => e1 (hok.apart i j (q.pages.getLastD 0) (by rw [Est.at_some hq']; exact hm2) (by rw [hat, e2]; exact hmem))
        have hu2 := hok.used i q hq'
        rw [if_neg (by omega)]
        exact h.clear i q hq' hp' m b1 b2

theorem got_more {e : Est} {rs : List Run} {j : Nat} {r : Reg} {n : Int} (hok : e.Ok) (h : Ap e rs) (hj : j < 16) (hr : e.reg j = some r) (hn : ¬ (n < 1 ∨ 16 < n)) (hm : r.more n = true) (hk : ¬ e.p.nextK < 0) : GotIt e rs j n := by
  obtain ⟨h1, h2, h3⟩ := Est.get_more hj hr hn hm hk
  have hlt := (St.nextK_lt hok.ok).2
  have hat := Est.at_some hr
  obtain ⟨hno, -⟩ := hok.tk.take hok.ok (by omega)
  have hno' : ∀ i, e.p.nextK ∉ e.pagesAt i := fun i hi => hno ((hok.tk.mem _).2 (hok.took hi))
  have hws : ∀ i : Nat, e.p.take.ws i = if 16 * e.p.nextK ≤ (i : Int) ∧ (i : Int) < 16 * e.p.nextK + 16 then 0 else e.p.ws i := fun i => by
    have h2 : e.p.take = e.p.next.wipe e.p.nextK := by simp [St.take]; omega
    have h3 : e.p.next.ws = e.p.ws := by
      unfold St.next; split
      · rfl
      · split <;> rfl
    rw [h2]
    show (if e.p.nextK * 16 ≤ (i : Int) ∧ (i : Int) < e.p.nextK * 16 + 16 then 0 else e.p.next.ws i) = _
    rw [h3]
    by_cases e1 : 16 * e.p.nextK ≤ (i : Int) ∧ (i : Int) < 16 * e.p.nextK + 16
    · rw [if_pos e1, if_pos (by omega)]
    · rw [if_neg e1, if_neg (by omega)]
  have hh : ((e.set j (some ⟨r.pages ++ [e.p.nextK], n⟩)).withP e.p.take).has j = true := Est.has_of hj (r := ⟨r.pages ++ [e.p.nextK], n⟩) (by simp [Est.set, Est.withP])
  have hp : ((e.set j (some ⟨r.pages ++ [e.p.nextK], n⟩)).withP e.p.take).pagesAt j = r.pages ++ [e.p.nextK] := by
    show (e.set j (some ⟨r.pages ++ [e.p.nextK], n⟩)).pagesAt j = _
    rw [Est.pagesAt_set]; simp
  generalize hq : e.p.nextK = q at *
  refine ⟨?_, ?_, by omega, by omega, ?_, ?_, ?_, ?_, ?_⟩
  · rw [h2]; omega
  · rw [h2]; omega
  · rw [h2, h3, hh]
    simp only [if_true, Int.toNat_natCast, hp]
    have : (16 * q) / 16 = q := by omega
    rw [this]
    simp [hasB]
  · rw [h2]; omega
  · rw [h2]
    intro u hu
    obtain ⟨i, r', p, a1, a2, a3, a4, a5, a6, a7⟩ := h.run u hu
    intro hc
    have : p ≠ q := fun e1 => hno' i (by rw [Est.at_some a2, ← e1]; exact a3)
    omega
  · rw [h2, h3]
    intro m hm'
    show e.p.take.ws _ = 0
    rw [hws, if_pos (by omega)]
  · rw [h2, h3]
    refine ⟨fun u hu => ?_, fun i u hu hp' => ?_⟩
    · rcases List.mem_append.1 hu with hu | hu
      · obtain ⟨i, r', p, a1, a2, a3, a4, a5, a6, a7⟩ := h.run u hu
        by_cases e1 : i = j
        · subst e1
          rw [hr] at a2; cases a2
          refine ⟨i, ⟨r.pages ++ [q], n⟩, p, a1, by simp [Est.withP, Est.set], by simp [a3], a4, a5, a6, fun e2 => ?_⟩
          simp at e2
          exact absurd (by rw [hat, ← e2]; exact a3) (hno' i)
        · exact ⟨i, r', p, a1, by simp [Est.withP, Est.set, e1, a2], a3, a4, a5, a6, a7⟩
      · have hu' := List.mem_singleton.1 hu
        subst hu'
        refine ⟨j, ⟨r.pages ++ [q], n⟩, q, rfl, by simp [Est.withP, Est.set], by simp, ?_, ?_, ?_, fun _ => ?_⟩ <;> simp only <;> omega
    · have hu' : (if i = j then some ⟨r.pages ++ [q], n⟩ else e.reg i) = some u := hu
      intro m b1 b2
      show (if 16 * q ≤ (m : Int) ∧ (m : Int) < 16 * q + n.toNat then 7 else e.p.take.ws m) = 0
      split at hu'
      · cases hu'
        simp at b1 b2
        rw [if_neg (by omega), hws, if_pos (by omega)]
      · rename_i e1
        have hm2 := last_mem hp'
        have hd : u.pages.getLastD 0 ≠ q := fun e2 => hno' i (by rw [Est.at_some hu', ← e2]; exact hm2)
        have hu2 := hok.used i u hu'
        rw [if_neg (by omega), hws, if_neg (by omega)]
        exact h.clear i u hu' hp' m b1 b2

theorem got_it {e : Est} {rs : List Run} (hok : e.Ok) (h : Ap e rs) (k n : Int) (hc : e.getCode k n = 0) : GotIt e rs k n := by
  cases hh : e.has k with
  | false => rw [(Est.get_none hh).1] at hc; omega
  | true =>
    by_cases hn : n < 1 ∨ 16 < n
    · rw [(Est.get_range hh hn).1] at hc; omega
    · obtain ⟨j, r, rfl, hj, hr⟩ := Est.has_true hh
      cases hm : r.more n with
      | false => exact got_room hok h hj hr hn hm
      | true =>
        by_cases hk : e.p.nextK < 0
        · rw [(Est.get_full hj hr hn hm hk).1] at hc; omega
        · exact got_more hok h hj hr hn hm hk
theorem got_no {e : Est} (k n : Int) (hc : e.getCode k n ≠ 0) : e.got k n = e := by simp [Est.got, hc]

#print axioms got_it
end Go.Proofs.Ytphindejlinleaa
