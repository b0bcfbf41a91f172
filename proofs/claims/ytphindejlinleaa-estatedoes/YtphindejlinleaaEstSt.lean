/-
  The regions of a memory as the document has them: a pool of pages, and for each number a region or none: its pages in the order in which they came, and how many words of the last one are in use; what Open, Shut and Get make of it. Plain mathematics.
-/
import Derived.Test.YtphindejlinleaaOnceSt
namespace Go.Proofs.Ytphindejlinleaa
open Go.RowKit
set_option linter.unusedVariables false

structure Reg where
  pages : List Int
  used : Int

structure Est where
  p : St
  reg : Nat → Option Reg

def Reg.left (r : Reg) : Int := if r.pages = [] then 0 else 16 - r.used
def Est.pagesAt (e : Est) (k : Nat) : List Int := match e.reg k with | some r => r.pages | none => []
/-- The pages of the regions below n, one behind the other. -/
def Est.allTo (e : Est) : Nat → List Int
  | 0 => []
  | n + 1 => e.allTo n ++ e.pagesAt n
def Est.all (e : Est) : List Int := e.allTo 16
def Est.set (e : Est) (k : Nat) (o : Option Reg) : Est := { e with reg := fun j => if j = k then o else e.reg j }
def Est.withP (e : Est) (s : St) : Est := { e with p := s }

structure Est.Ok (e : Est) : Prop where
  ok : e.p.Ok
  top : ∀ k, 16 ≤ k → e.reg k = none
  nodup : ∀ k, (e.pagesAt k).Nodup
  apart : ∀ j k x, x ∈ e.pagesAt j → x ∈ e.pagesAt k → j = k
  mem : ∀ x, (∃ k, x ∈ e.pagesAt k) ↔ 0 ≤ x ∧ x < e.p.fresh ∧ x ∉ e.p.given
  used : ∀ k r, e.reg k = some r → 0 ≤ r.used ∧ r.used ≤ 16

theorem Est.mem_allTo (e : Est) (x : Int) : ∀ n, x ∈ e.allTo n ↔ ∃ k, k < n ∧ x ∈ e.pagesAt k
  | 0 => by simp [Est.allTo]
  | n + 1 => by
    rw [Est.allTo, List.mem_append, Est.mem_allTo e x n]
    constructor
    · rintro (⟨k, h1, h2⟩ | h)
      · exact ⟨k, by omega, h2⟩
      · exact ⟨n, by omega, h⟩
    · rintro ⟨k, h1, h2⟩
      rcases Nat.lt_succ_iff_lt_or_eq.1 h1 with h | h
      · exact Or.inl ⟨k, h, h2⟩
      · subst h; exact Or.inr h2

theorem Est.Ok.nodup_allTo {e : Est} (h : e.Ok) : ∀ n, (e.allTo n).Nodup
  | 0 => by simp [Est.allTo]
  | n + 1 => by
    rw [Est.allTo, List.nodup_append]
    refine ⟨h.nodup_allTo n, h.nodup n, fun a ha c hc e' => ?_⟩
    subst e'
    obtain ⟨k, h1, h2⟩ := (e.mem_allTo a n).1 ha
    have := h.apart k n a h2 hc
    omega

theorem Est.Ok.none_at {e : Est} (h : e.Ok) {k : Nat} (hk : 16 ≤ k) : e.pagesAt k = [] := by simp [Est.pagesAt, h.top k hk]

theorem Est.Ok.tk {e : Est} (h : e.Ok) : Tk e.p e.all := by
  refine ⟨h.nodup_allTo 16, fun x => ?_⟩
  rw [Est.all, e.mem_allTo, ← h.mem x]
  constructor
  · rintro ⟨k, _, h2⟩; exact ⟨k, h2⟩
  · rintro ⟨k, h2⟩
    refine ⟨k, ?_, h2⟩
    rcases Nat.lt_or_ge k 16 with h' | h'
    · exact h'
    · rw [h.none_at h'] at h2; simp at h2

theorem Est.Ok.took {e : Est} (h : e.Ok) {k : Nat} {x : Int} (hx : x ∈ e.pagesAt k) : 0 ≤ x ∧ x < e.p.fresh ∧ x ∉ e.p.given := (h.mem x).1 ⟨k, hx⟩
theorem Est.Ok.low {e : Est} (h : e.Ok) {k : Nat} {x : Int} (hx : x ∈ e.pagesAt k) : 0 ≤ x ∧ x < e.p.pages := by
  have h1 := h.took hx
  have h2 := h.ok.high
  omega
theorem Est.Ok.len {e : Est} (h : e.Ok) (k : Nat) : (e.pagesAt k).length ≤ 64 := by
  have h2 := h.ok.most
  have := short_of_nodup e.p.pages (e.pagesAt k) (h.nodup k) (fun x hx => h.low hx)
  omega
theorem Est.Ok.lenAll {e : Est} (h : e.Ok) (n : Nat) : (e.allTo n).length ≤ 64 := by
  have h2 := h.ok.most
  have := short_of_nodup e.p.pages (e.allTo n) (h.nodup_allTo n) (fun x hx => by
    obtain ⟨k, _, hk⟩ := (e.mem_allTo x n).1 hx
    exact h.low hk)
  omega
theorem Est.Ok.free {e : Est} (h : e.Ok) : e.p.free = e.p.pages - e.all.length := h.tk.free h.ok
theorem Est.at_some {e : Est} {k : Nat} {r : Reg} (hr : e.reg k = some r) : e.pagesAt k = r.pages := by simp [Est.pagesAt, hr]
theorem Est.Ok.lenR {e : Est} (h : e.Ok) {k : Nat} {r : Reg} (hr : e.reg k = some r) : r.pages.length ≤ 64 := by rw [← Est.at_some hr]; exact h.len k

def Est.new (n : Nat) : Est := ⟨St.new n, fun _ => none⟩
theorem Est.ok_new (n : Nat) (h : n ≤ 64) : (Est.new n).Ok :=
  ⟨St.ok_new n h, fun _ _ => rfl, fun k => by simp [Est.new, Est.pagesAt], fun j k x hx => by simp [Est.new, Est.pagesAt] at hx,
   fun x => by simp [Est.new, Est.pagesAt, St.new] <;> omega, fun k r hr => by simp [Est.new] at hr⟩

theorem Est.pagesAt_set (e : Est) (k : Nat) (o : Option Reg) (j : Nat) : (e.set k o).pagesAt j = if j = k then (match o with | some r => r.pages | none => []) else e.pagesAt j := by
  unfold Est.pagesAt Est.set
  by_cases h : j = k <;> simp [h]

/-- Is there such a region? -/
def Est.has (e : Est) (k : Int) : Bool := decide (0 ≤ k) && decide (k < 16) && (e.reg k.toNat).isSome
theorem Est.has_true {e : Est} {k : Int} (h : e.has k = true) : ∃ (j : Nat) (r : Reg), k = j ∧ j < 16 ∧ e.reg j = some r := by
  simp [Est.has] at h
  obtain ⟨r, hr⟩ := Option.isSome_iff_exists.1 h.2
  exact ⟨k.toNat, r, by omega, by omega, hr⟩
theorem Est.has_of {e : Est} {j : Nat} {r : Reg} (hj : j < 16) (hr : e.reg j = some r) : e.has j = true := by
  simp [Est.has, hr]; omega
theorem Est.has_none {e : Est} {j : Nat} (hr : e.reg j = none) : e.has j = false := by simp [Est.has, hr]
theorem Est.has_out {e : Est} {k : Int} (h : k < 0 ∨ 16 ≤ k) : e.has k = false := by
  unfold Est.has
  rcases h with h | h
  · rw [show decide (0 ≤ k) = false by simpa using h]; rfl
  · rw [show decide (k < 16) = false by simpa using h]; simp

/-- The lowest number from n on, of m, that no region has; -1: there is none. -/
def freeFrom (f : Nat → Option Reg) (n : Nat) : Nat → Int
  | 0 => -1
  | m + 1 => if (f n).isNone then (n : Int) else freeFrom f (n + 1) m
def Est.openK (e : Est) : Int := freeFrom e.reg 0 16
def Est.opened (e : Est) : Est := if e.openK < 0 then e else e.set e.openK.toNat (some ⟨[], 0⟩)

theorem freeFrom_no {f : Nat → Option Reg} : ∀ (m n : Nat), (∀ k, n ≤ k → k < n + m → f k ≠ none) → freeFrom f n m = -1
  | 0, _, _ => rfl
  | m + 1, n, h => by
    have h0 := h n (Nat.le_refl _) (by omega)
    rw [freeFrom, if_neg (by simpa using h0)]
    exact freeFrom_no m (n + 1) (fun k h1 h2 => h k (by omega) (by omega))
theorem freeFrom_yes {f : Nat → Option Reg} : ∀ (m n k : Nat), (∀ j, n ≤ j → j < k → f j ≠ none) → n ≤ k → k < n + m → f k = none → freeFrom f n m = k
  | 0, n, k, _, h1, h2, _ => by omega
  | m + 1, n, k, h, h1, h2, h3 => by
    rw [freeFrom]
    by_cases e : n = k
    · subst e; rw [if_pos (by simp [h3])]
    · have h0 := h n (Nat.le_refl _) (by omega)
      rw [if_neg (by simpa using h0)]
      exact freeFrom_yes m (n + 1) k (fun j h4 h5 => h j (by omega) h5) (by omega) (by omega) h3
theorem Est.open_no {e : Est} (h : ∀ k, k < 16 → e.reg k ≠ none) : e.openK = -1 ∧ e.opened = e := by
  have h1 : e.openK = -1 := freeFrom_no 16 0 (fun k _ h2 => h k (by omega))
  exact ⟨h1, by simp [Est.opened, h1]⟩
theorem Est.open_yes {e : Est} {k : Nat} (h : ∀ j, j < k → e.reg j ≠ none) (hk : k < 16) (hn : e.reg k = none) : e.openK = k ∧ e.opened = e.set k (some ⟨[], 0⟩) := by
  have h1 : e.openK = k := freeFrom_yes 16 0 k (fun j _ h2 => h j h2) (by omega) (by omega) hn
  refine ⟨h1, ?_⟩
  rw [Est.opened, h1, if_neg (by omega)]; rfl
theorem Est.Ok.openSet {e : Est} (h : e.Ok) {k : Nat} (hk : k < 16) (hn : e.reg k = none) : (e.set k (some ⟨[], 0⟩)).Ok := by
  have hp : ∀ j, (e.set k (some ⟨[], 0⟩)).pagesAt j = e.pagesAt j := fun j => by
    rw [Est.pagesAt_set]
    by_cases e' : j = k
    · subst e'; simp [Est.pagesAt, hn]
    · simp [e']
  refine ⟨h.ok, fun j hj => ?_, fun j => by rw [hp]; exact h.nodup j, fun i j x h1 h2 => ?_, fun x => ?_, fun j r hr => ?_⟩
  · simp only [Est.set]; rw [if_neg (by omega)]; exact h.top j hj
  · rw [hp] at h1 h2; exact h.apart i j x h1 h2
  · simp only [hp]; exact h.mem x
  · simp only [Est.set] at hr
    split at hr
    · cases hr; simp
    · exact h.used j r hr
theorem exists_free (f : Nat → Option Reg) (m : Nat) : (∀ k, k < m → f k ≠ none) ∨ ∃ k, k < m ∧ f k = none ∧ ∀ j, j < k → f j ≠ none := by
  induction m with
  | zero => exact Or.inl fun k hk => by omega
  | succ m ih =>
    rcases ih with h | ⟨k, h1, h2, h3⟩
    · by_cases h' : f m = none
      · exact Or.inr ⟨m, by omega, h', h⟩
      · refine Or.inl fun k hk => ?_
        rcases Nat.lt_succ_iff_lt_or_eq.1 hk with h1 | h1
        · exact h k h1
        · subst h1; exact h'
    · exact Or.inr ⟨k, by omega, h2, h3⟩
theorem Est.Ok.opened {e : Est} (h : e.Ok) : e.opened.Ok := by
  rcases exists_free e.reg 16 with h1 | ⟨k, h1, h2, h3⟩
  · rw [(Est.open_no h1).2]; exact h
  · rw [(Est.open_yes h3 h1 h2).2]; exact h.openSet h1 h2
@[simp] theorem Est.p_set (e : Est) (k : Nat) (o : Option Reg) : (e.set k o).p = e.p := rfl
@[simp] theorem Est.p_opened (e : Est) : e.opened.p = e.p := by unfold Est.opened; split <;> rfl

/-- Pages are given back, one behind the other. -/
def St.giveAll (s : St) (l : List Int) : St := l.foldl St.give s
@[simp] theorem St.pages_giveAll (l : List Int) : ∀ s : St, (s.giveAll l).pages = s.pages := by
  induction l with
  | nil => intro s; rfl
  | cons x r ih => intro s; show (St.giveAll (s.give x) r).pages = _; rw [ih]; simp
theorem St.giveAll_snoc (s : St) (l : List Int) (x : Int) : s.giveAll (l ++ [x]) = (s.giveAll l).give x := by simp [St.giveAll]
theorem St.ok_giveAll (l : List Int) : ∀ {s : St}, s.Ok → (s.giveAll l).Ok := by
  induction l with
  | nil => intro s h; exact h
  | cons x r ih => intro s h; exact ih (St.ok_give h x)
theorem St.giveAll_eq (l : List Int) : ∀ s : St, l.Nodup → (∀ x, x ∈ l → 0 ≤ x ∧ x < s.fresh ∧ x ∉ s.given) → s.giveAll l = { s with given := s.given ++ l } := by
  induction l with
  | nil => intro s _ _; simp [St.giveAll]
  | cons x r ih =>
    intro s hn hm
    have e : s.give x = { s with given := s.given ++ [x] } := by
      have := (took_iff s x).2 (hm x (by simp))
      simp [St.give, this]
    show St.giveAll (s.give x) r = _
    rw [e, ih]
    · simp
    · exact (List.nodup_cons.1 hn).2
    · intro y hy
      have h1 := hm y (by simp [hy])
      refine ⟨h1.1, h1.2.1, ?_⟩
      simp only [List.mem_append, List.mem_singleton]
      rintro (h2 | h2)
      · exact h1.2.2 h2
      · subst h2; exact (List.nodup_cons.1 hn).1 hy

def Est.shut (e : Est) (k : Int) : Est := if e.has k then (e.set k.toNat none).withP (e.p.giveAll (e.pagesAt k.toNat)) else e
theorem Est.shut_yes {e : Est} {j : Nat} {r : Reg} (hj : j < 16) (hr : e.reg j = some r) : e.shut j = (e.set j none).withP (e.p.giveAll r.pages) := by
  simp [Est.shut, Est.has_of hj hr, Est.at_some hr]
theorem Est.shut_no {e : Est} {k : Int} (h : e.has k = false) : e.shut k = e := by simp [Est.shut, h]
@[simp] theorem Est.pages_shut (e : Est) (k : Int) : (e.shut k).p.pages = e.p.pages := by
  unfold Est.shut; split <;> simp [Est.withP]
theorem Est.Ok.shutAt {e : Est} (h : e.Ok) {j : Nat} {r : Reg} (hr : e.reg j = some r) : ((e.set j none).withP (e.p.giveAll r.pages)).Ok := by
  have hat := Est.at_some hr
  have hg := St.giveAll_eq r.pages e.p (by rw [← hat]; exact h.nodup j) (fun x hx => h.took (k := j) (by rw [hat]; exact hx))
  have hp : ∀ i, ((e.set j none).withP (e.p.giveAll r.pages)).pagesAt i = if i = j then [] else e.pagesAt i := fun i => by
    show (e.set j none).pagesAt i = _
    rw [Est.pagesAt_set]
  refine ⟨St.ok_giveAll _ h.ok, fun i hi => ?_, fun i => ?_, fun i k x h1 h2 => ?_, fun x => ?_, fun i q hq => ?_⟩
  · show (if i = j then none else e.reg i) = none
    split
    · rfl
    · exact h.top i hi
  · rw [hp]; split
    · simp
    · exact h.nodup i
  · rw [hp] at h1 h2
    split at h1
    · simp at h1
    · split at h2
      · simp at h2
      · exact h.apart i k x h1 h2
  · show _ ↔ 0 ≤ x ∧ x < (e.p.giveAll r.pages).fresh ∧ x ∉ (e.p.giveAll r.pages).given
    simp only [hp]
    rw [hg]
    simp only [List.mem_append]
    constructor
    · rintro ⟨i, hi⟩
      split at hi
      · simp at hi
      · rename_i hne
        have h1 := h.took hi
        refine ⟨h1.1, h1.2.1, ?_⟩
        rintro (h2 | h2)
        · exact h1.2.2 h2
        · rw [← hat] at h2; exact hne (h.apart i j x hi h2)
    · rintro ⟨h1, h2, h3⟩
      obtain ⟨i, hi⟩ := (h.mem x).2 ⟨h1, h2, fun h4 => h3 (Or.inl h4)⟩
      refine ⟨i, ?_⟩
      rw [if_neg]
      · exact hi
      · rintro rfl
        rw [hat] at hi
        exact h3 (Or.inr hi)
  · have : (if i = j then none else e.reg i) = some q := hq
    split at this
    · cases this
    · exact h.used i q this
theorem Est.Ok.shut {e : Est} (h : e.Ok) (k : Int) : (e.shut k).Ok := by
  cases hh : e.has k with
  | false => rw [Est.shut_no hh]; exact h
  | true =>
    obtain ⟨j, r, rfl, hj, hr⟩ := Est.has_true hh
    rw [Est.shut_yes hj hr]; exact h.shutAt hr

/-- Words of a region: is a page to be taken? -/
def Reg.more (r : Reg) (n : Int) : Bool := decide (r.left < n)
/-- The code; where they begin; the estate behind it. -/
def Est.getCode (e : Est) (k n : Int) : Int :=
  if e.has k then (if n < 1 ∨ 16 < n then 1 else match e.reg k.toNat with | some r => if r.more n = true ∧ e.p.nextK < 0 then 14 else 0 | none => 15) else 15
def Est.getAt (e : Est) (k n : Int) : Int :=
  if e.getCode k n = 0 then (match e.reg k.toNat with | some r => if r.more n = true then 16 * e.p.nextK else 16 * r.pages.getLastD 0 + r.used | none => 0) else 0
def Est.got (e : Est) (k n : Int) : Est :=
  if e.getCode k n = 0 then (match e.reg k.toNat with | some r => if r.more n = true then (e.set k.toNat (some ⟨r.pages ++ [e.p.nextK], n⟩)).withP e.p.take else e.set k.toNat (some ⟨r.pages, r.used + n⟩) | none => e) else e

theorem Est.get_none {e : Est} {k n : Int} (h : e.has k = false) : e.getCode k n = 15 ∧ e.getAt k n = 0 ∧ e.got k n = e := by
  have h1 : e.getCode k n = 15 := by simp [Est.getCode, h]
  exact ⟨h1, by simp [Est.getAt, h1], by simp [Est.got, h1]⟩
theorem Est.get_range {e : Est} {k n : Int} (h : e.has k = true) (hn : n < 1 ∨ 16 < n) : e.getCode k n = 1 ∧ e.getAt k n = 0 ∧ e.got k n = e := by
  have h1 : e.getCode k n = 1 := by simp [Est.getCode, h, hn]
  exact ⟨h1, by simp [Est.getAt, h1], by simp [Est.got, h1]⟩
theorem Est.get_full {e : Est} {j : Nat} {r : Reg} {n : Int} (hj : j < 16) (hr : e.reg j = some r) (hn : ¬ (n < 1 ∨ 16 < n)) (hm : r.more n = true) (hk : e.p.nextK < 0) : e.getCode j n = 14 ∧ e.getAt j n = 0 ∧ e.got j n = e := by
  have h1 : e.getCode j n = 14 := by simp [Est.getCode, Est.has_of hj hr, hn, hr, hm, hk]
  exact ⟨h1, by simp [Est.getAt, h1], by simp [Est.got, h1]⟩
theorem Est.get_more {e : Est} {j : Nat} {r : Reg} {n : Int} (hj : j < 16) (hr : e.reg j = some r) (hn : ¬ (n < 1 ∨ 16 < n)) (hm : r.more n = true) (hk : ¬ e.p.nextK < 0) :
    e.getCode j n = 0 ∧ e.getAt j n = 16 * e.p.nextK ∧ e.got j n = (e.set j (some ⟨r.pages ++ [e.p.nextK], n⟩)).withP e.p.take := by
  have h1 : e.getCode j n = 0 := by simp [Est.getCode, Est.has_of hj hr, hn, hr, hm, hk]
  exact ⟨h1, by simp [Est.getAt, h1, hr, hm], by simp [Est.got, h1, hr, hm]⟩
theorem Est.get_room {e : Est} {j : Nat} {r : Reg} {n : Int} (hj : j < 16) (hr : e.reg j = some r) (hn : ¬ (n < 1 ∨ 16 < n)) (hm : r.more n = false) :
    e.getCode j n = 0 ∧ e.getAt j n = 16 * r.pages.getLastD 0 + r.used ∧ e.got j n = e.set j (some ⟨r.pages, r.used + n⟩) := by
  have h1 : e.getCode j n = 0 := by simp [Est.getCode, Est.has_of hj hr, hn, hr, hm]
  exact ⟨h1, by simp [Est.getAt, h1, hr, hm], by simp [Est.got, h1, hr, hm]⟩
/-- Where there is room, there is a page. -/
theorem Reg.room {r : Reg} {n : Int} (h : r.more n = false) (hn : 1 ≤ n) : r.pages ≠ [] ∧ n ≤ 16 - r.used := by
  have h2 : ¬ r.left < n := by simpa [Reg.more] using h
  unfold Reg.left at h2
  by_cases h1 : r.pages = []
  · rw [if_pos h1] at h2; omega
  · rw [if_neg h1] at h2; exact ⟨h1, by omega⟩
theorem Reg.more_iff {r : Reg} {n : Int} (hn : 1 ≤ n) : r.more n = true ↔ r.pages = [] ∨ 16 - r.used < n := by
  simp only [Reg.more, Reg.left]
  by_cases h : r.pages = []
  · simp [h]; omega
  · simp [h]

theorem Est.Ok.roomSet {e : Est} (h : e.Ok) {j : Nat} {r : Reg} (hr : e.reg j = some r) {n : Int} (h0 : 0 ≤ n) (h1 : n ≤ 16 - r.used) : (e.set j (some ⟨r.pages, r.used + n⟩)).Ok := by
  have hp : ∀ i, (e.set j (some ⟨r.pages, r.used + n⟩)).pagesAt i = e.pagesAt i := fun i => by
    rw [Est.pagesAt_set]
    by_cases e' : i = j
    · subst e'; simp [Est.pagesAt, hr]
    · simp [e']
  have hu := h.used j r hr
  refine ⟨h.ok, fun i hi => ?_, fun i => by rw [hp]; exact h.nodup i, fun i k x h1 h2 => ?_, fun x => ?_, fun i q hq => ?_⟩
  · show (if i = j then some _ else e.reg i) = none
    rw [if_neg]
    · exact h.top i hi
    · rintro rfl; rw [h.top i hi] at hr; cases hr
  · rw [hp] at h1 h2; exact h.apart i k x h1 h2
  · simp only [hp]; exact h.mem x
  · have : (if i = j then some ⟨r.pages, r.used + n⟩ else e.reg i) = some q := hq
    split at this
    · cases this; simp only; omega
    · exact h.used i q this

theorem Est.Ok.moreSet {e : Est} (h : e.Ok) {j : Nat} {r : Reg} (hr : e.reg j = some r) {n : Int} (h0 : 0 ≤ n) (h1 : n ≤ 16) (hk : 0 ≤ e.p.nextK) : ((e.set j (some ⟨r.pages ++ [e.p.nextK], n⟩)).withP e.p.take).Ok := by
  have hat := Est.at_some hr
  obtain ⟨hno, htk⟩ := h.tk.take h.ok hk
  have hno' : ∀ i, e.p.nextK ∉ e.pagesAt i := fun i hi => by
    refine hno ((h.tk.mem _).2 ?_)
    exact h.took hi
  have hp : ∀ i, ((e.set j (some ⟨r.pages ++ [e.p.nextK], n⟩)).withP e.p.take).pagesAt i = if i = j then e.pagesAt j ++ [e.p.nextK] else e.pagesAt i := fun i => by
    show (e.set j (some ⟨r.pages ++ [e.p.nextK], n⟩)).pagesAt i = _
    rw [Est.pagesAt_set, hat]
  have hmem : ∀ i x, x ∈ (if i = j then e.pagesAt j ++ [e.p.nextK] else e.pagesAt i) ↔ x ∈ e.pagesAt i ∨ (i = j ∧ x = e.p.nextK) := fun i x => by
    by_cases e' : i = j
    · subst e'; simp
    · simp [e']
  refine ⟨St.ok_take h.ok, fun i hi => ?_, fun i => ?_, fun i k x h1 h2 => ?_, fun x => ?_, fun i q hq => ?_⟩
  · show (if i = j then some _ else e.reg i) = none
    rw [if_neg]
    · exact h.top i hi
    · rintro rfl; rw [h.top i hi] at hr; cases hr
  · rw [hp]; split
    · rw [List.nodup_append]
      refine ⟨h.nodup j, by simp, fun a ha c hc e' => ?_⟩
      simp at hc; subst hc; subst e'; exact hno' j ha
    · exact h.nodup i
  · rw [hp, hmem] at h1 h2
    rcases h1 with h1 | ⟨h1, h1'⟩
    · rcases h2 with h2 | ⟨h2, h2'⟩
      · exact h.apart i k x h1 h2
      · subst h2'; exact absurd h1 (hno' i)
    · rcases h2 with h2 | ⟨h2, h2'⟩
      · subst h1'; exact absurd h2 (hno' k)
      · omega
  · have := htk.mem x
    show _ ↔ 0 ≤ x ∧ x < e.p.take.fresh ∧ x ∉ e.p.take.given
    rw [← this, List.mem_append, List.mem_singleton, h.tk.mem x, ← h.mem x]
    simp only [hp, hmem]
    constructor
    · rintro ⟨i, h3 | ⟨h3, h4⟩⟩
      · exact Or.inl ⟨i, h3⟩
      · exact Or.inr h4
    · rintro (⟨i, h3⟩ | h3)
      · exact ⟨i, Or.inl h3⟩
      · exact ⟨j, Or.inr ⟨rfl, h3⟩⟩
  · have : (if i = j then some ⟨r.pages ++ [e.p.nextK], n⟩ else e.reg i) = some q := hq
    split at this
    · cases this; simp only; omega
    · exact h.used i q this

theorem Est.Ok.got {e : Est} (h : e.Ok) (k n : Int) : (e.got k n).Ok := by
  cases hh : e.has k with
  | false => rw [(Est.get_none hh).2.2]; exact h
  | true =>
    by_cases hn : n < 1 ∨ 16 < n
    · rw [(Est.get_range hh hn).2.2]; exact h
    · obtain ⟨j, r, rfl, hj, hr⟩ := Est.has_true hh
      cases hm : r.more n with
      | false =>
        rw [(Est.get_room hj hr hn hm).2.2]
        exact h.roomSet hr (by omega) (Reg.room hm (by omega)).2
      | true =>
        by_cases hk : e.p.nextK < 0
        · rw [(Est.get_full hj hr hn hm hk).2.2]; exact h
        · rw [(Est.get_more hj hr hn hm hk).2.2]
          exact h.moreSet hr (by omega) (by omega) (by omega)
@[simp] theorem Est.pages_got (e : Est) (k n : Int) : (e.got k n).p.pages = e.p.pages := by
  unfold Est.got; split
  · split
    · split <;> simp [Est.withP]
    · rfl
  · rfl

/-- How many regions there are. -/
def countTo (f : Nat → Option Reg) : Nat → Int
  | 0 => 0
  | n + 1 => if (f n).isSome then countTo f n + 1 else countTo f n
def Est.count (e : Est) : Int := countTo e.reg 16
theorem countTo_le (f : Nat → Option Reg) : ∀ n : Nat, 0 ≤ countTo f n ∧ countTo f n ≤ n
  | 0 => by simp [countTo]
  | n + 1 => by
    have := countTo_le f n
    rw [countTo]; split <;> omega

/-- A word is stored. -/
def Est.store (e : Est) (k n : Int) : Est := e.withP (e.p.store k n)
theorem Est.Ok.store {e : Est} (h : e.Ok) (k n : Int) : (e.store k n).Ok := by
  have h1 : (e.p.store k n).fresh = e.p.fresh ∧ (e.p.store k n).given = e.p.given := by unfold St.store; split <;> simp
  refine ⟨St.ok_store h.ok k n, h.top, h.nodup, h.apart, fun x => ?_, h.used⟩
  show _ ↔ 0 ≤ x ∧ x < (e.p.store k n).fresh ∧ x ∉ (e.p.store k n).given
  rw [h1.1, h1.2]
  exact h.mem x

#print axioms Est.Ok.got
end Go.Proofs.Ytphindejlinleaa
