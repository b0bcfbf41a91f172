/-
  More contracts: copies of lists (slices.Clone, an estate's Pages), the comparing of lists (SameInts), the making of an estate (New), and what an estate does as its pool (Free).
-/
import Derived.Test.YtphindejlinleaaEst2
import Derived.Deep.RegionWith
namespace Go.Proofs.Ytphindejlinleaa
open Go.ChangeShapes Go.WideShapes Go.ChangeAt Go.RowKit
set_option linter.unusedVariables false

theorem cloneInts_any (w : World) (O : Nat → Prop) (v : Value) (xs : List Int) (h : Row w O 3 v xs) (hn : xs.length ≤ 1000000) :
    Calls Try.prog 54 #[v] w fun e w' => ∃ a cap, e = .returned (.slice a xs.length cap) ∧ Row w' (fun x => w.heap.size ≤ x) 3 (.slice a xs.length cap) xs ∧ Below w.heap.size w w' := by
  obtain ⟨i0, hi, hz0, hz1, hz2⟩ := info_parts info_int
  have q : ∀ (w : World) (a : Option Addr) (n c n' c' : Nat), (binOp .eql 39 (.slice a n c) (.slice none n' c')).run Try.prog w = .ok (.bool a.isNone) w := fun w a n c n' c' => Lib.run_eql_slice_nil w _ _ a n c n' c' under_ints
  have hc := fun g0 n0 cap0 (e : v = .slice (some ⟨g0, 0, none⟩) n0 cap0) => (show ∀ i, i < xs.length → w.cell? ⟨g0, i, none⟩ = some (.int .i64 (xs.getD i 0)) from by subst e; exact h.cell)
  obtain ⟨a, cap, rfl, ha, hs⟩ := h.form
  cases a with
  | none =>
    obtain ⟨e1, e2⟩ := ha rfl
    subst e1 e2
    clear ha hs h hc
    go_enter Try.func54, Try.ntmps54
    go_wp2
    go_ret
    exact ⟨none, 0, rfl, Row.nil _ _ _, Below.refl _ _⟩
  | some g0 =>
    have e0 := (hs g0 rfl).1
    have hlt := h.lt (g := g0.block) (by rw [e0]; rfl)
    obtain ⟨g, rfl⟩ : ∃ g, g0 = ⟨g, 0, none⟩ := ⟨g0.block, e0⟩
    have hnews : Hid (∀ j u, (xs.map (Value.int .i64))[j]? = some u → (w.alloc (.cells #[] 3)).cell? (Addr.add ⟨g, 0, none⟩ j) = some u) := by
      intro j u hj
      have hjn : j < xs.length := by
        have := (List.getElem?_eq_some_iff.1 hj).1
        simpa using this
      rw [Addr.add_lit, Nat.zero_add]
      refine Lib.cell?_alloc_some _ ?_
      rw [hc g _ _ rfl j hjn]
      rw [← hj]; simp [hjn]
    have HO : Hid (∀ u, u ∈ xs.map (Value.int .i64) → u.oneCell' = true) := by intro u hu; obtain ⟨x, _, rfl⟩ := List.mem_map.1 hu; rfl
    have hml : Hid ((xs.map (Value.int .i64)).length = xs.length * 1) := by show _ = _; simp
    have HY : Hid (∀ v' w1, World.ownsRow w1 w.heap.size 3 1 v' xs.length (xs.map (Value.int .i64)) → Row w1 (fun x => w.heap.size ≤ x) 3 v' xs) := by
      intro v' w1 hown
      obtain ⟨h1, h2⟩ := hown
      refine ⟨⟨by simp, ?_⟩, fun x hx => ?_⟩
      · rcases h2 with h2 | ⟨g', cap', cur, hv, hg, hh, r⟩
        · exact Or.inl (by simpa using h2)
        · exact Or.inr ⟨g', cap', cur, by simpa using hv, Nat.zero_le _, hh, by simpa using r⟩
      · rcases h2 with h2 | ⟨g', cap', cur, hv, hg, hh, r⟩
        · rw [h2.1] at hx; simp [Value.ownBlock] at hx
        · rw [hv] at hx; simp [Value.ownBlock] at hx; omega
    obtain ⟨ys, hys⟩ : ∃ ys, xs.map (Value.int .i64) = ys := ⟨_, rfl⟩
    obtain ⟨len, hl⟩ : ∃ len, xs.length = len := ⟨_, rfl⟩
    rw [hys, hl] at hml HY
    rw [hys] at hnews HO
    have HL : Hid (xs.length = len) := hl
    rw [hl] at hn ⊢
    clear hc ha hs h e0 hys hl
    go_enter Try.func54, Try.ntmps54
    go_wp2_with (at_builtin; refine wpList_append_own _ rfl _ _ 39 rfl w.heap.size 3 i0 (.int .i64 0) 1 8 under_ints hi hz0 hz1 hz2 rfl (by decide) _ _ _ rfl (World.ownsRow_made w #[] 0 (Nat.le_refl _) (Nat.zero_le _) rfl) ⟨g, 0, none⟩ len cap ys rfl hml.out hnews.out HO.out (by unfold maxLen; omega) (by omega) (by simp) ?_)
    intro v' w1 hown hgrow hnil
    go_wp2
    go_ret
    have hrow := HY.out v' w1 hown
    obtain ⟨a', cap', rfl, -, -⟩ := hrow.form
    rw [HL.out] at hrow ⊢
    refine ⟨a', cap', rfl, hrow, ?_⟩
    exact ((Below.refl _ w).alloc (Nat.le_refl _) _).grown hgrow (by simp) (by intro k hk; simp [Value.ownBlock] at hk; omega)

theorem epages_any (w : World) (b bp : Nat) (O : Nat → Prop) (e : Est) (k : Int) (h : EstAt w b bp O e) :
    Calls Try.prog 41 #[.pointer (some ⟨b, 0, none⟩), .int .i64 k] w fun e' w' => ∃ a cap, e' = .returned (.slice a (if e.has k then e.pagesAt k.toNat else []).length cap) ∧ Row w' (fun x => w.heap.size ≤ x) 3 (.slice a (if e.has k then e.pagesAt k.toNat else []).length cap) (if e.has k then e.pagesAt k.toNat else []) ∧ Below w.heap.size w w' := by
  have C : Hid (Calls Try.prog 36 #[.pointer (some ⟨b, 0, none⟩), .int .i64 k] w fun e' w' => e' = .returned (.bool (e.has k)) ∧ w' = w) := has_any w b bp O e k h.1
  cases hh : e.has k with
  | false =>
    rw [hh] at C
    clear h hh
    go_enter Try.func41, Try.ntmps41
    go_wp2_with (go_at_call 36; refine (C.out).mono ?_; rintro e w' ⟨rfl, rfl⟩)
    go_ret
    exact ⟨none, 0, rfl, Row.nil _ _ _, Below.refl _ _⟩
  | true =>
    rw [hh] at C
    obtain ⟨j, r, rfl, hj, hr⟩ := Est.has_true hh
    have hlen := h.2.lenR hr
    obtain ⟨⟨L, g, hp⟩, hok⟩ := h
    have c := hp.cellAt j hj
    rw [hr] at c
    simp only [ptrOf] at c
    obtain ⟨v, hv1, hv2, hv3⟩ := hp.reg j r hr
    have cv : w.cell? ⟨g j, 0, none⟩ = some v := cellOf hv1 0 _ rfl
    have hj1 : (j : Int) < 16 := by omega
    have G : Hid (Calls Try.prog 54 #[v] w fun e w' => ∃ a cap, e = .returned (.slice a r.pages.length cap) ∧ Row w' (fun x => w.heap.size ≤ x) 3 (.slice a r.pages.length cap) r.pages ∧ Below w.heap.size w w') := cloneInts_any w _ v r.pages hv2 (by omega)
    have e1 : (if true = true then e.pagesAt (Int.toNat (j : Int)) else []) = r.pages := by simp [Est.at_some hr]
    rw [e1]
    obtain ⟨a, cap, rfl, -, -⟩ := hv2.form
    generalize g j = gk at c cv
    clear hp hok hr hh hv1 hv2 hv3 e1
    go_enter Try.func41, Try.ntmps41
    go_wp2_with (first | (go_at_call 36; refine (C.out).mono ?_; rintro e' w' ⟨rfl, hw⟩; have hw := hw.symm; subst hw) | (go_at_call 54; refine (G.out).mono ?_; rintro e' w5 ⟨a5, cap5, rfl, hw5⟩))
    go_ret
    exact ⟨a5, cap5, rfl, hw5⟩

set_option maxHeartbeats 400000 in
theorem sameInts_any (w : World) (v u : Value) (xs : List Int) (hv : Longs w v xs) (hu : Longs w u xs) (hx : xs.length ≤ 1000000) :
    Calls Try.prog 40 #[v, u] w fun e w' => e = .returned (.bool true) ∧ ∃ m, w' = w.drewN m := by
  obtain ⟨a, cap, rfl, ha⟩ := hv
  obtain ⟨b, bap, rfl, hb⟩ := hu
  obtain ⟨len, hlen⟩ : ∃ len, xs.length = len := ⟨_, rfl⟩
  rw [hlen] at hx ha hb ⊢
  clear hlen
  go_enter Try.func40, Try.ntmps40
  go_wp2
  go_loopw [5] (fun i wr => ∃ k m : Nat, k ≤ len ∧ i = .int .i64 k ∧ wr = w.drewN m) (fun i _ => len - (intOf i).toNat)
  case atStart => exact ⟨0, 0, Nat.zero_le _, rfl, rfl⟩
  case round =>
    obtain ⟨k, m, hk, rfl, rfl⟩ := hrel
    by_cases hlt : k < len
    · obtain ⟨g, o, rfl, hg⟩ := ha k hlt
      obtain ⟨g', o', rfl, hg'⟩ := hb k hlt
      clear ha hb
      obtain ⟨y, hy⟩ : ∃ y, y = xs.getD k 0 := ⟨_, rfl⟩
      rw [← hy] at hg hg'
      clear hy
      have hb1 : (k : Int) < len := by omega
      have hb0 : (0 : Int) ≤ k := by omega
      go_wp2_with fail
      go_quiet (fail)
      go_wp2
      go_roundw
      case rel => exact ⟨k + 1, _, by omega, by go_num, rfl⟩
      case measure => simp [intOf]; omega
    · clear ha hb
      go_wp2
      go_ret
      exact ⟨rfl, _, rfl⟩

theorem enew_no (w : World) (n : Int) (h : n < 0 ∨ 64 < n) :
    Calls Try.prog 28 #[.int .i64 n] w fun e w' => e = .returned (.tuple #[.pointer none, .agg #[.int .i64 1, .int .i64 (-1)]]) ∧ Below w.heap.size w w' := by
  have C : Hid (∀ w, Calls Try.prog 14 #[.int .i64 n] w fun e w' => e = .returned (.tuple #[.pointer none, .agg #[.int .i64 1, .int .i64 (-1)]]) ∧ Below w.heap.size w w') := fun w => new_no w n h
  clear h
  go_enter Try.func28, Try.ntmps28
  go_wp2_with fail
  refine (C.out _).mono ?_
  rintro e w5 ⟨rfl, b5⟩
  have hX : w5.heap[w.heap.size]? = some (.cells #[.int .i64 0, .int .i64 0] 31 (0, 0)) := (b5.block w.heap.size (by simp)).trans (blockNew w _ _)
  have B : Hid (Below w.heap.size w w5) := ((Below.refl _ w).alloc (Nat.le_refl _) _).trans (b5.mono (by simp))
  have hlt := lt_of_block hX
  have x0 : w5.cell? ⟨w.heap.size, 0, none⟩ = some (.int .i64 0) := cellOf hX 0 _ rfl
  have x1 : w5.cell? ⟨w.heap.size, 1, none⟩ = some (.int .i64 0) := cellOf hX 1 _ rfl
  have f0 := freeOf hX 0
  have f1 := freeOf hX 1
  have hge : w.heap.size ≤ w.heap.size := Nat.le_refl _
  generalize hXX : w.heap.size = X at *
  clear hX b5
  go_wp2
  go_region
  go_wp2
  refine bodyPost_ret (v := .tuple #[.pointer none, .agg #[.int .i64 1, .int .i64 (-1)]]) (by simp [results, Try.results28, go_sem, x0, x1, hlt]) rfl ⟨rfl, ?_⟩
  have B2 := ((B.out.setCell (p := ⟨X, 0, none⟩) (Nat.le_refl X) (.int .i64 1)).setCell (p := ⟨X, 1, none⟩) (Nat.le_refl X) (.int .i64 (-1)))
  rw [hXX]
  exact ((B2.alloc (by simp; omega) _)).drew

/-- A new estate's cells. -/
def newEst (bp : Nat) : Array Value := #[.pointer (some ⟨bp, 0, none⟩), .pointer none, .pointer none, .pointer none, .pointer none, .pointer none, .pointer none, .pointer none, .pointer none, .pointer none, .pointer none, .pointer none, .pointer none, .pointer none, .pointer none, .pointer none, .pointer none]
theorem newEst_at (bp : Nat) : ∀ i, i < 17 → (newEst bp)[i]? = some (estF bp (fun _ => none) (fun _ => 0) i) := by
  intro i hi
  have : i = 0 ∨ i = 1 ∨ i = 2 ∨ i = 3 ∨ i = 4 ∨ i = 5 ∨ i = 6 ∨ i = 7 ∨ i = 8 ∨ i = 9 ∨ i = 10 ∨ i = 11 ∨ i = 12 ∨ i = 13 ∨ i = 14 ∨ i = 15 ∨ i = 16 := by omega
  rcases this with h | h | h | h | h | h | h | h | h | h | h | h | h | h | h | h | h <;> subst h <;> rfl
theorem est_new (w : World) (n : Nat) (h : n ≤ 64) (bp X Y : Nat) (hp : PoolAt w bp (fun x => X + 1 ≤ x ∧ x < Y) (St.new n)) (hX : X < w.heap.size) (hY : Y ≤ w.heap.size) :
    EstAt (w.alloc (.cells (newEst bp) 63)) w.heap.size bp (fun x => X ≤ x ∧ x < (w.alloc (.cells (newEst bp) 63)).heap.size) (Est.new n) := by
  refine ⟨⟨fun x => if x = w.heap.size then 1 else if X + 1 ≤ x ∧ x < Y then 2 else 0, fun _ => 0, ?_, ?_, ?_, ?_, ?_⟩, Est.ok_new n h⟩
  · exact ⟨newEst bp, blockNew w _ _, rfl, newEst_at bp⟩
  · simp
  · refine (hp.step (Step.of_alloc (fun _ => False) w _) (fun _ _ h => h)).mono (fun x hx _ => ?_)
    have : ¬ x = w.heap.size := by omega
    simp [this, hx]
  · intro k r hr; simp [Est.new] at hr
  · intro x hx
    by_cases h1 : x = w.heap.size
    · subst h1; simp; omega
    · by_cases h2 : X + 1 ≤ x ∧ x < Y
      · simp; omega
      · simp [h1, h2] at hx

theorem enew_yes (w : World) (n : Nat) (h : n ≤ 64) :
    Calls Try.prog 28 #[.int .i64 n] w fun e w' => ∃ b bp, e = .returned (.tuple #[.pointer (some ⟨b, 0, none⟩), .agg #[.int .i64 0, .int .i64 0]]) ∧ EstAt w' b bp (fun x => w.heap.size ≤ x ∧ x < w'.heap.size) (Est.new n) ∧ Below w.heap.size w w' := by
  have C : Hid (∀ w, Calls Try.prog 14 #[.int .i64 n] w fun e w' => ∃ b, e = .returned (.tuple #[.pointer (some ⟨b, 0, none⟩), .agg #[.int .i64 0, .int .i64 0]]) ∧ PoolAt w' b (fun x => w.heap.size ≤ x ∧ x < w'.heap.size) (St.new n) ∧ Below w.heap.size w w') := fun w => new_yes w n h
  go_enter Try.func28, Try.ntmps28
  go_wp2_with fail
  refine (C.out _).mono ?_
  rintro e w5 ⟨bp, rfl, p5, b5⟩
  have hX : w5.heap[w.heap.size]? = some (.cells #[.int .i64 0, .int .i64 0] 31 (0, 0)) := (b5.block w.heap.size (by simp)).trans (blockNew w _ _)
  have B : Hid (Below w.heap.size w w5 ∧ PoolAt w5 bp (fun x => w.heap.size + 1 ≤ x ∧ x < w5.heap.size) (St.new n)) := ⟨((Below.refl _ w).alloc (Nat.le_refl _) _).trans (b5.mono (by simp)), p5.mono (fun x hx _ => ⟨by have := hx.1; simp at this; omega, hx.2⟩)⟩
  have hlt := lt_of_block hX
  have x0 : w5.cell? ⟨w.heap.size, 0, none⟩ = some (.int .i64 0) := cellOf hX 0 _ rfl
  have x1 : w5.cell? ⟨w.heap.size, 1, none⟩ = some (.int .i64 0) := cellOf hX 1 _ rfl
  have f0 := freeOf hX 0
  have f1 := freeOf hX 1
  generalize hXX : w.heap.size = X at *
  clear hX b5 p5
  go_wp2
  refine bodyPost_ret (v := .tuple #[.pointer (some ⟨w5.heap.size + 1, 0, none⟩), .agg #[.int .i64 0, .int .i64 0]]) (by simp [results, Try.results28, go_sem, x0, x1, hlt]) rfl ⟨w5.heap.size + 1, bp, rfl, ?_, ?_⟩
  · rw [hXX]
    have S : Step (fun x => x = X) (fun x => x = X) w5 (((w5.setCell ⟨X, 0, none⟩ (.int .i64 0)).setCell ⟨X, 1, none⟩ (.int .i64 0)).alloc (.cells #[.int .i64 0, .int .i64 0] 31)) :=
      (((Step.refl (fun x => x = X) w5).setCell (p := ⟨X, 0, none⟩) rfl _).setCell (p := ⟨X, 1, none⟩) rfl _).alloc _
    have := est_new _ n h bp X w5.heap.size (B.out.2.step S (fun x h1 h2 => by omega)) (by simp; omega) (by simp)
    simpa [newEst] using this
  · rw [hXX]
    have B2 := ((B.out.1.setCell (p := ⟨X, 0, none⟩) (Nat.le_refl X) (.int .i64 0)).setCell (p := ⟨X, 1, none⟩) (Nat.le_refl X) (.int .i64 0))
    exact (B2.alloc (by simp; omega) _).alloc (by simp; omega) _

/-- What an estate does as its pool. -/
theorem efree_any (w : World) (b bp : Nat) (O : Nat → Prop) (e : Est) (h : EstMem w b bp O e) :
    Calls Try.prog 24 #[.pointer (some ⟨bp, 0, none⟩)] w fun e' w' => e' = .returned (.int .i64 e.p.free) ∧ ∃ m, w' = w.drewN m := by
  obtain ⟨L, g, h⟩ := h
  exact free_any w bp _ e.p h.pool
theorem EstMem.cell0 {w : World} {b bp : Nat} {O : Nat → Prop} {e : Est} (h : EstMem w b bp O e) : w.cell? ⟨b, 0, none⟩ = some (.pointer (some ⟨bp, 0, none⟩)) := by
  obtain ⟨L, g, h⟩ := h
  exact h.cell0

end Go.Proofs.Ytphindejlinleaa
