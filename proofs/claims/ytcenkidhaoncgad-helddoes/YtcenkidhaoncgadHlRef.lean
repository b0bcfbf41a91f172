/-
  Contracts of the document's own list of what is held (copyholdref.Holds), of In and SameInts: what they answer, and the state then; all other memory stays as it was.
-/
import Derived.Test.YtcenkidhaoncgadHlMem
namespace Go.Proofs.Ytcenkidhaoncgad
open Go.ChangeShapes Go.WideShapes Go.ChangeAt Go.RowKit
set_option linter.unusedVariables false

theorem hbelowN {B : Nat} {a w : World} (h : Below B a w) (n : Nat) : Below B a (w.drewN n) := ⟨h.os, h.tape, h.output, h.size, h.block⟩
theorem hid_of {p : Prop} (h : p) : Hid p := h
/-- A row of single cells that a slice value owns, its block among O. -/
def VRow (w : World) (O : Nat → Prop) (t : TypeId) (v : Value) (vs : List Value) : Prop := w.ownsRow 0 t 1 v vs.length vs ∧ ∀ g, v.ownBlock = some g → O g
section
variable {w w' : World} {O O' : Nat → Prop} {t : TypeId} {v : Value} {vs : List Value}
theorem VRow.nil (w : World) (O : Nat → Prop) (t : TypeId) : VRow w O t (.slice none 0 0) [] := ⟨⟨rfl, Or.inl ⟨rfl, rfl⟩⟩, by simp [Value.ownBlock]⟩
theorem VRow.form (h : VRow w O t v vs) : ∃ a cap, v = .slice a vs.length cap ∧ (∀ i, i < vs.length → ∃ g, a = some ⟨g, 0, none⟩ ∧ O g ∧ w.cell? ⟨g, i, none⟩ = vs[i]? ∧ w.frozen? ⟨g, i, none⟩ = false) := by
  obtain ⟨⟨h1, h2⟩, h3⟩ := h
  rcases h2 with ⟨rfl, h4⟩ | ⟨g, cap, cur, rfl, _, hh, hn, hm, hs, ht⟩
  · rw [h4]
    exact ⟨none, 0, rfl, fun i hi => by omega⟩
  · refine ⟨some ⟨g, 0, none⟩, cap, rfl, fun i hi => ⟨g, rfl, h3 g rfl, ?_, freeOf hh i⟩⟩
    have hc : i < cur.size := by omega
    rw [cellOf hh i cur[i] (by simp), ← ht, List.getElem?_take, if_pos (by omega), Array.getElem?_toList, Array.getElem?_eq_getElem hc]
theorem VRow.keep (h : VRow w O t v vs) (hb : ∀ g, v.ownBlock = some g → w'.heap[g]? = w.heap[g]?) (hO : ∀ g, v.ownBlock = some g → O' g) : VRow w' O' t v vs := by
  obtain ⟨⟨h1, h2⟩, h3⟩ := h
  refine ⟨⟨h1, ?_⟩, hO⟩
  rcases h2 with h4 | ⟨g, cap, cur, rfl, hg, hh, r⟩
  · exact Or.inl h4
  · exact Or.inr ⟨g, cap, cur, rfl, hg, (hb g rfl).trans hh, r⟩
theorem VRow.block (h : VRow w O t v vs) {g : Nat} (hg : v.ownBlock = some g) : ∃ c, w.heap[g]? = some (.cells c t (0, 0)) := by
  obtain ⟨⟨h1, h2⟩, h3⟩ := h
  rcases h2 with ⟨rfl, _⟩ | ⟨g', cap, cur, rfl, _, hh, r⟩
  · simp [Value.ownBlock] at hg
  · simp [Value.ownBlock] at hg; subst hg; exact ⟨cur, hh⟩
theorem VRow.lt (h : VRow w O t v vs) {g : Nat} (hg : v.ownBlock = some g) : g < w.heap.size := by
  obtain ⟨c, hc⟩ := h.block hg
  exact lt_of_block hc
theorem VRow.set {g n cap : Nat} (h : VRow w O t (.slice (some ⟨g, 0, none⟩) n cap) vs) (i : Nat) (u : Value) : VRow (w.setCell ⟨g, i, none⟩ u) O t (.slice (some ⟨g, 0, none⟩) n cap) (vs.set i u) := by
  obtain ⟨⟨h1, h2⟩, h3⟩ := h
  rcases h2 with ⟨e, _⟩ | ⟨g', cap', cur, e, hg, hh, hn, hm, hs, ht⟩
  · cases e
  · cases e
    refine ⟨⟨by simp, Or.inr ⟨g, cap, cur.setIfInBounds i u, by simp, Nat.zero_le _, blockSet hh i u, by simpa using hn, hm, by simpa using hs, ?_⟩⟩, h3⟩
    rw [Array.toList_setIfInBounds, List.length_set, List.take_set, ht]
end

/-- In w the document's list of what is held lies at block b, the blocks that it owns are among O, and it is in the state L. -/
def HoldsAt (w : World) (b : Nat) (O : Nat → Prop) (L : List Bool) : Prop :=
  ∃ v, w.heap[b]? = some (.cells #[v] 33 (0, 0)) ∧ VRow w O 4 v (L.map Value.bool) ∧ O b
section
variable {w w' : World} {b : Nat} {O O' P P' : Nat → Prop} {L : List Bool}
theorem HoldsAt.keep (h : HoldsAt w b O L) (hb : ∀ g, O g → g < w.heap.size → w'.heap[g]? = w.heap[g]?) (hO : ∀ g, O g → g < w.heap.size → O' g) : HoldsAt w' b O' L := by
  obtain ⟨v, h1, h2, h3⟩ := h
  exact ⟨v, (hb b h3 (lt_of_block h1)).trans h1, h2.keep (fun g hg => hb g (h2.2 g hg) (h2.lt hg)) (fun g hg => hO g (h2.2 g hg) (h2.lt hg)), hO b h3 (lt_of_block h1)⟩
theorem HoldsAt.below (h : HoldsAt w b O L) (k : Below w.heap.size w w') : HoldsAt w' b O L := h.keep (fun g _ hg => k.block g hg) (fun g hg _ => hg)
theorem HoldsAt.step (h : HoldsAt w b O L) (k : Step P P' w w') (hd : ∀ x, O x → ¬ P x) : HoldsAt w' b O L := h.keep (fun g hO hg => k.block g hg (hd g hO)) (fun g hg _ => hg)
theorem HoldsAt.mono (h : HoldsAt w b O L) (hO : ∀ g, O g → O' g) : HoldsAt w b O' L := h.keep (fun _ _ _ => rfl) (fun g hg _ => hO g hg)
theorem HoldsAt.ownB (h : HoldsAt w b O L) : O b := by obtain ⟨v, h1, h2, h3⟩ := h; exact h3
theorem HoldsAt.lt (h : HoldsAt w b O L) : b < w.heap.size := by obtain ⟨v, h1, h2, h3⟩ := h; exact lt_of_block h1
/-- What a walk reads of it. -/
theorem HoldsAt.cells (h : HoldsAt w b O L) : ∃ a cap, w.cell? ⟨b, 0, none⟩ = some (.slice a L.length cap) ∧ w.frozen? ⟨b, 0, none⟩ = false ∧ w.ownsRow 0 4 1 (.slice a L.length cap) L.length (L.map Value.bool) ∧
    ∀ i, i < L.length → ∃ g, a = some ⟨g, 0, none⟩ ∧ O g ∧ w.cell? ⟨g, i, none⟩ = some (.bool (L.getD i false)) ∧ w.frozen? ⟨g, i, none⟩ = false ∧ ∀ u, HoldsAt (w.setCell ⟨g, i, none⟩ (.bool u)) b O (L.set i u) := by
  obtain ⟨v, h1, h2, h3⟩ := h
  obtain ⟨a, cap, rfl, h4⟩ := h2.form
  rw [List.length_map] at h1 h2 h4
  have h5 := h2.1
  rw [List.length_map] at h5
  refine ⟨a, cap, cellOf h1 0 _ rfl, freeOf h1 0, h5, fun i hi => ?_⟩
  obtain ⟨g, rfl, hg, hc, hf⟩ := h4 i hi
  refine ⟨g, rfl, hg, ?_, hf, fun u => ⟨.slice (some ⟨g, 0, none⟩) L.length cap, ?_, ?_, h3⟩⟩
  · rw [hc, List.getElem?_map, List.getElem?_eq_getElem hi]; simp [List.getD, hi]
  · obtain ⟨c, hcc⟩ := h2.block (g := g) rfl
    rw [Below.heap_setCell _ _ _ _ (blockNe h1 hcc (by decide))]; exact h1
  · rw [List.map_set]; exact h2.set i (.bool u)
/-- One more, appended and stored back. -/
theorem HoldsAt.push (h : HoldsAt w b O L) {a : Option Addr} {cap cap2 g : Nat} {o : Obj} {w9 : World} (c0 : w.cell? ⟨b, 0, none⟩ = some (.slice a L.length cap))
    (h1 : w9.ownsRow 0 4 1 (.slice (some ⟨g, 0, none⟩) (L.length + 1) cap2) (L.length + 1) (L.map Value.bool ++ [.bool true])) (h2 : (w.alloc o).grownBy w9 (Value.slice a L.length cap).ownBlock) (h3 : (Value.slice a L.length cap).ownBlock = some g ∨ g = w.heap.size + 1) (h4 : g < w9.heap.size) :
    w9.cell? ⟨b, 0, none⟩ = some (.slice a L.length cap) ∧ w9.frozen? ⟨b, 0, none⟩ = false ∧
    HoldsAt (w9.setCell ⟨b, 0, none⟩ (.slice (some ⟨g, 0, none⟩) (L.length + 1) cap2)) b (fun x => O x ∨ (w.heap.size ≤ x ∧ x < w9.heap.size)) (L ++ [true]) ∧ Step O (fun x => O x ∨ (w.heap.size ≤ x ∧ x < w9.heap.size)) w (w9.setCell ⟨b, 0, none⟩ (.slice (some ⟨g, 0, none⟩) (L.length + 1) cap2)) := by
  obtain ⟨v, k1, k2, k3⟩ := h
  have e := cellOf k1 0 _ rfl
  rw [c0] at e
  simp only [Option.some.injEq] at e
  subst e
  have hbl : b < w.heap.size := lt_of_block k1
  have hne : ∀ g', (Value.slice a L.length cap).ownBlock = some g' → b ≠ g' := fun g' hg' => by
    obtain ⟨c, hc⟩ := k2.block hg'
    exact blockNe k1 hc (by decide)
  have kb : w9.heap[b]? = some (.cells #[.slice a L.length cap] 33 (0, 0)) := by
    have := h2.block b (by simp; omega) (fun e => hne b e.symm rfl)
    rw [this, Below.heap_alloc _ _ _ hbl]; exact k1
  have hgb : b ≠ g := by
    rcases h3 with h | h
    · exact hne g h
    · omega
  have hsz := h2.size
  simp only [World.size_alloc] at hsz
  refine ⟨cellOf kb 0 _ rfl, freeOf kb 0, ⟨.slice (some ⟨g, 0, none⟩) (L.length + 1) cap2, ?_, ⟨?_, fun g' hg' => ?_⟩, .inl k3⟩, ?_⟩
  · rw [blockSet kb]; rfl
  · have : VRow w9 (fun _ => True) 4 (.slice (some ⟨g, 0, none⟩) (L.length + 1) cap2) ((L ++ [true]).map Value.bool) := ⟨by simpa using h1, fun _ _ => trivial⟩
    exact (this.keep (w' := w9.setCell ⟨b, 0, none⟩ (.slice (some ⟨g, 0, none⟩) (L.length + 1) cap2)) (O' := fun _ => True) (fun g' hg' => Below.heap_setCell _ _ _ _ (by simp [Value.ownBlock] at hg'; subst hg'; exact fun e => hgb e.symm)) (fun _ _ => trivial)).1
  · simp [Value.ownBlock] at hg'
    subst hg'
    rcases h3 with h | h
    · exact .inl (k2.2 _ h)
    · exact .inr ⟨by omega, h4⟩
  · refine ⟨h2.os, h2.tape, h2.output, by simp; omega, fun k hk hn => ?_, fun k hk => hk.imp id fun h => h.1⟩
    rw [Below.heap_setCell _ _ _ _ (fun e => hn (by subst e; exact k3)), h2.block k (by simp; omega) (fun e => hn (k2.2 k e.symm)), Below.heap_alloc _ _ _ hk]
end

theorem holds_has {w : World} {b : Nat} {O : Nat → Prop} {L : List Bool} (r : Int) (hL : L.length ≤ 100000) (h : HoldsAt w b O L) :
    Calls Try.prog 8 #[.pointer (some ⟨b, 0, none⟩), .int .i64 r] w fun e w' => e = .returned (.bool (hHas L r)) ∧ w' = w := by
  obtain ⟨a, cap, c0, -, -, hc⟩ := h.cells
  by_cases h1 : 0 ≤ r
  · by_cases h2 : r < L.length
    · obtain ⟨k, rfl⟩ := Int.eq_ofNat_of_zero_le h1
      obtain ⟨g, rfl, -, c1, -, -⟩ := hc k (by omega)
      have E : Hid (hHas L (k : Int) = L.getD k false) := hHas_cast L k
      have h3 : k < L.length := by omega
      clear h hc
      generalize L.getD k false = q at c1 E
      generalize L.length = n at c0 h2 h3 hL
      go_enter Try.func8, Try.ntmps8
      go_wp2
      go_ret
      exact ⟨by rw [E.out]; rfl, rfl⟩
    · have E : Hid (hHas L r = false) := by
        show _ = _
        obtain ⟨k, rfl⟩ := Int.eq_ofNat_of_zero_le h1
        rw [hHas_cast, getD_ge L (by omega)]
      have h2' : decide (r < (L.length : Int)) = false := by simpa using h2
      clear h hc
      generalize L.length = n at c0 h2 h2' hL
      go_enter Try.func8, Try.ntmps8
      go_wp2
      go_ret
      exact ⟨by rw [E.out]; rfl, rfl⟩
  · have E : Hid (hHas L r = false) := by show _ = _; simp [hHas, h1]
    have h1' : decide (0 ≤ r) = false := by simpa using h1
    clear h hc
    generalize L.length = n at c0 hL
    go_enter Try.func8, Try.ntmps8
    go_wp2
    go_ret
    exact ⟨by rw [E.out]; rfl, rfl⟩

theorem hUnderB : Try.prog.underlying 31 = some (.slice 4) := by kernel_rfl
theorem hInfoB0 : (Try.prog.info? 4).map (fun i => (i.zero, i.size, i.bytes)) = some (some (.bool false), 1, 1) := by kernel_rfl
theorem hInfoB : ∃ i, Try.prog.info? 4 = some i ∧ i.zero = some (.bool false) ∧ i.size = 1 ∧ i.bytes = 1 := by
  have h := hInfoB0
  cases e : Try.prog.info? 4 with
  | none => rw [e] at h; cases h
  | some i =>
    rw [e] at h
    simp only [Option.map_some, Option.some.injEq, Prod.mk.injEq] at h
    exact ⟨i, rfl, h.1, h.2.1, h.2.2⟩
theorem hOneB (q : Bool) : ∀ u ∈ [Value.bool q], u.oneCell' = true := by
  intro u h
  simp at h
  subst h; rfl

set_option maxHeartbeats 1000000 in
theorem newHolds_any (w : World) (n : Int) :
    Calls Try.prog 6 #[.int .i64 n] w fun e w' => e = .returned (.pointer (some ⟨w.heap.size, 0, none⟩)) ∧ HoldsAt w' w.heap.size (fun x => w.heap.size ≤ x ∧ x < w'.heap.size) (hNew n) ∧ Below w.heap.size w w' := by
  obtain ⟨i0, hi, hz0, hz1, hz2⟩ := hInfoB
  have Z : Hid (HoldsAt (w.alloc (.cells #[.slice none 0 0] 33)) w.heap.size (fun x => w.heap.size ≤ x ∧ x < (w.alloc (.cells #[.slice none 0 0] 33)).heap.size) []) :=
    ⟨.slice none 0 0, blockNew _ _ _, VRow.nil _ _ _, by simp⟩
  obtain ⟨M, hM⟩ : ∃ M, (min n 16).toNat = M := ⟨_, rfl⟩
  have E : Hid (hNew n = List.replicate M true) := by show _ = _; rw [hNew, hM]
  go_enter Try.func6, Try.ntmps6
  go_wp2
  go_loopw [4] (fun i wr => ∃ k : Nat, k ≤ M ∧ i = .int .i64 k ∧ HoldsAt wr w.heap.size (fun x => w.heap.size ≤ x ∧ x < wr.heap.size) (List.replicate k true) ∧ Below w.heap.size w wr) (fun i _ => M - (intOf i).toNat)
  case atStart => exact ⟨0, Nat.zero_le _, rfl, Z.out, (Below.refl _ _).alloc (Nat.le_refl _) _⟩
  case round =>
    obtain ⟨k, hk, rfl, hA, hB⟩ := hrel
    have HB : Hid (Below w.heap.size w wr) := hB
    have HA : Hid (HoldsAt wr w.heap.size (fun x => w.heap.size ≤ x ∧ x < wr.heap.size) (List.replicate k true)) := hA
    obtain ⟨a, cap, c0, f0, how, -⟩ := hA.cells
    have hown : Hid (wr.ownsRow 0 4 1 (.slice a (List.replicate k true).length cap) (List.replicate k true).length ((List.replicate k true).map Value.bool)) := how
    clear hA hB how Z
    by_cases hlt : k < M
    · have h1 : (k : Int) < n := by omega
      have h2 : (k : Int) < 16 := by omega
      have PU : Hid (∀ g cap2 w9, w9.ownsRow 0 4 1 (.slice (some ⟨g, 0, none⟩) (k + 1) cap2) (k + 1) ((List.replicate k true).map Value.bool ++ [.bool true]) → (wr.alloc (.cells #[.bool true] 4)).grownBy w9 (Value.slice a k cap).ownBlock → ((Value.slice a k cap).ownBlock = some g ∨ g = wr.heap.size + 1) → g < w9.heap.size →
          w9.cell? ⟨w.heap.size, 0, none⟩ = some (.slice a k cap) ∧ w9.frozen? ⟨w.heap.size, 0, none⟩ = false ∧ HoldsAt (w9.setCell ⟨w.heap.size, 0, none⟩ (.slice (some ⟨g, 0, none⟩) (k + 1) cap2)) w.heap.size (fun x => w.heap.size ≤ x ∧ x < (w9.setCell ⟨w.heap.size, 0, none⟩ (.slice (some ⟨g, 0, none⟩) (k + 1) cap2)).heap.size) (List.replicate (k + 1) true) ∧ Below w.heap.size w (w9.setCell ⟨w.heap.size, 0, none⟩ (.slice (some ⟨g, 0, none⟩) (k + 1) cap2))) := by
        intro g cap2 w9 q1 q2 q3 q4
        have hsz := HB.out.size
        have hs9 := q2.size
        simp only [World.size_alloc] at hs9
        have := HA.out.push (a := a) (cap := cap) (cap2 := cap2) (g := g) (o := .cells #[.bool true] 4) (w9 := w9) c0 (by simpa using q1) (by simpa using q2) (by simpa using q3) q4
        simp only [List.length_replicate] at this
        refine ⟨this.1, this.2.1, ?_, HB.out.trans (this.2.2.2.below hsz fun k hk => hk.1)⟩
        rw [List.replicate_succ']
        refine this.2.2.1.mono fun x hx => ?_
        rw [World.size_setCell]
        rcases hx with hx | hx <;> omega
      rw [List.length_replicate] at c0 hown
      generalize (List.replicate k true).map Value.bool = cs at hown PU
      clear HA HB
      go_wp2_with (at_builtin; refine wpList_append_lies _ rfl (.tmp 20) (.tmp 21) 31 rfl 0 4 i0 (.bool false) 1 1 hUnderB hi hz0 hz1 hz2 rfl (by decide) _ _ _ rfl (hown.out.alloc _) ⟨wr.heap.size, 0, none⟩ 1 1 [.bool true] rfl rfl (newsP _ [_] _) (hOneB _) (by decide) (by unfold maxLen; omega) (by omega) (by simp) (wr.heap.size + 1) (by simp) ?_)
      intro g2 cap2 w9 q1 hgrow hat hlt1
      obtain ⟨c9, f9, r9, b9⟩ := PU.out g2 cap2 w9 q1 hgrow hat hlt1
      have R9 := hid_of r9
      have B9 := hid_of b9
      clear q1 hgrow hat hlt1 hown PU r9 b9 c0 f0
      go_wp2
      go_roundw
      case rel => exact ⟨k + 1, by omega, by go_num, R9.out, B9.out⟩
      case measure => simp [intOf]; omega
    · have hkM : k = M := by omega
      have R : Hid (HoldsAt wr w.heap.size (fun x => w.heap.size ≤ x ∧ x < wr.heap.size) (hNew n)) := by
        show HoldsAt _ _ _ _
        rw [E.out, ← hkM]; exact HA.out
      by_cases h1 : (k : Int) < n
      · have h2 : decide ((k : Int) < 16) = false := by simp; omega
        go_wp2
        go_ret
        exact ⟨rfl, R.out, HB.out⟩
      · have h2 : decide ((k : Int) < n) = false := by simpa using h1
        go_wp2
        go_ret
        exact ⟨rfl, R.out, HB.out⟩

set_option maxHeartbeats 1000000 in
theorem holds_list {w : World} {b : Nat} {O : Nat → Prop} {L : List Bool} (hL : L.length ≤ 100000) (h : HoldsAt w b O L) :
    Calls Try.prog 16 #[.pointer (some ⟨b, 0, none⟩)] w fun e w' => IntsOut w (hList L) e w' := by
  obtain ⟨i0, hi, hz0, hz1, hz2⟩ := pInfoI
  obtain ⟨a0, cap0, c0, -, -, hc⟩ := h.cells
  have hbl := h.lt
  have HC : Hid (∀ i, i < L.length → ∃ g, a0 = some ⟨g, 0, none⟩ ∧ g < w.heap.size ∧ w.cell? ⟨g, i, none⟩ = some (.bool (L.getD i false))) := fun i hi => by
    obtain ⟨g, e, -, c1, -⟩ := hc i hi
    exact ⟨g, e, World.block_lt_of_cell? w ⟨g, i, none⟩ c1, c1⟩
  clear h hc
  go_enter Try.func16, Try.ntmps16
  go_wp2
  go_loopw [3, 4] (fun v u wr => ∃ k cs, u = .int .i64 (k : Nat) ∧ k ≤ L.length ∧ ARow Lay.int 3 wr w.heap.size v (hTo L k) cs ∧ Below w.heap.size w wr) (fun _ u _ => L.length - (intOf u).toNat)
  case atStart => exact ⟨0, [], rfl, Nat.zero_le _, ARow.nil _ _ _ _, Below.refl _ _⟩
  case round =>
    obtain ⟨k, cs, rfl, hk, hA, hB⟩ := hrel
    obtain ⟨a, c, rfl⟩ := hA.formP
    have HA : Hid (ARow Lay.int 3 wr w.heap.size (.slice a (hTo L k).length c) (hTo L k) cs) := hA
    have HB : Hid (Below w.heap.size w wr) := hB
    have hlen := hTo_len L k
    have hsz : w.heap.size ≤ wr.heap.size := hB.size
    have c0' : wr.cell? ⟨b, 0, none⟩ = some (.slice a0 L.length cap0) := (hB.cell (p := ⟨b, 0, none⟩) hbl).trans c0
    clear hA hB
    by_cases hlt : k < L.length
    · have hlt' : (k : Int) < L.length := by omega
      obtain ⟨g, rfl, hgl, c1⟩ := HC.out k hlt
      have c1' : wr.cell? ⟨g, k, none⟩ = some (.bool (L.getD k false)) := (HB.out.cell (p := ⟨g, k, none⟩) hgl).trans c1
      clear c1 c0
      cases hm : L.getD k false with
      | false =>
        have E2 : Hid (hTo L (k + 1) = hTo L k) := by show _ = _; rw [hTo, hm]; simp
        rw [hm] at c1'
        clear hm
        go_wp2
        go_roundw
        case rel => exact ⟨k + 1, cs, by go_num, by omega, by rw [E2.out]; exact HA.out, HB.out⟩
        case measure => simp [intOf]; omega
      | true =>
        have E2 : Hid (hTo L (k + 1) = hTo L k ++ [(k : Int)]) := by show _ = _; rw [hTo, hm]; simp
        rw [hm] at c1'
        have hown : Hid (wr.ownsRow w.heap.size 3 1 (.slice a (hTo L k).length c) (hTo L k).length cs) := HA.out.own
        have PU : Hid (∀ g cap w9, w9.ownsRow w.heap.size 3 1 (.slice (some ⟨g, 0, none⟩) ((hTo L k).length + 1) cap) ((hTo L k).length + 1) (cs ++ [.int .i64 (k : Int)]) → (wr.alloc (.cells #[.int .i64 (k : Int)] 3)).grownBy w9 (Value.slice a (hTo L k).length c).ownBlock → ((Value.slice a (hTo L k).length c).ownBlock = some g ∨ g = wr.heap.size + 1) →
            ARow Lay.int 3 w9 w.heap.size (.slice (some ⟨g, 0, none⟩) ((hTo L k).length + 1) cap) (hTo L (k + 1)) (cs ++ [.int .i64 (k : Int)]) ∧ Below w.heap.size w w9) := by
          intro g cap w9 h1 h2 h3
          obtain ⟨q1, q2⟩ := intRow_push HA.out (by omega) hsz h1 h2 h3
          rw [E2.out]
          exact ⟨q1, q2 w HB.out⟩
        clear hm HA HB E2
        generalize (hTo L k).length = n at hown PU hlen ⊢
        go_wp2_with (at_builtin; refine wpList_append_lies _ rfl (.tmp 21) (.tmp 23) 28 rfl w.heap.size 3 i0 (.int .i64 0) 1 8 pUnderI hi hz0 hz1 hz2 rfl (by decide) _ _ _ rfl (hown.out.alloc _) ⟨wr.heap.size, 0, none⟩ 1 1 [.int .i64 (k : Int)] rfl rfl (newsP _ [_] _) (pOneI _) (by decide) (by unfold maxLen; omega) (by omega) (by simp; omega) (wr.heap.size + 1) (by simp) ?_)
        intro g2 cap2 w9 h1 hgrow hat hlt1
        obtain ⟨q1, q2⟩ := PU.out g2 cap2 w9 h1 hgrow hat
        have A9 := hid_of q1
        have B9 := hid_of q2
        clear h1 hgrow hat hlt1 hown PU q1 q2
        go_wp2
        go_roundw
        case rel => exact ⟨k + 1, _, by go_num, by omega, A9.out, B9.out⟩
        case measure => simp [intOf]; omega
    · have hkL : k = L.length := by omega
      have Z : Hid (IntsOut w (hList L) (.returned (.slice a (hTo L k).length c)) wr) := by
        subst hkL
        exact ⟨a, c, rfl, HA.out.lay, HB.out⟩
      have hlt' : ¬ (k : Int) < L.length := by omega
      clear HA HB hlen hkL c0
      generalize (hTo L k).length = n at Z
      generalize L.length = m at c0' hlt' hlt
      go_wp2
      go_ret
      exact Z.out

theorem in_ints {w : World} {Q : Nat → Prop} {l : List Int} {a : Option Addr} {N c : Nat} (x : Int) (hN : l.length = N) (hN2 : N ≤ 100000) (hl : intsL.In w Q l [.slice a N c]) :
    Calls Try.prog 17 #[.slice a N c, .int .i64 x] w fun e w' => e = .returned (.bool (inB l x)) ∧ w' = w := by
  have HX : Hid (∀ i x, l[i]? = some x → ∃ g o, a = some ⟨g, o, none⟩ ∧ w.cell? ⟨g, o + i, none⟩ = some (.int .i64 x)) := fun i x hi => by
    obtain ⟨g, o, ds, e1, e2, e3, hc, hd, hr⟩ := Lay.list_at hl hi
    have hd' : ds = [.int .i64 x] := hd
    subst hd'
    refine ⟨g, o, e1, ?_⟩
    have := hc 0 (by decide)
    simpa [Lay.int] using this
  have HN : Hid (l.length = N) := hN
  clear hl hN
  go_enter Try.func17, Try.ntmps17
  go_wp2
  go_loop [5] (fun i => ∃ k : Nat, k ≤ N ∧ i = .int .i64 k ∧ inB (l.take k) x = false) (fun i => N - (intOf i).toNat)
  case atStart => exact ⟨0, Nat.zero_le _, rfl, by simp [inB]⟩
  case round =>
    obtain ⟨k, hk, rfl, hno⟩ := hrel
    by_cases hlt : k < N
    · have hxi : l[k]? = some (l[k]'(by rw [HN.out]; exact hlt)) := List.getElem?_eq_getElem _
      generalize l[k]'(by rw [HN.out]; exact hlt) = y at hxi
      obtain ⟨g, o, rfl, yc⟩ := HX.out k y hxi
      have hlt' : (k : Int) < N := by omega
      by_cases he : y = x
      · have E : Hid (inB l x = true) := inB_iff.2 (by rw [← he]; exact List.mem_of_getElem? hxi)
        have he' : (y == x) = true := by simpa using he
        clear he hno hxi
        go_wp2
        go_ret
        exact ⟨by rw [E.out]; rfl, rfl⟩
      · have he' : (y == x) = false := by simpa using he
        have N1 : Hid (inB (l.take (k + 1)) x = false) := by
          show _ = _
          rw [List.take_add_one, hxi, Option.toList_some, inB_snoc, hno]
          simpa using he
        clear he hno hxi
        go_wp2
        go_round
        case rel => exact ⟨k + 1, by omega, by go_num, N1.out⟩
        case measure => simp [intOf]; omega
    · have E : Hid (inB l x = false) := by
        rw [List.take_of_length_le (by rw [HN.out]; omega)] at hno
        exact hno
      clear hno
      go_wp2
      go_ret
      exact ⟨by rw [E.out]; rfl, rfl⟩

set_option maxHeartbeats 400000 in
theorem sameInts_eq {w : World} {Q R : Nat → Prop} {l : List Int} {a b : Option Addr} {N c d : Nat} (hN : l.length = N) (hN2 : N ≤ 100000) (hl : intsL.In w Q l [.slice a N c]) (hm : intsL.In w R l [.slice b N d]) :
    Calls Try.prog 14 #[.slice a N c, .slice b N d] w fun e w' => e = .returned (.bool true) ∧ Below w.heap.size w w' := by
  have hX : ∀ {Q : Nat → Prop} {a : Option Addr} {c : Nat}, intsL.In w Q l [.slice a N c] → ∀ i x, l[i]? = some x → ∃ g o, a = some ⟨g, o, none⟩ ∧ w.cell? ⟨g, o + i, none⟩ = some (.int .i64 x) := fun {Q a c} hl i x hi => by
    obtain ⟨g, o, ds, e1, e2, e3, hc, hd, hr⟩ := Lay.list_at hl hi
    have hd' : ds = [.int .i64 x] := hd
    subst hd'
    refine ⟨g, o, e1, ?_⟩
    have := hc 0 (by decide)
    simpa [Lay.int] using this
  have HX : Hid (∀ i x, l[i]? = some x → ∃ g o, a = some ⟨g, o, none⟩ ∧ w.cell? ⟨g, o + i, none⟩ = some (.int .i64 x)) := hX hl
  have HY : Hid (∀ i x, l[i]? = some x → ∃ g o, b = some ⟨g, o, none⟩ ∧ w.cell? ⟨g, o + i, none⟩ = some (.int .i64 x)) := hX hm
  have HN : Hid (l.length = N) := hN
  clear hl hm hN hX
  go_enter Try.func14, Try.ntmps14
  go_wp2
  go_loopw [5] (fun i wr => ∃ k m : Nat, k ≤ N ∧ i = .int .i64 k ∧ wr = w.drewN m) (fun i _ => N - (intOf i).toNat)
  case atStart => exact ⟨0, 0, Nat.zero_le _, rfl, rfl⟩
  case round =>
    obtain ⟨k, m, hk, rfl, rfl⟩ := hrel
    by_cases hlt : k < N
    · have hxi : l[k]? = some (l[k]'(by rw [HN.out]; exact hlt)) := List.getElem?_eq_getElem _
      generalize l[k]'(by rw [HN.out]; exact hlt) = y at hxi
      obtain ⟨g, o, rfl, hg⟩ := HX.out k y hxi
      obtain ⟨g', o', rfl, hg'⟩ := HY.out k y hxi
      have hb1 : (k : Int) < N := by omega
      have hb0 : (0 : Int) ≤ k := by omega
      clear hxi
      go_wp2_with fail
      go_quiet (fail)
      go_wp2
      go_roundw
      case rel => exact ⟨k + 1, _, by omega, by go_num, rfl⟩
      case measure => simp [intOf]; omega
    · go_wp2
      go_ret
      exact ⟨rfl, hbelowN (Below.refl _ _) _⟩

/-- The first i of a list. -/
theorem ints_take {w : World} {Q : Nat → Prop} {l : List Int} {a : Option Addr} {N c : Nat} (h : intsL.In w Q l [.slice a N c]) {i : Nat} (hi : i ≤ l.length) (c' : Nat) : intsL.In w Q (l.take i) [.slice a i c'] := by
  obtain ⟨a', d, e, h1⟩ := h
  simp only [List.cons.injEq, Value.slice.injEq, and_true] at e
  obtain ⟨rfl, _, rfl⟩ := e
  refine ⟨a, c', by simp [Nat.min_eq_left hi], fun j x hj => h1 j x ?_⟩
  rw [List.getElem?_take] at hj
  split at hj
  · exact hj
  · cases hj

set_option maxHeartbeats 2000000 in
theorem holds_pass {w : World} {b : Nat} {O : Nat → Prop} {L : List Bool} {Q : Nat → Prop} {l : List Int} {a : Option Addr} {N c : Nat} (hN : l.length = N) (hN2 : N ≤ 100000) (hNc : N ≤ c) (hL : L.length ≤ 100000) (hl : intsL.In w Q l [.slice a N c]) (h : HoldsAt w b O L) :
    Calls Try.prog 11 #[.pointer (some ⟨b, 0, none⟩), .slice a N c] w fun e w' => e = .returned (.int .i64 (hPass L [] l)) ∧ Below w.heap.size w w' := by
  have HX : Hid (∀ i x, l[i]? = some x → ∃ g o, a = some ⟨g, o, none⟩ ∧ g < w.heap.size ∧ w.cell? ⟨g, o + i, none⟩ = some (.int .i64 x)) := fun i x hi => by
    obtain ⟨g, o, ds, e1, e2, e3, hc, hd, hr⟩ := Lay.list_at hl hi
    have hd' : ds = [.int .i64 x] := hd
    subst hd'
    refine ⟨g, o, e1, e3, ?_⟩
    have := hc 0 (by decide)
    simpa [Lay.int] using this
  have HN : Hid (l.length = N) := hN
  have HH : Hid (HoldsAt w b O L) := h
  have HI : Hid (intsL.In w Q l [.slice a N c]) := hl
  clear h hl hN
  go_enter Try.func11, Try.ntmps11
  go_wp2
  go_loopw [5] (fun u wr => ∃ k, u = .int .i64 (k : Nat) ∧ k ≤ N ∧ (HoldsAt wr b O L ∧ intsL.In wr Q l [.slice a N c] ∧ Below w.heap.size w wr) ∧ hPass L [] l = hPass L (l.take k) (l.drop k)) (fun u _ => N - (intOf u).toNat)
  case atStart => exact ⟨0, rfl, Nat.zero_le _, ⟨HH.out, HI.out, Below.refl _ _⟩, rfl⟩
  case round =>
    obtain ⟨k, rfl, hk, hA, hp⟩ := hrel
    have HA : Hid (HoldsAt wr b O L ∧ intsL.In wr Q l [.slice a N c] ∧ Below w.heap.size w wr) := hA
    clear HH HI hA
    have HP : Hid (hPass L [] l = hPass L (l.take k) (l.drop k)) := hp
    clear hp
    by_cases hlt : k < N
    · have hxi : l[k]? = some (l[k]'(by rw [HN.out]; exact hlt)) := List.getElem?_eq_getElem _
      generalize l[k]'(by rw [HN.out]; exact hlt) = x at hxi
      obtain ⟨g, o, rfl, hg, yc⟩ := HX.out k x hxi
      have yc' : wr.cell? ⟨g, o + k, none⟩ = some (.int .i64 x) := (HA.out.2.2.cell (p := ⟨g, o + k, none⟩) hg).trans yc
      clear yc
      have hlt' : (k : Int) < N := by omega
      have hk0 : (0 : Int) ≤ k := by omega
      have hkc : (k : Int) ≤ c := by omega
      have PS := hPass_step L l hxi
      rw [← HP.out] at PS
      have C : Hid (Calls Try.prog 8 #[.pointer (some ⟨b, 0, none⟩), .int .i64 x] wr fun e w' => e = .returned (.bool (hHas L x)) ∧ w' = wr) := holds_has x hL HA.out.1
      cases hh : hHas L x with
      | false =>
        rw [hh] at C PS
        have E : Hid (hPass L [] l = 10) := by show _ = _; simpa using PS
        clear PS hh hxi
        go_wp2_with (go_at_call 8; refine (C.out).mono ?_; rintro e w' ⟨rfl, hw⟩; have hw := hw.symm; subst hw)
        go_ret
        exact ⟨by rw [E.out]; rfl, HA.out.2.2⟩
      | true =>
        rw [hh] at C PS
        have D : Hid (∀ n, Calls Try.prog 17 #[.slice (some ⟨g, o, none⟩) k c, .int .i64 x] (wr.drewN n) fun e w' => e = .returned (.bool (inB (l.take k) x)) ∧ w' = wr.drewN n) := fun n =>
          in_ints x (by simp; rw [HN.out]; omega) (by omega) (Lay.drewN (ints_take HA.out.2.1 (by rw [HN.out]; omega) c) n)
        cases hi : inB (l.take k) x with
        | true =>
          rw [hi] at PS D
          have E : Hid (hPass L [] l = 13) := by show _ = _; simpa using PS
          clear PS hh hxi hi
          go_wp2_with (go_at_call 8; refine (C.out).mono ?_; rintro e w' ⟨rfl, hw⟩; have hw := hw.symm; subst hw)
          go_quiet ((go_at_call 17; exact Calls.quiet_of_same (D.out _)))
          go_wp2
          go_ret
          exact ⟨by rw [E.out]; rfl, hbelowN HA.out.2.2 _⟩
        | false =>
          rw [hi] at PS D
          have E : Hid (hPass L [] l = hPass L (l.take (k + 1)) (l.drop (k + 1))) := by show _ = _; simpa using PS
          clear PS hh hxi hi HP
          go_wp2_with (go_at_call 8; refine (C.out).mono ?_; rintro e w' ⟨rfl, hw⟩; have hw := hw.symm; subst hw)
          go_quiet ((go_at_call 17; exact Calls.quiet_of_same (D.out _)))
          go_wp2
          go_roundw
          case rel => exact ⟨k + 1, by go_num, by omega, ⟨HA.out.1, Lay.drewN HA.out.2.1 _, hbelowN HA.out.2.2 _⟩, E.out⟩
          case measure => simp [intOf]; omega
    · have hlt' : ¬ (k : Int) < N := by omega
      have hkl : l.length ≤ k := by rw [HN.out]; omega
      have PE : Hid (hPass L [] l = if (hList L).all (fun r => inB l r) then 0 else 12) := by
        have := hPass_end L l hkl
        rw [← HP.out] at this
        exact this
      clear HP HX hkl
      go_wp2_with fail
      refine (holds_list hL HA.out.1).mono ?_
      rintro e w2 ⟨a2, c2, rfl, i2, b2⟩
      have HB : Hid (Below w.heap.size w w2) := HA.out.2.2.trans (b2.mono HA.out.2.2.size)
      have HI2 : Hid (intsL.In w2 Q l [.slice a N c]) := Lay.below HA.out.2.1 b2
      have HX2 : Hid (∀ i x, (hList L)[i]? = some x → ∃ g o, a2 = some ⟨g, o, none⟩ ∧ w2.cell? ⟨g, o + i, none⟩ = some (.int .i64 x)) := fun i x hi => by
        obtain ⟨g, o, ds, e1, e2, e3, hc, hd, hr⟩ := Lay.list_at i2 hi
        have hd' : ds = [.int .i64 x] := hd
        subst hd'
        refine ⟨g, o, e1, ?_⟩
        have := hc 0 (by decide)
        simpa [Lay.int] using this
      obtain ⟨M, hM⟩ : ∃ M, (hList L).length = M := ⟨_, rfl⟩
      have hM2 : M ≤ 100000 := by have := hList_len L; omega
      have HM : Hid ((hList L).length = M) := hM
      rw [hM]
      clear b2 i2 HA hM
      go_wp2_with fail
      go_loop [7] (fun i => ∃ j : Nat, j ≤ M ∧ i = .int .i64 j ∧ ((hList L).take j).all (fun r => inB l r) = true) (fun i => M - (intOf i).toNat)
      case atStart => exact ⟨0, Nat.zero_le _, rfl, by simp⟩
      case round =>
        obtain ⟨j, hj, rfl, hno⟩ := hrel
        have HO : Hid (((hList L).take j).all (fun r => inB l r) = true) := hno
        clear hno
        by_cases hlt2 : j < M
        · have hxi : (hList L)[j]? = some ((hList L)[j]'(by rw [HM.out]; exact hlt2)) := List.getElem?_eq_getElem _
          generalize (hList L)[j]'(by rw [HM.out]; exact hlt2) = y at hxi
          obtain ⟨g, o, rfl, yc⟩ := HX2.out j y hxi
          have hlt2' : (j : Int) < M := by omega
          have D : Hid (Calls Try.prog 17 #[.slice a N c, .int .i64 y] w2 fun e w' => e = .returned (.bool (inB l y)) ∧ w' = w2) := in_ints y HN.out hN2 HI2.out
          cases hi : inB l y with
          | true =>
            rw [hi] at D
            have N1 : Hid (((hList L).take (j + 1)).all (fun r => inB l r) = true) := by
              show _ = _
              rw [List.take_add_one, hxi, Option.toList_some, List.all_append, HO.out]
              simp [hi]
            clear hi hxi HO
            go_wp2_with (go_at_call 17; refine (D.out).mono ?_; rintro e w' ⟨rfl, hw⟩; have hw := hw.symm; subst hw)
            go_round
            case rel => exact ⟨j + 1, by omega, by go_num, N1.out⟩
            case measure => simp [intOf]; omega
          | false =>
            rw [hi] at D
            have E : Hid (hPass L [] l = 12) := by
              show _ = _
              have hf : (hList L).all (fun r => inB l r) = false := by
                rw [Bool.eq_false_iff]
                intro h
                have := List.all_eq_true.1 h y (List.mem_of_getElem? hxi)
                rw [hi] at this
                cases this
              rw [PE.out, hf]; rfl
            clear hi hxi HO
            go_wp2_with (go_at_call 17; refine (D.out).mono ?_; rintro e w' ⟨rfl, hw⟩; have hw := hw.symm; subst hw)
            go_ret
            exact ⟨by rw [E.out]; rfl, HB.out⟩
        · have E : Hid (hPass L [] l = 0) := by
            show _ = _
            have := HO.out
            rw [List.take_of_length_le (by rw [HM.out]; omega)] at this
            rw [PE.out, this]; rfl
          have hlt2' : ¬ (j : Int) < M := by omega
          clear HO
          go_wp2
          go_ret
          exact ⟨by rw [E.out]; rfl, HB.out⟩

end Go.Proofs.Ytcenkidhaoncgad
