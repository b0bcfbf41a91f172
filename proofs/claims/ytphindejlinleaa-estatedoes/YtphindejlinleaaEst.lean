/-
  Contracts of package estate's functions: each returns what the document's estate answers, and leaves in memory the estate that the document has then; all other memory stays as it was.
-/
import Derived.Test.YtphindejlinleaaEstMem
import Derived.Deep.MidRow
import Derived.RegionTactic
namespace Go.Proofs.Ytphindejlinleaa
open Go.ChangeShapes Go.WideShapes Go.ChangeAt Go.RowKit
set_option linter.unusedVariables false

theorem Parts.cellAt {w : World} {b bp : Nat} {O : Nat → Prop} {e : Est} {L g : Nat → Nat} (h : Parts w b O e L bp g) (k : Nat) (hk : k < 16) : w.cell? ⟨b, 1 + k, none⟩ = some (ptrOf (e.reg k) (g k)) := by
  have := h.row.cell (i := 1 + k) (by omega)
  rw [this]
  simp [estF]
theorem Parts.cell0 {w : World} {b bp : Nat} {O : Nat → Prop} {e : Est} {L g : Nat → Nat} (h : Parts w b O e L bp g) : w.cell? ⟨b, 0, none⟩ = some (.pointer (some ⟨bp, 0, none⟩)) := by
  have := h.row.cell (i := 0) (by omega)
  rw [this]; rfl

theorem has_any (w : World) (b bp : Nat) (O : Nat → Prop) (e : Est) (k : Int) (h : EstMem w b bp O e) :
    Calls Try.prog 36 #[.pointer (some ⟨b, 0, none⟩), .int .i64 k] w fun e' w' => e' = .returned (.bool (e.has k)) ∧ w' = w := by
  obtain ⟨L, g, h⟩ := h
  by_cases h1 : 0 ≤ k
  · by_cases h2 : k < 16
    · obtain ⟨j, rfl⟩ := Int.eq_ofNat_of_zero_le h1
      have c := h.cellAt j (by omega)
      cases hr : e.reg j with
      | none =>
        rw [hr] at c
        have E : Hid (e.has j = false) := Est.has_none hr
        simp only [ptrOf] at c
        clear h hr
        go_enter Try.func36, Try.ntmps36
        go_wp2
        go_ret
        exact ⟨by rw [E.out]; rfl, rfl⟩
      | some r =>
        rw [hr] at c
        have E : Hid (e.has j = true) := Est.has_of (by omega) hr
        simp only [ptrOf] at c
        clear h hr
        go_enter Try.func36, Try.ntmps36
        go_wp2
        go_ret
        exact ⟨by rw [E.out]; rfl, rfl⟩
    · have E : Hid (e.has k = false) := Est.has_out (by omega)
      clear h
      go_enter Try.func36, Try.ntmps36
      go_wp2
      go_ret
      exact ⟨by rw [E.out]; rfl, rfl⟩
  · have E : Hid (e.has k = false) := Est.has_out (by omega)
    clear h
    go_enter Try.func36, Try.ntmps36
    go_wp2
    go_ret
    exact ⟨by rw [E.out]; rfl, rfl⟩

/-- The regions' pointers, as one value. -/
def ptrsOf (e : Est) (g : Nat → Nat) : List Value := (List.range 16).map fun k => ptrOf (e.reg k) (g k)
theorem Parts.range {w : World} {b bp : Nat} {O : Nat → Prop} {e : Est} {L g : Nat → Nat} (h : Parts w b O e L bp g) : w.rangeAt b 1 (ptrsOf e g) := by
  intro j v hv
  have hj : j < 16 := by
    have := (List.getElem?_eq_some_iff.1 hv).1
    simpa [ptrsOf] using this
  rw [h.cellAt j hj, ← hv]
  simp [ptrsOf, hj]
theorem index_ptrs (w : World) (e : Est) (g : Nat → Nat) (k : Nat) (hk : k < 16) :
    (Instr.index 61 (.agg (ptrsOf e g).toArray) (.int .i64 k)).run Try.prog w = .ok (ptrOf (e.reg k) (g k)) w := by
  have e1 : (ptrsOf e g)[k]? = some (ptrOf (e.reg k) (g k)) := by simp [ptrsOf, hk]
  have e2 : (sizeOf 60).run Try.prog w = .ok 1 w := by kernel_rfl
  simp [Instr.index, run_underlying Try.underlying61, asIntOf, e2, part, hk, e1]

theorem count_any (w : World) (b bp : Nat) (O : Nat → Prop) (e : Est) (h : EstMem w b bp O e) :
    Calls Try.prog 38 #[.pointer (some ⟨b, 0, none⟩)] w fun e' w' => e' = .returned (.int .i64 e.count) ∧ w' = w := by
  obtain ⟨L, g, h⟩ := h
  have hld : Hid (w.rangeAt b 1 (ptrsOf e g)) := h.range
  clear h
  go_enter Try.func38, Try.ntmps38
  go_wp2_with (refine wpList_load_mid rfl 61 (.tmp 8) rfl b 1 rfl (ptrsOf e g) _ hld.out Try.underlying61 rfl (by kernel_rfl) ?_)
  go_loop [3, 10] (fun n i => ∃ k : Nat, k ≤ 16 ∧ i = .int .i64 k ∧ n = .int .i64 (countTo e.reg k)) (fun _ i => 16 - (intOf i).toNat)
  case atStart => exact ⟨0, by omega, rfl, rfl⟩
  case round =>
    obtain ⟨k, hk, rfl, rfl⟩ := hrel
    have hc := countTo_le e.reg k
    by_cases hlt : k < 16
    · have hix := fun w => index_ptrs w e g k hlt
      cases hr : e.reg k with
      | none =>
        have E : Hid (countTo e.reg (k + 1) = countTo e.reg k) := by show _ = _; simp [countTo, hr]
        rw [hr] at hix
        simp only [ptrOf] at hix
        clear hr
        go_wp2
        go_round
        case rel => exact ⟨k + 1, by omega, by go_num, by rw [E.out]⟩
        case measure => simp [intOf]; omega
      | some r =>
        have E : Hid (countTo e.reg (k + 1) = countTo e.reg k + 1) := by show _ = _; simp [countTo, hr]
        rw [hr] at hix
        simp only [ptrOf] at hix
        clear hr
        go_wp2
        go_round
        case rel => exact ⟨k + 1, by omega, by go_num, by rw [E.out]⟩
        case measure => simp [intOf]; omega
    · have e16 : k = 16 := by omega
      subst e16
      have E : Hid (countTo e.reg 16 = e.count) := rfl
      go_wp2
      go_ret
      exact ⟨by rw [E.out]; rfl, rfl⟩

/-- A new region's cells. -/
def newReg : Obj := .cells #[.slice none 0 0, .int .i64 0] 82
theorem Parts.mono {w : World} {b bp : Nat} {O O' : Nat → Prop} {e : Est} {L g : Nat → Nat} (h : Parts w b O e L bp g) (hO : ∀ x, O x → x < w.heap.size → O' x) : Parts w b O' e L bp g :=
  ⟨h.row, h.own, h.pool, h.reg, fun x hx => ⟨hO x (h.all x hx).1 (h.all x hx).2, (h.all x hx).2⟩⟩
theorem Parts.opened {w : World} {b bp : Nat} {O : Nat → Prop} {e : Est} {L g : Nat → Nat} (h : Parts w b O e L bp g) (k : Nat) (hk : k < 16) (hn : e.reg k = none) :
    EstMem ((w.alloc newReg).setCell ⟨b, 1 + k, none⟩ (.pointer (some ⟨w.heap.size, 0, none⟩))) b bp (grow O w ((w.alloc newReg).setCell ⟨b, 1 + k, none⟩ (.pointer (some ⟨w.heap.size, 0, none⟩)))) (e.set k (some ⟨[], 0⟩)) ∧
    Step O (grow O w ((w.alloc newReg).setCell ⟨b, 1 + k, none⟩ (.pointer (some ⟨w.heap.size, 0, none⟩)))) w ((w.alloc newReg).setCell ⟨b, 1 + k, none⟩ (.pointer (some ⟨w.heap.size, 0, none⟩))) := by
  have k2 : Step (fun x => L x = 1) (fun x => L x = 1) w ((w.alloc newReg).setCell ⟨b, 1 + k, none⟩ (.pointer (some ⟨w.heap.size, 0, none⟩))) := ((Step.refl _ w).alloc newReg).setCell (p := ⟨b, 1 + k, none⟩) h.own _
  have hlt := h.row.lt
  have hrow := (h.row.alloc newReg).set (1 + k) (.pointer (some ⟨w.heap.size, 0, none⟩))
  have hnew : ((w.alloc newReg).setCell ⟨b, 1 + k, none⟩ (.pointer (some ⟨w.heap.size, 0, none⟩))).heap[w.heap.size]? = some (.cells #[.slice none 0 0, .int .i64 0] 82 (0, 0)) := by
    rw [Below.heap_setCell _ _ _ _ (show w.heap.size ≠ b by omega)]; exact blockNew w _ _
  have hsz : ((w.alloc newReg).setCell ⟨b, 1 + k, none⟩ (.pointer (some ⟨w.heap.size, 0, none⟩))).heap.size = w.heap.size + 1 := by simp
  generalize (w.alloc newReg).setCell ⟨b, 1 + k, none⟩ (.pointer (some ⟨w.heap.size, 0, none⟩)) = w' at *
  refine ⟨⟨relab L (k + 3) w w', fun j => if j = k then w.heap.size else g j, ?_, ?_, ?_, ?_, ?_⟩, step_grow h.all (by decide) k2⟩
  · refine hrow.congr fun i hi => ?_
    unfold estF ptrOf Est.set
    by_cases e0 : i = 0
    · subst e0; rw [if_neg (by omega)]; rfl
    · by_cases e1 : i = 1 + k
      · subst e1; simp
      · have e2 : ¬ (i - 1 = k) := by omega
        simp [e0, e1, e2]
  · exact (relab_other h.all (by omega) (by decide) b).2 h.own
  · exact (h.pool.step k2 (fun x h1 h2 => by omega)).mono (fun x hx _ => (relab_other h.all (by omega) (by decide) x).2 hx)
  · intro j q hq
    by_cases e1 : j = k
    · subst e1
      have : q = ⟨[], 0⟩ := by simpa [Est.set] using hq.symm
      subst this
      refine ⟨.slice none 0 0, ?_, Row.nil _ _ _, ?_⟩
      · simpa [Reg.left] using hnew
      · simp [relab, hsz]
    · have hq' : e.reg j = some q := by simpa [Est.set, e1] using hq
      have := ((h.reg j q hq').step k2 (fun x h1 h2 => by omega)).mono (O' := fun x => relab L (k + 3) w w' x = j + 3) (fun x hx _ => (relab_other h.all (by omega) (by omega) x).2 hx)
      simpa [e1] using this
  · exact relab_all h.all (by omega) (by omega)

theorem EstMem.refl_grow {w : World} {b bp : Nat} {O : Nat → Prop} {e : Est} (h : EstMem w b bp O e) : EstMem w b bp (grow O w w) e := h.mono grow_self

theorem open_any (w : World) (b bp : Nat) (O : Nat → Prop) (e : Est) (h : EstMem w b bp O e) :
    Calls Try.prog 30 #[.pointer (some ⟨b, 0, none⟩)] w fun e' w' => e' = .returned (.int .i64 e.openK) ∧ EstMem w' b bp (grow O w w') e.opened ∧ Step O (grow O w w') w w' := by
  have hh := h
  obtain ⟨L, g, h⟩ := h
  have hld : Hid (w.rangeAt b 1 (ptrsOf e g)) := h.range
  have HP : Hid (Parts w b O e L bp g) := h
  have hb := h.row.lt
  clear h
  have HH : Hid (EstMem w b bp O e) := hh
  clear hh
  go_enter Try.func30, Try.ntmps30
  go_wp2_with (refine wpList_load_mid rfl 61 (.tmp 7) rfl b 1 rfl (ptrsOf e g) _ hld.out Try.underlying61 rfl (by kernel_rfl) ?_)
  go_loop [9] (fun i => ∃ k : Nat, k ≤ 16 ∧ i = .int .i64 k ∧ ∀ j, j < k → e.reg j ≠ none) (fun i => 16 - (intOf i).toNat)
  case atStart => exact ⟨0, by omega, rfl, fun j hj => by omega⟩
  case round =>
    obtain ⟨k, hk, rfl, hno⟩ := hrel
    by_cases hlt : k < 16
    · have hix := fun w => index_ptrs w e g k hlt
      cases hr : e.reg k with
      | none =>
        have E : Hid (e.openK = k ∧ e.opened = e.set k (some ⟨[], 0⟩)) := Est.open_yes hno hlt hr
        have Q := HP.out.opened k hlt hr
        have D : Hid (EstMem ((w.alloc newReg).setCell ⟨b, 1 + k, none⟩ (.pointer (some ⟨w.heap.size, 0, none⟩))) b bp (grow O w ((w.alloc newReg).setCell ⟨b, 1 + k, none⟩ (.pointer (some ⟨w.heap.size, 0, none⟩)))) (e.set k (some ⟨[], 0⟩)) ∧
          Step O (grow O w ((w.alloc newReg).setCell ⟨b, 1 + k, none⟩ (.pointer (some ⟨w.heap.size, 0, none⟩)))) w ((w.alloc newReg).setCell ⟨b, 1 + k, none⟩ (.pointer (some ⟨w.heap.size, 0, none⟩)))) := Q
        have c1 := HP.out.cellAt k hlt
        have f1 := HP.out.row.frozen (1 + k)
        rw [hr] at hix c1
        simp only [ptrOf] at hix c1
        clear hr hno Q
        go_wp2
        go_ret
        rw [E.out.1, E.out.2, ← World.setCell_alloc_past _ _ _ _ hb]
        exact ⟨rfl, D.out⟩
      | some r =>
        have N : Hid (∀ j, j < k + 1 → e.reg j ≠ none) := fun j hj => by
          rcases Nat.lt_succ_iff_lt_or_eq.1 hj with h' | h'
          · exact hno j h'
          · subst h'; rw [hr]; simp
        rw [hr] at hix
        simp only [ptrOf] at hix
        clear hr hno
        go_wp2
        go_round
        case rel => exact ⟨k + 1, by omega, by go_num, N.out⟩
        case measure => simp [intOf]; omega
    · have E : Hid (e.openK = -1 ∧ e.opened = e) := Est.open_no (fun j hj => hno j (by omega))
      clear hno
      go_wp2
      go_ret
      rw [E.out.1, E.out.2]
      exact ⟨rfl, HH.out.refl_grow, Step.refl_grow O w⟩

/-- A region goes: nil stands for it. -/
theorem Parts.closed {w : World} {b bp : Nat} {O : Nat → Prop} {e : Est} {L g : Nat → Nat} (h : Parts w b O e L bp g) (k : Nat) (hk : k < 16) :
    Parts (w.setCell ⟨b, 1 + k, none⟩ (.pointer none)) b O (e.set k none) L bp g ∧ Step O O w (w.setCell ⟨b, 1 + k, none⟩ (.pointer none)) := by
  have k2 : Step (fun x => L x = 1) (fun x => L x = 1) w (w.setCell ⟨b, 1 + k, none⟩ (.pointer none)) := (Step.refl _ w).setCell (p := ⟨b, 1 + k, none⟩) h.own _
  have hO : O b := (h.all b (by rw [h.own]; decide)).1
  refine ⟨⟨?_, h.own, h.pool.step k2 (fun x h1 h2 => by omega), ?_, ?_⟩, (Step.refl O w).setCell (p := ⟨b, 1 + k, none⟩) hO _⟩
  · refine (h.row.set (1 + k) (.pointer none)).congr fun i hi => ?_
    unfold estF ptrOf Est.set
    by_cases e0 : i = 0
    · subst e0; rw [if_neg (by omega)]; rfl
    · by_cases e1 : i = 1 + k
      · subst e1; simp
      · have e2 : ¬ (i - 1 = k) := by omega
        simp [e0, e1, e2]
  · intro j q hq
    have hq' : e.reg j = some q := by
      by_cases e1 : j = k
      · subst e1; simp [Est.set] at hq
      · simpa [Est.set, e1] using hq
    exact (h.reg j q hq').step k2 (fun x h1 h2 => by omega)
  · intro x hx
    have := h.all x hx
    simpa using this

theorem take_succ (l : List Int) (j : Nat) (hj : j < l.length) : l.take (j + 1) = l.take j ++ [l.getD j 0] := by
  rw [List.take_succ_eq_append_getElem hj]; simp [List.getD, hj]

theorem shut_any (w : World) (b bp : Nat) (O : Nat → Prop) (e : Est) (k : Int) (h : EstAt w b bp O e) :
    Calls Try.prog 32 #[.pointer (some ⟨b, 0, none⟩), .int .i64 k] w fun e' w' => e' = .returned (.bool (e.has k)) ∧ EstMem w' b bp (grow O w w') (e.shut k) ∧ Step O (grow O w w') w w' := by
  have C : Hid (Calls Try.prog 36 #[.pointer (some ⟨b, 0, none⟩), .int .i64 k] w fun e' w' => e' = .returned (.bool (e.has k)) ∧ w' = w) := has_any w b bp O e k h.1
  cases hh : e.has k with
  | false =>
    have E : Hid (e.shut k = e) := Est.shut_no hh
    have HH : Hid (EstMem w b bp O e) := h.1
    rw [hh] at C
    clear h hh
    go_enter Try.func32, Try.ntmps32
    go_wp2_with (go_at_call 36; refine (C.out).mono ?_; rintro e w' ⟨rfl, rfl⟩)
    go_ret
    rw [E.out]
    exact ⟨rfl, HH.out.refl_grow, Step.refl_grow O _⟩
  | true =>
    rw [hh] at C
    obtain ⟨j, r, rfl, hj, hr⟩ := Est.has_true hh
    have E : Hid (e.shut j = (e.set j none).withP (e.p.giveAll r.pages)) := Est.shut_yes hj hr
    have hlen := h.2.lenR hr
    obtain ⟨⟨L, g, hp⟩, hok⟩ := h
    have c := hp.cellAt j hj
    rw [hr] at c
    simp only [ptrOf] at c
    obtain ⟨v, hv1, hv2, hv3⟩ := hp.reg j r hr
    have cv : w.cell? ⟨g j, 0, none⟩ = some v := cellOf hv1 0 _ rfl
    obtain ⟨a, cap, rfl, -, -⟩ := hv2.form
    have P0 : Hid (∃ L', Parts w b (grow O w w) (e.withP (e.p.giveAll (r.pages.take 0))) L' bp g ∧ Row w (fun x => L' x = j + 3) 3 (.slice a r.pages.length cap) r.pages ∧ Step O (grow O w w) w w) :=
      ⟨L, hp.mono grow_self, hv2, Step.refl_grow O w⟩
    obtain ⟨gj, hgj⟩ : ∃ gj, g j = gj := ⟨_, rfl⟩
    rw [hgj] at c cv
    obtain ⟨len, hl⟩ : ∃ len, r.pages.length = len := ⟨_, rfl⟩
    have HL : Hid (r.pages.length = len) := hl
    rw [hl] at cv hlen P0
    clear hp hok hv1 hv2 hv3 hr hh hl hgj
    have hj1 : (j : Int) < 16 := by omega
    go_enter Try.func32, Try.ntmps32
    go_wp2_with (go_at_call 36; refine (C.out).mono ?_; rintro e w' ⟨rfl, hw⟩; have hw := hw.symm; subst hw)
    go_loopw [21] (fun i wr => ∃ m : Nat, m ≤ len ∧ i = .int .i64 m ∧ ∃ L', Parts wr b (grow O w wr) (e.withP (e.p.giveAll (r.pages.take m))) L' bp g ∧ Row wr (fun x => L' x = j + 3) 3 (.slice a len cap) r.pages ∧ Step O (grow O w wr) w wr) (fun i _ => len - (intOf i).toNat)
    case atStart => exact ⟨0, by omega, rfl, P0.out⟩
    case round =>
      clear P0 c cv C
      obtain ⟨m, hm, rfl, L', hp, hrow, hst⟩ := hrel
      have c0 := hp.cell0
      by_cases hlt : m < len
      · obtain ⟨ga, rfl, -, -, -, -⟩ := hrow.head (by have := HL.out; omega)
        have cm := hrow.cell m (by have := HL.out; omega)
        have hts := take_succ r.pages m (by have := HL.out; omega)
        obtain ⟨q, hq⟩ : ∃ q, r.pages.getD m 0 = q := ⟨_, rfl⟩
        rw [hq] at cm hts
        have G : Hid (Calls Try.prog 18 #[.pointer (some ⟨bp, 0, none⟩), .int .i64 q] wr fun e' w' => (∃ t, e' = .returned (.bool t)) ∧ ∃ L'', Parts w' b (grow O w w') (e.withP (e.p.giveAll (r.pages.take (m + 1)))) L'' bp g ∧ Row w' (fun x => L'' x = j + 3) 3 (.slice (some ⟨ga, 0, none⟩) len cap) r.pages ∧ Step O (grow O w w') w w') := by
          refine (give_any wr bp (fun x => L' x = 2) _ q hp.pool).mono ?_
          rintro e' w' ⟨rfl, k1, k2⟩
          refine ⟨⟨_, rfl⟩, relab L' 2 wr w', ?_⟩
          obtain ⟨q1, q2⟩ := hp.stepPool k1 k2
          refine ⟨?_, ?_, hst.trans_grow q2⟩
          · rw [hts, St.giveAll_snoc]
            exact q1.mono (fun x hx _ => grow_trans hst.size x hx)
          · exact (hrow.step k2 (fun x h1 h2 => by omega)).mono (fun x hx _ => (relab_other hp.all (by omega) (by omega) x).2 hx)
        have hm0 : (0 : Int) ≤ m := by omega
        have hm1 : (m : Int) < len := by omega
        clear hp hrow hst hq hts
        go_wp2_with (go_at_call 18; refine (G.out).mono ?_; rintro e' w5 ⟨⟨t, rfl⟩, hw5⟩)
        have W5 : Hid (∃ L'', Parts w5 b (grow O w w5) (e.withP (e.p.giveAll (r.pages.take (m + 1)))) L'' bp g ∧ Row w5 (fun x => L'' x = j + 3) 3 (.slice (some ⟨ga, 0, none⟩) len cap) r.pages ∧ Step O (grow O w w5) w w5) := hw5
        clear hw5
        go_wp2
        go_roundw
        case rel => exact ⟨m + 1, by omega, by go_num, W5.out⟩
        case measure => simp [intOf]; omega
      · have hml : m = len := by omega
        have htk : r.pages.take m = r.pages := by rw [hml, ← HL.out]; simp
        rw [htk] at hp
        obtain ⟨q1, q2⟩ := hp.closed j hj
        have D : Hid (Parts (wr.setCell ⟨b, 1 + j, none⟩ (.pointer none)) b (grow O w wr) ((e.set j none).withP (e.p.giveAll r.pages)) L' bp g ∧ Step (grow O w wr) (grow O w wr) wr (wr.setCell ⟨b, 1 + j, none⟩ (.pointer none))) := ⟨q1, q2⟩
        have S : Hid (Step O (grow O w wr) w wr) := hst
        have cj := hp.cellAt j hj
        have fj := hp.row.frozen (1 + j)
        simp only [ptrOf] at cj
        have hm1 : ¬ (m : Int) < len := by omega
        clear q1 q2 hst hp hrow hml htk
        go_wp2
        go_ret
        rw [E.out]
        have eg : grow O w (wr.setCell ⟨b, 1 + j, none⟩ (.pointer none)) = grow O w wr := by unfold grow; simp
        rw [eg]
        exact ⟨rfl, ⟨_, _, D.out.1⟩, S.out.trans D.out.2⟩

end Go.Proofs.Ytphindejlinleaa
