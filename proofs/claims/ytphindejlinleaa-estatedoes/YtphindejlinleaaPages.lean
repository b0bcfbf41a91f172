/-
  Contracts of the document's own pool (copyholdref.Pages): what it answers, and the state that it is in then; all other memory stays as it was.
-/
import Derived.Test.YtphindejlinleaaPool2
import Derived.RegionTactic
import Derived.Laws.AppendOwnNone
namespace Go.Proofs.Ytphindejlinleaa
open Go.ChangeShapes Go.WideShapes Go.ChangeAt Go.RowKit
set_option linter.unusedVariables false

def PagesAt (w : World) (b : Nat) (O : Nat → Prop) (s : St) : Prop :=
  ∃ gw n vg, w.heap[b]? = some (.cells #[.slice (some ⟨gw, 0, none⟩) n n, vg, .int .i64 s.fresh, .int .i64 s.pages] 41 (0, 0)) ∧ w.rowIs gw 2 n (fun i => .int .i64 (s.ws i)) ∧
    Row w O 3 vg s.given ∧ O b ∧ O gw ∧ n = 16 * s.pages ∧ s.Ok

theorem PagesAt.ownB {w : World} {b : Nat} {O : Nat → Prop} {s : St} (h : PagesAt w b O s) : O b := by
  obtain ⟨gw, n, vg, hb, hr, hg, ho, how, hn, _⟩ := h
  exact ho
theorem PagesAt.ok {w : World} {b : Nat} {O : Nat → Prop} {s : St} (h : PagesAt w b O s) : s.Ok := by
  obtain ⟨gw, n, vg, hb, hr, hg, ho, how, hn, hok⟩ := h
  exact hok

theorem PagesAt.cells {w : World} {b : Nat} {O : Nat → Prop} {s : St} (h : PagesAt w b O s) : ∃ gw n a len cap,
    w.cell? ⟨b, 0, none⟩ = some (.slice (some ⟨gw, 0, none⟩) n n) ∧ w.cell? ⟨b, 1, none⟩ = some (.slice a len cap) ∧ w.cell? ⟨b, 2, none⟩ = some (.int .i64 s.fresh) ∧ w.cell? ⟨b, 3, none⟩ = some (.int .i64 s.pages) ∧ (∀ i, w.frozen? ⟨b, i, none⟩ = false) ∧
    Hid (n = 16 * s.pages ∧ len = s.given.length ∧ Row w O 3 (.slice a len cap) s.given ∧ w.rowIs gw 2 n (fun i => .int .i64 (s.ws i)) ∧ O gw) := by
  obtain ⟨gw, n, vg, hb, hr, hg, ho, how, hn, hok⟩ := h
  obtain ⟨a, cap, rfl, _, _⟩ := hg.form
  exact ⟨gw, n, a, s.given.length, cap, cellOf hb 0 _ rfl, cellOf hb 1 _ rfl, cellOf hb 2 _ rfl, cellOf hb 3 _ rfl, fun i => freeOf hb i, hn, rfl, hg, hr, how⟩

theorem PagesAt.setGiven {w : World} {b : Nat} {O : Nat → Prop} {s : St} (h : PagesAt w b O s) {v : Value} {xs : List Int} (hv : Row w O 3 v xs) (hok : St.Ok { s with given := xs }) :
    PagesAt (w.setCell ⟨b, 1, none⟩ v) b O { s with given := xs } := by
  obtain ⟨gw, n, vg, hb, hr, hg, ho, how, hn, _⟩ := h
  obtain ⟨cw, hcw, _, _⟩ := id hr
  refine ⟨gw, n, v, ?_, hr.setOther (Ne.symm (blockNe hb hcw (by decide))) _, ?_, ho, how, hn, hok⟩
  · rw [blockSet hb]; rfl
  · refine hv.keep (fun g hgg => ?_) hv.2
    obtain ⟨c, hc⟩ := hv.block hgg
    exact Below.heap_setCell _ _ _ _ (blockNe hc hb (by decide))

theorem PagesAt.setFresh {w : World} {b : Nat} {O : Nat → Prop} {s : St} (h : PagesAt w b O s) (f : Int) (hok : St.Ok { s with fresh := f }) :
    PagesAt (w.setCell ⟨b, 2, none⟩ (.int .i64 f)) b O { s with fresh := f } := by
  obtain ⟨gw, n, vg, hb, hr, hg, ho, how, hn, _⟩ := h
  obtain ⟨cw, hcw, _, _⟩ := id hr
  refine ⟨gw, n, vg, ?_, hr.setOther (Ne.symm (blockNe hb hcw (by decide))) _, ?_, ho, how, hn, hok⟩
  · rw [blockSet hb]; rfl
  · refine hg.keep (fun g hgg => ?_) hg.2
    obtain ⟨c, hc⟩ := hg.block hgg
    exact Below.heap_setCell _ _ _ _ (blockNe hc hb (by decide))

/-- A word is stored, whichever slice the walk has read. -/
theorem PagesAt.setWord {w : World} {b : Nat} {O : Nat → Prop} {s : St} (h : PagesAt w b O s) {gw m c : Nat} (h0 : w.cell? ⟨b, 0, none⟩ = some (.slice (some ⟨gw, 0, none⟩) m c)) (i : Nat) (hi : i < 16 * s.pages) (x : Int) :
    w.cell? ⟨gw, i, none⟩ = some (.int .i64 (s.ws i)) ∧ w.frozen? ⟨gw, i, none⟩ = false ∧ O gw ∧ PagesAt (w.setCell ⟨gw, i, none⟩ (.int .i64 x)) b O { s with ws := fun j => if (j : Int) = i then x else s.ws j } := by
  obtain ⟨gw', n, vg, hb, hr, hg, ho, how, hn, hok⟩ := h
  have c0 := cellOf hb 0 _ rfl
  rw [h0] at c0
  simp at c0
  obtain ⟨rfl, rfl, rfl⟩ := c0
  obtain ⟨cw, hcw, _, _⟩ := id hr
  have hbg : b ≠ gw := blockNe hb hcw (by decide)
  refine ⟨hr.cell (by omega), hr.frozen i, how, gw, _, vg, ?_, ?_, ?_, ho, how, hn, ⟨hok.most, hok.low, hok.high, hok.nodup, hok.mem⟩⟩
  · rw [Below.heap_setCell _ _ _ _ hbg]; exact hb
  · refine (hr.set i (.int .i64 x)).congr fun j hj => ?_
    by_cases e : j = i
    · subst e; simp
    · simp [e]; intro h; omega
  · refine hg.keep (fun g hgg => ?_) hg.2
    obtain ⟨c, hc⟩ := hg.block hgg
    exact Below.heap_setCell _ _ _ _ (blockNe hc hcw (by decide))

theorem pfree_any (w : World) (b : Nat) (O : Nat → Prop) (s : St) (h : PagesAt w b O s) :
    Calls Try.prog 25 #[.pointer (some ⟨b, 0, none⟩)] w fun e w' => e = .returned (.int .i64 s.free) ∧ ∃ m, w' = w.drewN m := by
  obtain ⟨gw, n, a, len, cap, c0, c1, c2, c3, _, R⟩ := h.cells
  have hlen := h.ok.len
  have h64 := h.ok.most
  have hhi := h.ok.high
  have hlo := h.ok.low
  have hl1 : len ≤ s.given.length := by have := R.out.2.1; omega
  have E : Hid (s.free = s.pages - s.fresh + len) := by show _ = _; rw [St.free, R.out.2.1]
  clear h
  go_enter Try.func25, Try.ntmps25
  go_wp2_with fail
  go_quiet (fail)
  go_wp2
  go_ret
  refine ⟨?_, _, rfl⟩
  rw [E.out]; rfl

theorem ptaken_any (w : World) (b : Nat) (O : Nat → Prop) (s : St) (k : Int) (h : PagesAt w b O s) :
    Calls Try.prog 48 #[.pointer (some ⟨b, 0, none⟩), .int .i64 k] w fun e w' => e = .returned (.bool (s.took k)) ∧ w' = w := by
  obtain ⟨gw, n, a, len, cap, c0, c1, c2, c3, _, R⟩ := h.cells
  have hlen := h.ok.len
  have h64 := h.ok.most
  have hhi := h.ok.high
  have C : Hid (Calls Try.prog 26 #[.slice a len cap, .int .i64 k] w fun e w' => e = .returned (.bool (hasB s.given k)) ∧ w' = w) := in_any w O _ s.given k R.out.2.2.1 (by omega)
  clear h
  by_cases h1 : 0 ≤ k
  · by_cases h2 : k < s.fresh
    · have E : Hid (s.took k = !hasB s.given k) := by show _ = _; simp [St.took, h1, h2]
      cases hc : hasB s.given k
      all_goals
        rw [hc] at C E
        clear hc
        go_enter Try.func48, Try.ntmps48
        go_wp2_with (go_at_call 26; refine (C.out).mono ?_; rintro e w' ⟨rfl, rfl⟩)
        go_ret
        exact ⟨by rw [E.out]; rfl, rfl⟩
    · have E : Hid (s.took k = false) := by show _ = _; simp [St.took, h1, h2]
      go_enter Try.func48, Try.ntmps48
      go_wp2
      go_ret
      exact ⟨by rw [E.out]; rfl, rfl⟩
  · have E : Hid (s.took k = false) := by show _ = _; simp [St.took, h1]
    go_enter Try.func48, Try.ntmps48
    go_wp2
    go_ret
    exact ⟨by rw [E.out]; rfl, rfl⟩

theorem pnew_done (w : World) (n : Nat) (h : n ≤ 64) : PagesAt ((w.alloc (.cells (madeCells #[.int .i64 0] (n * 16)) 2)).alloc (.cells #[.slice (some ⟨w.heap.size, 0, none⟩) (n * 16) (n * 16), .slice none 0 0, .int .i64 0, .int .i64 n] 41)) (w.heap.size + 1)
    (fun x => w.heap.size ≤ x ∧ x < ((w.alloc (.cells (madeCells #[.int .i64 0] (n * 16)) 2)).alloc (.cells #[.slice (some ⟨w.heap.size, 0, none⟩) (n * 16) (n * 16), .slice none 0 0, .int .i64 0, .int .i64 n] 41)).heap.size) (St.new n) := by
  refine ⟨w.heap.size, n * 16, .slice none 0 0, ?_, ?_, Row.nil _ _ _, by simp <;> omega, by simp <;> omega, by simp [St.new] <;> omega, St.ok_new n h⟩
  · have := blockNew (w.alloc (.cells (madeCells #[.int .i64 0] (n * 16)) 2)) #[.slice (some ⟨w.heap.size, 0, none⟩) (n * 16) (n * 16), .slice none 0 0, .int .i64 0, .int .i64 n] 41
    simp only [World.size_alloc] at this
    exact this
  · exact (World.rowIs_made w (.int .i64 0) (n * 16) 2).alloc (.cells #[.slice (some ⟨w.heap.size, 0, none⟩) (n * 16) (n * 16), .slice none 0 0, .int .i64 0, .int .i64 n] 41)

theorem pnew_any (w : World) (n : Nat) (h : n ≤ 64) :
    Calls Try.prog 15 #[.int .i64 n] w fun e w' => ∃ b, e = .returned (.pointer (some ⟨b, 0, none⟩)) ∧ PagesAt w' b (fun x => w.heap.size ≤ x ∧ x < w'.heap.size) (St.new n) ∧ Below w.heap.size w w' := by
  have hmk := run_make_row' (P := Try.prog) 38 2 (.int .i64 0) 8 under_int64s info_int64 rfl .i64 .i64 (n * 16) (by omega) (by omega)
  rw [show ((n * 16 : Nat) : Int) = (n : Int) * 16 by omega] at hmk
  go_enter Try.func15, Try.ntmps15
  go_wp2
  go_ret
  exact ⟨_, rfl, pnew_done w n h, ((Below.refl _ _).alloc (Nat.le_refl _) _).alloc (by simp) _⟩

/-- The first m words of a page are 0. -/
def St.wipeTo (s : St) (k : Int) (m : Nat) : St := { s with ws := fun i => if k * 16 ≤ (i : Int) ∧ (i : Int) < k * 16 + m then 0 else s.ws i }
theorem St.wipeTo_zero (s : St) (k : Int) : s.wipeTo k 0 = s := by
  unfold St.wipeTo
  have : (fun i : Nat => if k * 16 ≤ (i : Int) ∧ (i : Int) < k * 16 + (0 : Nat) then 0 else s.ws i) = s.ws := by
    funext i; rw [if_neg (by omega)]
  rw [this]
theorem St.wipeTo_all (s : St) (k : Int) : s.wipeTo k 16 = s.wipe k := rfl
theorem St.wipeTo_succ (s : St) (k : Int) (m : Nat) (i : Nat) (hi : (i : Int) = k * 16 + m) : { s.wipeTo k m with ws := fun j => if (j : Int) = i then 0 else (s.wipeTo k m).ws j } = s.wipeTo k (m + 1) := by
  unfold St.wipeTo
  simp only [St.mk.injEq, true_and, and_true]
  funext j
  by_cases h1 : (j : Int) = i
  · rw [if_pos h1, if_pos (by omega)]
  · rw [if_neg h1]
    by_cases h2 : k * 16 ≤ (j : Int) ∧ (j : Int) < k * 16 + m
    · rw [if_pos h2, if_pos (by omega)]
    · rw [if_neg h2, if_neg (by omega)]

set_option maxHeartbeats 800000 in
theorem ptake_none (w : World) (b : Nat) (O : Nat → Prop) (s : St) (h : PagesAt w b O s) (hneg : s.nextK < 0) :
    Calls Try.prog 17 #[.pointer (some ⟨b, 0, none⟩)] w fun e w' => e = .returned (.int .i64 s.nextK) ∧ PagesAt w' b O s.take ∧ Step O O w w' := by
  obtain ⟨gw, n, a, len, cap, c0, c1, c2, c3, hf, R⟩ := h.cells
  have e1 : s.given.getLast? = none := by
    cases e : s.given.getLast? with
    | none => rfl
    | some k => have := h.ok.mem k (List.mem_of_getLast? e); simp [St.nextK, e] at hneg; omega
  have hnil : s.given = [] := by simpa using e1
  have hfull : s.fresh = s.pages := by
    by_cases e : s.fresh = s.pages
    · exact e
    · simp [St.nextK, e1, e] at hneg; have := h.ok.low; omega
  have E : Hid (s.nextK = -1 ∧ s.take = s) := by
    have h1 : s.nextK = -1 := by simp [St.nextK, e1, hfull]
    have h2 : s.next = s := by simp [St.next, e1, hfull]
    exact ⟨h1, by simp [St.take, h1, h2]⟩
  have hl0 : len = 0 := by have := R.out.2.1; rw [hnil] at this; simpa using this
  subst hl0
  have H : Hid (PagesAt w b O s) := h
  have hfull' : (s.fresh == (s.pages : Int)) = true := by simpa using hfull
  clear h hnil e1 hfull hneg
  go_enter Try.func17, Try.ntmps17
  go_wp2_with fail
  go_quiet (fail)
  go_wp2
  go_ret
  refine ⟨?_, ?_, (Step.refl O _).drewN _⟩
  · rw [E.out.1]; rfl
  · rw [E.out.2]; exact H.out

set_option maxHeartbeats 1600000 in
theorem ptake_fresh (w : World) (b : Nat) (O : Nat → Prop) (s : St) (h : PagesAt w b O s) (hnil : s.given = []) (hne : s.fresh ≠ s.pages) :
    Calls Try.prog 17 #[.pointer (some ⟨b, 0, none⟩)] w fun e w' => e = .returned (.int .i64 s.nextK) ∧ PagesAt w' b O s.take ∧ Step O O w w' := by
  have hown := h.ownB
  obtain ⟨gw, n, a, len, cap, c0, c1, c2, c3, hf, R⟩ := h.cells
  have f2 := hf 2
  clear hf
  have e1 : s.given.getLast? = none := by rw [hnil]; rfl
  have hlo := h.ok.low
  have hhi := h.ok.high
  have h64 := h.ok.most
  have E : Hid (s.nextK = s.fresh ∧ s.take = St.wipeTo { s with fresh := s.fresh + 1 } s.fresh 16) := by
    have h1 : s.nextK = s.fresh := by simp [St.nextK, e1, hne]
    have h2 : s.next = { s with fresh := s.fresh + 1 } := by simp [St.next, e1, hne]
    refine ⟨h1, ?_⟩
    rw [St.wipeTo_all, St.take, h1, h2, if_neg (by omega)]
  have hok' : St.Ok { s with fresh := s.fresh + 1 } := by
    have := St.ok_next h.ok
    rw [show s.next = { s with fresh := s.fresh + 1 } by simp [St.next, e1, hne]] at this
    exact this
  have E2 : Hid (PagesAt (w.setCell ⟨b, 2, none⟩ (.int .i64 (s.fresh + 1))) b O { s with fresh := s.fresh + 1 }) := h.setFresh _ hok'
  have hl0 : len = 0 := by have := R.out.2.1; rw [hnil] at this; simpa using this
  subst hl0
  have hne' : (s.fresh == (s.pages : Int)) = false := by simpa using hne
  obtain ⟨q, hq⟩ := Int.eq_ofNat_of_zero_le hlo
  rw [hq] at c2 E E2 hne' hhi hlo
  have hq1 : q < s.pages := by have : (q : Int) ≠ s.pages := by rw [← hq]; exact hne
                               omega
  clear h hnil e1 hne hok' hq
  go_enter Try.func17, Try.ntmps17
  go_wp2_with fail
  go_quiet (fail)
  go_wp2
  go_loopw [4] (fun i wr => ∃ m : Nat, m ≤ 16 ∧ i = .int .i64 m ∧ PagesAt wr b O (St.wipeTo { s with fresh := (q : Int) + 1 } q m) ∧ Step O O w wr) (fun i _ => 16 - (intOf i).toNat)
  case atStart =>
    refine ⟨0, by omega, rfl, ?_, ?_⟩
    · rw [St.wipeTo_zero]; exact E2.out
    · exact ((Step.refl O _).drewN _).setCell hown _
  case round =>
    obtain ⟨m, hm, rfl, hp, hst⟩ := hrel
    clear c0 c1 c2 c3 f2 E2 R
    obtain ⟨gw, n, a, len, cap, c0, c1, c2, c3, hf, R⟩ := hp.cells
    have hn1 : n ≤ 16 * s.pages := by have := R.out.1; simp [St.wipeTo] at this; omega
    have hn2 : 16 * s.pages ≤ n := by have := R.out.1; simp [St.wipeTo] at this; omega
    by_cases hlt : m < 16
    · obtain ⟨d1, d2, d3, d4⟩ := hp.setWord c0 (q * 16 + m) (by simp [St.wipeTo]; omega) 0
      rw [St.wipeTo_succ _ _ _ _ (by omega)] at d4
      have D : Hid (PagesAt (wr.setCell ⟨gw, q * 16 + m, none⟩ (.int .i64 0)) b O (St.wipeTo { s with fresh := (q : Int) + 1 } q (m + 1)) ∧ Step O O w (wr.setCell ⟨gw, q * 16 + m, none⟩ (.int .i64 0))) := ⟨d4, hst.setCell d3 _⟩
      clear d4 hp hst
      go_wp2
      go_roundw
      case rel => exact ⟨m + 1, by omega, by go_num, D.out⟩
      case measure => simp [intOf]; omega
    · have hm16 : m = 16 := by omega
      subst hm16
      have H : Hid (PagesAt wr b O (St.wipeTo { s with fresh := (q : Int) + 1 } q 16) ∧ Step O O w wr) := ⟨hp, hst⟩
      clear hp hst
      go_wp2
      go_ret
      refine ⟨?_, ?_, H.out.2⟩
      · rw [E.out.1]; rfl
      · rw [E.out.2]; exact H.out.1

set_option maxHeartbeats 1600000 in
theorem ptake_back (w : World) (b : Nat) (O : Nat → Prop) (s : St) (h : PagesAt w b O s) (ys : List Int) (k : Int) (hcon : s.given = ys ++ [k]) :
    Calls Try.prog 17 #[.pointer (some ⟨b, 0, none⟩)] w fun e w' => e = .returned (.int .i64 s.nextK) ∧ PagesAt w' b O s.take ∧ Step O O w w' := by
  have hown := h.ownB
  obtain ⟨gw, n, a, len, cap, c0, c1, c2, c3, hf, R⟩ := h.cells
  have f1 := hf 1
  clear hf
  have e1 : s.given.getLast? = some k := by rw [hcon]; simp
  have hlo := h.ok.low
  have hhi := h.ok.high
  have h64 := h.ok.most
  have hlen := h.ok.len
  have hkm := h.ok.mem k (by rw [hcon]; simp)
  have hgl : s.given.length = ys.length + 1 := by rw [hcon]; simp
  have hl3 : len = ys.length + 1 := by have := R.out.2.1; omega
  subst hl3
  have h2 : s.next = { s with given := s.given.take ys.length } := by simp [St.next, e1, hgl]
  have E : Hid (s.nextK = k ∧ s.take = St.wipeTo { s with given := s.given.take ys.length } k 16) := by
    have h1 : s.nextK = k := by simp [St.nextK, e1]
    refine ⟨h1, ?_⟩
    rw [St.wipeTo_all, St.take, h1, h2, if_neg (by omega)]
  obtain ⟨g, hg, -, hcap0, -⟩ := R.out.2.2.1.head (by omega)
  subst hg
  have ck : w.cell? ⟨g, ys.length, none⟩ = some (.int .i64 k) := by
    have := R.out.2.2.1.cell ys.length (by omega)
    rw [this, hcon]; simp [List.getD]
  have hok' : St.Ok { s with given := s.given.take ys.length } := by rw [← h2]; exact St.ok_next h.ok
  have E2 : Hid (PagesAt (w.setCell ⟨b, 1, none⟩ (.slice (some ⟨g, 0, none⟩) ys.length cap)) b O { s with given := s.given.take ys.length }) := h.setGiven (R.out.2.2.1.init ys.length (by omega)) hok'
  have hcap : ys.length + 1 ≤ cap := by omega
  have hy64 : ys.length ≤ 64 := by omega
  obtain ⟨q, rfl⟩ := Int.eq_ofNat_of_zero_le hkm.1
  have hq1 : q < s.pages := by omega
  generalize ys.length = l at *
  have hb0 : (0 : Int) ≤ l := by omega
  have hb1 : (l : Int) < l + 1 := by omega
  have hb2 : (l : Int) ≤ cap := by omega
  clear h hcon e1 hok' hgl h2 hlen hkm hcap0
  go_enter Try.func17, Try.ntmps17
  go_wp2_with fail
  go_quiet (fail)
  go_wp2
  go_region
  go_wp2
  go_loopw [4] (fun i wr => ∃ m : Nat, m ≤ 16 ∧ i = .int .i64 m ∧ PagesAt wr b O (St.wipeTo { s with given := s.given.take l } q m) ∧ Step O O w wr) (fun i _ => 16 - (intOf i).toNat)
  case atStart =>
    refine ⟨0, by omega, rfl, ?_, ?_⟩
    · rw [St.wipeTo_zero]; exact E2.out
    · repeat (first | exact Step.refl O _ | refine Step.drew ?_ | refine Step.drewN ?_ _ | refine Step.setCell (p := ⟨b, 1, none⟩) ?_ hown _)
  case round =>
    obtain ⟨m, hm, rfl, hp, hst⟩ := hrel
    clear c0 c1 c2 c3 f1 E2 R
    obtain ⟨gw, n, a, len, cap, c0, c1, c2, c3, hf, R⟩ := hp.cells
    have hn1 : n ≤ 16 * s.pages := by have := R.out.1; simp [St.wipeTo] at this; omega
    have hn2 : 16 * s.pages ≤ n := by have := R.out.1; simp [St.wipeTo] at this; omega
    by_cases hlt : m < 16
    · obtain ⟨d1, d2, d3, d4⟩ := hp.setWord c0 (q * 16 + m) (by simp [St.wipeTo]; omega) 0
      rw [St.wipeTo_succ _ _ _ _ (by omega)] at d4
      have D : Hid (PagesAt (wr.setCell ⟨gw, q * 16 + m, none⟩ (.int .i64 0)) b O (St.wipeTo { s with given := s.given.take l } q (m + 1)) ∧ Step O O w (wr.setCell ⟨gw, q * 16 + m, none⟩ (.int .i64 0))) := ⟨d4, hst.setCell d3 _⟩
      clear d4 hp hst
      go_wp2
      go_roundw
      case rel => exact ⟨m + 1, by omega, by go_num, D.out⟩
      case measure => simp [intOf]; omega
    · have hm16 : m = 16 := by omega
      subst hm16
      have H : Hid (PagesAt wr b O (St.wipeTo { s with given := s.given.take l } q 16) ∧ Step O O w wr) := ⟨hp, hst⟩
      clear hp hst
      go_wp2
      go_ret
      refine ⟨?_, ?_, H.out.2⟩
      · rw [E.out.1]; rfl
      · rw [E.out.2]; exact H.out.1

theorem ptake_any (w : World) (b : Nat) (O : Nat → Prop) (s : St) (h : PagesAt w b O s) :
    Calls Try.prog 17 #[.pointer (some ⟨b, 0, none⟩)] w fun e w' => e = .returned (.int .i64 s.nextK) ∧ PagesAt w' b O s.take ∧ Step O O w w' := by
  rcases List.eq_nil_or_concat s.given with hnil | ⟨ys, k, hcon⟩
  · by_cases hf : s.fresh = s.pages
    · exact ptake_none w b O s h (by simp [St.nextK, hnil, hf])
    · exact ptake_fresh w b O s h hnil hf
  · exact ptake_back w b O s h ys k (by simpa using hcon)

theorem pgive_done {w w1 w2 : World} {b : Nat} {O : Nat → Prop} {s : St} {k : Int} {gw n g cap : Nat} {vg v1 : Value} {o : Obj} (hb : w.heap[b]? = some (.cells #[.slice (some ⟨gw, 0, none⟩) n n, vg, .int .i64 s.fresh, .int .i64 s.pages] 41 (0, 0)))
    (hr : w.rowIs gw 2 n (fun i => .int .i64 (s.ws i))) (ho : O b) (how : O gw) (hn : n = 16 * s.pages) (hok : St.Ok { s with given := s.given ++ [k] })
    (h1 : w1.ownsRow w.heap.size 3 1 v1 s.given.length (s.given.map (Value.int .i64))) (hg1 : w.grownBy w1 none)
    (h2 : w2.ownsRow w.heap.size 3 1 (.slice (some ⟨g, 0, none⟩) (s.given.length + 1) cap) (s.given.length + 1) (s.given.map (Value.int .i64) ++ [.int .i64 k]))
    (hg2 : (w1.alloc o).grownBy w2 v1.ownBlock) (hlt : g < w2.heap.size) :
    w2.cell? ⟨b, 1, none⟩ = some vg ∧ w2.frozen? ⟨b, 1, none⟩ = false ∧ PagesAt (w2.setCell ⟨b, 1, none⟩ (.slice (some ⟨g, 0, none⟩) (s.given.length + 1) cap)) b (grow O w w2) { s with given := s.given ++ [k] } ∧
    Step O (grow O w w2) w (w2.setCell ⟨b, 1, none⟩ (.slice (some ⟨g, 0, none⟩) (s.given.length + 1) cap)) := by
  have hltb := lt_of_block hb
  obtain ⟨cw, hcw, _, _⟩ := id hr
  have hltw := lt_of_block hcw
  have hsz1 := hg1.size
  have hsz2 : w1.heap.size + 1 ≤ w2.heap.size := by have := hg2.size; simpa using this
  have hv1 : ∀ x, v1.ownBlock = some x → w.heap.size ≤ x := by
    intro x hx
    obtain ⟨_, e | ⟨g', cap', cur, e, hge, _⟩⟩ := h1
    · rw [e.1] at hx; simp [Value.ownBlock] at hx
    · rw [e] at hx; simp [Value.ownBlock] at hx; omega
  have hgg : w.heap.size ≤ g := by
    obtain ⟨_, e | ⟨g', cap', cur, e, hge, _⟩⟩ := h2
    · have := e.1; simp at this
    · simp at e; omega
  have keep : ∀ x, x < w.heap.size → w2.heap[x]? = w.heap[x]? := fun x hx =>
    ((hg2.block x (by simp; omega) (fun e => by have := hv1 x e.symm; omega)).trans (Below.heap_alloc _ _ _ (by omega))).trans (hg1.block x hx (by simp))
  have hb1 := (keep b hltb).trans hb
  have gO : ∀ x, O x ∨ w.heap.size ≤ x → x < w2.heap.size → grow O w w2 x := fun x h h' => ⟨h, h'⟩
  have hrow : Row w2 (grow O w w2) 3 (.slice (some ⟨g, 0, none⟩) (s.given.length + 1) cap) (s.given ++ [k]) := by
    refine ⟨?_, fun x e => ?_⟩
    · have e : (s.given ++ [k]).length = s.given.length + 1 := by simp
      rw [e, List.map_append]
      obtain ⟨h3, h4⟩ := h2
      refine ⟨h3, ?_⟩
      rcases h4 with h4 | ⟨g', cap', cur, hv, _, r⟩
      · exact Or.inl h4
      · exact Or.inr ⟨g', cap', cur, hv, Nat.zero_le _, r⟩
    · simp [Value.ownBlock] at e; subst e
      exact gO _ (Or.inr hgg) hlt
  refine ⟨cellOf hb1 1 _ rfl, freeOf hb1 1, ?_, ?_⟩
  · refine ⟨gw, n, .slice (some ⟨g, 0, none⟩) (s.given.length + 1) cap, ?_, ?_, ?_, gO _ (Or.inl ho) (by omega), gO _ (Or.inl how) (by omega), hn, hok⟩
    · rw [blockSet hb1]; rfl
    · refine (hr.of_block (keep gw hltw)).setOther ?_ _
      exact Ne.symm (blockNe hb hcw (by decide))
    · refine hrow.keep (fun x hx => ?_) hrow.2
      simp [Value.ownBlock] at hx; subst hx
      exact Below.heap_setCell _ _ _ _ (show g ≠ b by omega)
  · have S1 : Step O (grow O w w2) w w2 := by
      refine ⟨hg2.os.trans hg1.os, hg2.tape.trans hg1.tape, hg2.output.trans hg1.output, by omega, fun x hx hn => keep x hx, fun x hx => hx.1⟩
    exact S1.setCell (p := ⟨b, 1, none⟩) (gO b (Or.inl ho) (by omega)) _

set_option maxHeartbeats 800000 in
theorem pgive_any (w : World) (b : Nat) (O : Nat → Prop) (s : St) (k : Int) (h : PagesAt w b O s) :
    Calls Try.prog 19 #[.pointer (some ⟨b, 0, none⟩), .int .i64 k] w fun e w' => e = .returned (.bool (s.took k)) ∧ PagesAt w' b (grow O w w') (s.give k) ∧ Step O (grow O w w') w w' := by
  have C : Hid (Calls Try.prog 48 #[.pointer (some ⟨b, 0, none⟩), .int .i64 k] w fun e w' => e = .returned (.bool (s.took k)) ∧ w' = w) := ptaken_any w b O s k h
  cases ht : s.took k with
  | false =>
    rw [ht] at C
    have E : Hid (s.give k = s) := by show _ = _; simp [St.give, ht]
    have H : Hid (PagesAt w b O s) := h
    clear h ht
    go_enter Try.func19, Try.ntmps19
    go_wp2_with (go_at_call 48; refine (C.out).mono ?_; rintro e w' ⟨rfl, rfl⟩)
    go_ret
    refine ⟨rfl, ?_, ?_⟩
    · rw [E.out]
      obtain ⟨gw, n, vg, hb, hr, hg, ho, how, hn, hok⟩ := H.out
      exact ⟨gw, n, vg, hb, hr, hg.keep (fun _ _ => rfl) (fun g hgg => ⟨Or.inl (hg.2 g hgg), hg.lt hgg⟩), ⟨Or.inl ho, lt_of_block hb⟩, ⟨Or.inl how, hr.lt⟩, hn, hok⟩
    · exact ⟨rfl, rfl, rfl, Nat.le_refl _, fun _ _ _ => rfl, fun k hk => hk.1⟩
  | true =>
    rw [ht] at C
    have hok' := St.ok_give h.ok k
    have E : Hid (s.give k = { s with given := s.given ++ [k] }) := by show _ = _; simp [St.give, ht]
    have hlen := h.ok.len
    have h64 := h.ok.most
    have hhi := h.ok.high
    obtain ⟨gw, n, vg, hb, hr, hg, ho, how, hn, hok⟩ := h
    have c1 : w.cell? ⟨b, 1, none⟩ = some vg := cellOf hb 1 _ rfl
    obtain ⟨i0, hi, hz0, hz1, hz2⟩ := info_parts info_int
    have hgc := fun g0 n0 cap0 (e : vg = .slice (some ⟨g0, 0, none⟩) n0 cap0) => (show ∀ i, i < s.given.length → w.cell? ⟨g0, i, none⟩ = some (.int .i64 (s.given.getD i 0)) from by subst e; exact hg.cell)
    obtain ⟨a, cap, rfl, ha, hs⟩ := hg.form
    have P : Hid (∀ g cap2 v1 w1 w2, w1.ownsRow w.heap.size 3 1 v1 s.given.length (s.given.map (Value.int .i64)) → w.grownBy w1 none →
        w2.ownsRow w.heap.size 3 1 (.slice (some ⟨g, 0, none⟩) (s.given.length + 1) cap2) (s.given.length + 1) (s.given.map (Value.int .i64) ++ [.int .i64 k]) →
        (w1.alloc (.cells #[.int .i64 k] 3)).grownBy w2 v1.ownBlock → g < w2.heap.size →
        w2.cell? ⟨b, 1, none⟩ = some (.slice a s.given.length cap) ∧ w2.frozen? ⟨b, 1, none⟩ = false ∧ PagesAt (w2.setCell ⟨b, 1, none⟩ (.slice (some ⟨g, 0, none⟩) (s.given.length + 1) cap2)) b (grow O w w2) (s.give k) ∧
        Step O (grow O w w2) w (w2.setCell ⟨b, 1, none⟩ (.slice (some ⟨g, 0, none⟩) (s.given.length + 1) cap2))) := by
      intro g cap2 v1 w1 w2 h1 hg1 h2 hg2 hlt
      rw [E.out]
      exact pgive_done hb hr ho how hn (by rw [E.out] at hok'; exact hok') h1 hg1 h2 hg2 hlt
    have hbs : b < w.heap.size := lt_of_block hb
    cases a with
    | none =>
      obtain ⟨e1, e2⟩ := ha rfl
      subst e2
      rw [e1] at P c1
      clear hb hr hg hn hok' ht E hgc hs ha hlen
      go_enter Try.func19, Try.ntmps19
      go_wp2_with (first
        | (go_at_call 48; refine (C.out).mono ?_; rintro e w' ⟨rfl, hw⟩; have hw := hw.symm; subst hw)
        | (at_builtin; refine wpList_append_own_none rfl (.tmp 11) (.tmp 15) 39 rfl w.heap.size 3 i0 1 under_ints hi _ _ _ rfl (World.ownsRow_nil _ _ _ _) rfl ?_)
        | (at_builtin; refine wpList_append_lies _ rfl (.tmp 16) (.tmp 18) 39 rfl w.heap.size 3 i0 (.int .i64 0) 1 8 under_ints hi hz0 hz1 hz2 rfl (by decide) _ _ _ rfl (World.ownsRow_nil _ _ _ _) ⟨w.heap.size, 0, none⟩ 1 1 [.int .i64 k] rfl rfl (news_one _ _ _) (oneCell_one _) (by decide) (by unfold maxLen; omega) (by omega) (by simp) (w.heap.size + 1) (by simp) ?_))
      intro g cap1 w1 h1 hgrow hat hlt
      obtain ⟨d1, d2, d3, d4⟩ := P.out g cap1 _ w w1 (World.ownsRow_nil _ _ _ _) ⟨rfl, rfl, rfl, Nat.le_refl _, fun _ _ _ => rfl⟩ h1 hgrow hlt
      have D : Hid (PagesAt (w1.setCell ⟨b, 1, none⟩ (.slice (some ⟨g, 0, none⟩) (0 + 1) cap1)) b (grow O w w1) (s.give k) ∧ Step O (grow O w w1) w (w1.setCell ⟨b, 1, none⟩ (.slice (some ⟨g, 0, none⟩) (0 + 1) cap1))) := ⟨d3, d4⟩
      clear d3 d4 h1 hgrow hat hlt P
      go_wp2
      go_ret
      refine ⟨rfl, ?_, ?_⟩
      · have e : grow O w (w1.setCell ⟨b, 1, none⟩ (.slice (some ⟨g, 0, none⟩) (0 + 1) cap1)) = grow O w w1 := by unfold grow; simp
        rw [e]; exact D.out.1
      · have e : grow O w (w1.setCell ⟨b, 1, none⟩ (.slice (some ⟨g, 0, none⟩) (0 + 1) cap1)) = grow O w w1 := by unfold grow; simp
        rw [e]; exact D.out.2
    | some g0 =>
      have e0 := (hs g0 rfl).1
      obtain ⟨g1, rfl⟩ : ∃ g1, g0 = ⟨g1, 0, none⟩ := ⟨g0.block, e0⟩
      have hnews : Hid (∀ j u, (s.given.map (Value.int .i64))[j]? = some u → w.cell? (Addr.add ⟨g1, 0, none⟩ j) = some u) := by
        intro j u hj
        have hjn : j < s.given.length := by
          have := (List.getElem?_eq_some_iff.1 hj).1
          simpa using this
        rw [Addr.add_lit, Nat.zero_add, hgc g1 _ cap rfl j hjn]
        rw [← hj]; simp [hjn]
      have hone : ∀ u, u ∈ s.given.map (Value.int .i64) → u.oneCell' = true := by intro u hu; obtain ⟨x, _, rfl⟩ := List.mem_map.1 hu; rfl
      have HO : Hid (∀ u, u ∈ s.given.map (Value.int .i64) → u.oneCell' = true) := hone
      have hml : Hid ((s.given.map (Value.int .i64)).length = s.given.length * 1) := by show _ = _; simp
      obtain ⟨xs, hxs⟩ : ∃ xs, s.given.map (Value.int .i64) = xs := ⟨_, rfl⟩
      obtain ⟨len, hl⟩ : ∃ len, s.given.length = len := ⟨_, rfl⟩
      rw [hxs, hl] at P hml
      rw [hxs] at hnews HO
      rw [hl] at c1 hlen
      clear hb hr hg hn hok' ht E hgc hs ha hone hxs hl e0
      go_enter Try.func19, Try.ntmps19
      go_wp2_with (first
        | (go_at_call 48; refine (C.out).mono ?_; rintro e w' ⟨rfl, hw⟩; have hw := hw.symm; subst hw)
        | (at_builtin; refine wpList_append_own _ rfl (.tmp 11) (.tmp 15) 39 rfl w.heap.size 3 i0 (.int .i64 0) 1 8 under_ints hi hz0 hz1 hz2 rfl (by decide) _ _ _ rfl (World.ownsRow_nil _ _ _ _) ⟨g1, 0, none⟩ len cap xs rfl hml.out hnews.out HO.out (by unfold maxLen; omega) (by omega) (by simp) ?_))
      intro v1 w1 h1 hg1 hn1
      have hs1 := hg1.size
      go_wp2_with (at_builtin; refine wpList_append_lies _ rfl (.tmp 16) (.tmp 18) 39 rfl w.heap.size 3 i0 (.int .i64 0) 1 8 under_ints hi hz0 hz1 hz2 rfl (by decide) _ _ _ rfl (h1.alloc _) ⟨w1.heap.size, 0, none⟩ 1 1 [.int .i64 k] rfl rfl (news_one _ _ _) (oneCell_one _) (by decide) (by unfold maxLen; omega) (by omega) (by simp; omega) (w1.heap.size + 1) (by simp) ?_)
      intro g cap1 w2 h2 hgrow hat hlt
      obtain ⟨d1, d2, d3, d4⟩ := P.out g cap1 v1 w1 w2 h1 hg1 h2 hgrow hlt
      have D : Hid (PagesAt (w2.setCell ⟨b, 1, none⟩ (.slice (some ⟨g, 0, none⟩) (len + 1) cap1)) b (grow O w w2) (s.give k) ∧ Step O (grow O w w2) w (w2.setCell ⟨b, 1, none⟩ (.slice (some ⟨g, 0, none⟩) (len + 1) cap1))) := ⟨d3, d4⟩
      clear d3 d4 h1 hgrow hat hlt P h2 hg1 hn1
      go_wp2
      go_ret
      refine ⟨rfl, ?_, ?_⟩
      · have e : grow O w (w2.setCell ⟨b, 1, none⟩ (.slice (some ⟨g, 0, none⟩) (len + 1) cap1)) = grow O w w2 := by unfold grow; simp
        rw [e]; exact D.out.1
      · have e : grow O w (w2.setCell ⟨b, 1, none⟩ (.slice (some ⟨g, 0, none⟩) (len + 1) cap1)) = grow O w w2 := by unfold grow; simp
        rw [e]; exact D.out.2

end Go.Proofs.Ytphindejlinleaa
