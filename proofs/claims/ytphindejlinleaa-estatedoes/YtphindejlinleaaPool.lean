/-
  Contracts of package pool's functions: each returns what the document's pool answers, and leaves in memory the pool that the document has then; all other memory stays as it was.
-/
import Derived.Test.YtphindejlinleaaPoolSt
import Derived.Deep.QuietTactic
import Derived.BigQuiet
import Derived.Lib.SliceRun
namespace Go.Proofs.Ytphindejlinleaa
open Go.ChangeShapes Go.WideShapes Go.ChangeAt Go.RowKit
set_option linter.unusedVariables false

/-- In w a pool lies at block b, the blocks that it owns are among O, and it is in the state s. -/
def PoolAt (w : World) (b : Nat) (O : Nat → Prop) (s : St) : Prop :=
  ∃ gw n vg, w.heap[b]? = some (.cells #[.slice (some ⟨gw, 0, none⟩) n n, vg, .int .i64 s.fresh] 78 (0, 0)) ∧ w.rowIs gw 2 n (fun i => .int .i64 (s.ws i)) ∧
    Row w O 3 vg s.given ∧ O b ∧ O gw ∧ n = 16 * s.pages ∧ s.Ok

theorem pages_any (w : World) (b : Nat) (O : Nat → Prop) (s : St) (h : PoolAt w b O s) :
    Calls Try.prog 51 #[.pointer (some ⟨b, 0, none⟩)] w fun e w' => e = .returned (.int .i64 s.pages) ∧ w' = w := by
  obtain ⟨gw, n, vg, hb, hr, hg, ho, how, hn, hok⟩ := h
  have c0 : w.cell? ⟨b, 0, none⟩ = some (.slice (some ⟨gw, 0, none⟩) n n) := cellOf hb 0 _ rfl
  have hp := hok.most
  have E : Hid ((n : Int) / 16 = s.pages) := by show _ = _; omega
  have hn1 : n ≤ 16 * s.pages := by omega
  have hn2 : 16 * s.pages ≤ n := by omega
  clear hn
  go_enter Try.func51, Try.ntmps51
  go_wp2
  go_ret
  exact ⟨by rw [E.out]; rfl, rfl⟩

/-- Of which place on a list has no such element. -/
theorem contains_of_not {xs : List Int} {x : Int} (h : ∀ j, j < xs.length → xs.getD j 0 ≠ x) : hasB xs x = false := by
  unfold hasB
  rw [Bool.eq_false_iff]
  intro hc
  simp at hc
  obtain ⟨j, hj, e⟩ := List.getElem_of_mem hc
  exact h j hj (by simp [List.getD, hj, e])
theorem contains_of_at {xs : List Int} {x : Int} {j : Nat} (hj : j < xs.length) (h : xs.getD j 0 = x) : hasB xs x = true := by
  unfold hasB
  simp
  simp [List.getD, hj] at h
  rw [← h]; exact List.getElem_mem hj

theorem index_any (w : World) (O : Nat → Prop) (v : Value) (xs : List Int) (x : Int) (h : Row w O 3 v xs) (hx : xs.length ≤ 1000) :
    Calls Try.prog 56 #[v, .int .i64 x] w fun e w' => (∃ r : Int, e = .returned (.int .i64 r) ∧ decide (0 ≤ r) = hasB xs x) ∧ w' = w := by
  obtain ⟨a, cap, rfl, ha, hs⟩ := h.form
  have hl : ∀ i, i < xs.length → ∃ g, a = some ⟨g, 0, none⟩ := by
    intro i hi
    cases a with
    | none => rw [(ha rfl).1] at hi; simp at hi
    | some g => exact ⟨g.block, by rw [← (hs g rfl).1]⟩
  have hc : ∀ g i, a = some ⟨g, 0, none⟩ → i < xs.length → w.cell? ⟨g, i, none⟩ = some (.int .i64 (xs.getD i 0)) := by
    intro g i e hi
    subst e
    obtain ⟨_, _, _, _, c, hc, _, hi'⟩ := hs _ rfl
    exact cellOf hc i _ (hi' i hi)
  clear hs ha h
  obtain ⟨len, hlen⟩ : ∃ len, xs.length = len := ⟨_, rfl⟩
  rw [hlen] at hx hl hc ⊢
  have HL : Hid (xs.length = len) := hlen
  clear hlen
  go_enter Try.func56, Try.ntmps56
  go_wp2
  go_loop [8] (fun i => ∃ k : Nat, k ≤ len ∧ i = .int .i64 k ∧ ∀ j, j < k → xs.getD j 0 ≠ x) (fun i => len - (intOf i).toNat)
  case atStart => exact ⟨0, Nat.zero_le _, rfl, fun j hj => absurd hj (Nat.not_lt_zero _)⟩
  case round =>
    obtain ⟨k, hk, rfl, hno⟩ := hrel
    by_cases hlt : k < len
    · obtain ⟨g, rfl⟩ := hl k hlt
      have hck := hc g k rfl hlt
      clear hc hl
      obtain ⟨y, hy⟩ : ∃ y, y = xs.getD k 0 := ⟨_, rfl⟩
      rw [← hy] at hck
      by_cases he : x = y
      · have E : Hid (hasB xs x = true) := contains_of_at (by have := HL.out; omega) (hy.symm.trans he.symm)
        have he' : (x == y) = true := by simpa using he
        clear he hy hno
        go_wp2
        go_ret
        exact ⟨⟨k, rfl, by rw [E.out]; simp⟩, rfl⟩
      · have he' : (x == y) = false := by simpa using he
        have N : Hid (∀ j, j < k + 1 → xs.getD j 0 ≠ x) := fun j hj => by
          rcases Nat.lt_succ_iff_lt_or_eq.1 hj with h' | h'
          · exact hno j h'
          · subst h'; rw [← hy]; exact fun e => he e.symm
        clear he hno hy
        go_wp2
        go_round
        case rel => exact ⟨k + 1, by omega, by go_num, N.out⟩
        case measure => simp [intOf]; omega
    · have E : Hid (hasB xs x = false) := contains_of_not fun j hj => hno j (by have := HL.out; omega)
      clear hno hc hl
      go_wp2
      go_ret
      exact ⟨⟨-1, rfl, by rw [E.out]; rfl⟩, rfl⟩

theorem contains_any (w : World) (O : Nat → Prop) (v : Value) (xs : List Int) (x : Int) (h : Row w O 3 v xs) (hx : xs.length ≤ 1000) :
    Calls Try.prog 55 #[v, .int .i64 x] w fun e w' => e = .returned (.bool (hasB xs x)) ∧ w' = w := by
  have C : Hid (Calls Try.prog 56 #[v, .int .i64 x] w fun e w' => (∃ r : Int, e = .returned (.int .i64 r) ∧ decide (0 ≤ r) = hasB xs x) ∧ w' = w) := index_any w O v xs x h hx
  clear h
  go_enter Try.func55, Try.ntmps55
  go_wp2_with fail
  refine (C.out).mono ?_
  rintro e w' ⟨⟨r, rfl, hr⟩, rfl⟩
  have R : Hid (decide (0 ≤ r) = hasB xs x) := hr
  clear hr
  go_wp2
  all_goals
    go_ret
    refine ⟨?_, rfl⟩
    rw [← R.out]; simp [*]

theorem PoolAt.setGiven {w : World} {b : Nat} {O : Nat → Prop} {s : St} (h : PoolAt w b O s) {v : Value} {xs : List Int} (hv : Row w O 3 v xs) (hok : St.Ok { s with given := xs }) :
    PoolAt (w.setCell ⟨b, 1, none⟩ v) b O { s with given := xs } := by
  obtain ⟨gw, n, vg, hb, hr, hg, ho, how, hn, _⟩ := h
  obtain ⟨cw, hcw, _, _⟩ := id hr
  refine ⟨gw, n, v, ?_, hr.setOther (Ne.symm (blockNe hb hcw (by decide))) _, ?_, ho, how, hn, hok⟩
  · rw [blockSet hb]; rfl
  · refine hv.keep (fun g hgg => ?_) hv.2
    obtain ⟨c, hc⟩ := hv.block hgg
    exact Below.heap_setCell _ _ _ _ (blockNe hc hb (by decide))

theorem PoolAt.setFresh {w : World} {b : Nat} {O : Nat → Prop} {s : St} (h : PoolAt w b O s) (f : Int) (hok : St.Ok { s with fresh := f }) :
    PoolAt (w.setCell ⟨b, 2, none⟩ (.int .i64 f)) b O { s with fresh := f } := by
  obtain ⟨gw, n, vg, hb, hr, hg, ho, how, hn, _⟩ := h
  obtain ⟨cw, hcw, _, _⟩ := id hr
  refine ⟨gw, n, vg, ?_, hr.setOther (Ne.symm (blockNe hb hcw (by decide))) _, ?_, ho, how, hn, hok⟩
  · rw [blockSet hb]; rfl
  · refine hg.keep (fun g hgg => ?_) hg.2
    obtain ⟨c, hc⟩ := hg.block hgg
    exact Below.heap_setCell _ _ _ _ (blockNe hc hb (by decide))

theorem PoolAt.ownB {w : World} {b : Nat} {O : Nat → Prop} {s : St} (h : PoolAt w b O s) : O b := by
  obtain ⟨gw, n, vg, hb, hr, hg, ho, how, hn, _⟩ := h
  exact ho
theorem PoolAt.ok {w : World} {b : Nat} {O : Nat → Prop} {s : St} (h : PoolAt w b O s) : s.Ok := by
  obtain ⟨gw, n, vg, hb, hr, hg, ho, how, hn, hok⟩ := h
  exact hok

/-- What a walk reads of a pool: its cells, the two slices written out. -/
theorem PoolAt.cells {w : World} {b : Nat} {O : Nat → Prop} {s : St} (h : PoolAt w b O s) : ∃ gw n a len cap,
    w.cell? ⟨b, 0, none⟩ = some (.slice (some ⟨gw, 0, none⟩) n n) ∧ w.cell? ⟨b, 1, none⟩ = some (.slice a len cap) ∧ w.cell? ⟨b, 2, none⟩ = some (.int .i64 s.fresh) ∧ (∀ i, w.frozen? ⟨b, i, none⟩ = false) ∧
    Hid (n = 16 * s.pages ∧ len = s.given.length ∧ Row w O 3 (.slice a len cap) s.given) := by
  obtain ⟨gw, n, vg, hb, hr, hg, ho, how, hn, hok⟩ := h
  obtain ⟨a, cap, rfl, _, _⟩ := hg.form
  exact ⟨gw, n, a, s.given.length, cap, cellOf hb 0 _ rfl, cellOf hb 1 _ rfl, cellOf hb 2 _ rfl, fun i => freeOf hb i, hn, rfl, hg⟩

theorem isTaken_any (w : World) (b : Nat) (O : Nat → Prop) (s : St) (k : Int) (h : PoolAt w b O s) :
    Calls Try.prog 47 #[.pointer (some ⟨b, 0, none⟩), .int .i64 k] w fun e w' => e = .returned (.bool (s.took k)) ∧ w' = w := by
  obtain ⟨gw, n, a, len, cap, c0, c1, c2, _, R⟩ := h.cells
  have hlen := h.ok.len
  have h64 := h.ok.most
  have hhi := h.ok.high
  have C : Hid (Calls Try.prog 55 #[.slice a len cap, .int .i64 k] w fun e w' => e = .returned (.bool (hasB s.given k)) ∧ w' = w) := contains_any w O _ s.given k R.out.2.2 (by omega)
  clear h
  by_cases h1 : 0 ≤ k
  · by_cases h2 : k < s.fresh
    · have E : Hid (s.took k = !hasB s.given k) := by show _ = _; simp [St.took, h1, h2]
      cases hc : hasB s.given k
      all_goals
        rw [hc] at C E
        clear hc
        go_enter Try.func47, Try.ntmps47
        go_wp2_with (go_at_call 55; refine (C.out).mono ?_; rintro e w' ⟨rfl, rfl⟩)
        go_ret
        exact ⟨by rw [E.out]; rfl, rfl⟩
    · have E : Hid (s.took k = false) := by show _ = _; simp [St.took, h1, h2]
      go_enter Try.func47, Try.ntmps47
      go_wp2
      go_ret
      exact ⟨by rw [E.out]; rfl, rfl⟩
  · have E : Hid (s.took k = false) := by show _ = _; simp [St.took, h1]
    go_enter Try.func47, Try.ntmps47
    go_wp2
    go_ret
    exact ⟨by rw [E.out]; rfl, rfl⟩

theorem free_any (w : World) (b : Nat) (O : Nat → Prop) (s : St) (h : PoolAt w b O s) :
    Calls Try.prog 24 #[.pointer (some ⟨b, 0, none⟩)] w fun e w' => e = .returned (.int .i64 s.free) ∧ ∃ m, w' = w.drewN m := by
  have C : Hid (∀ m, Calls Try.prog 51 #[.pointer (some ⟨b, 0, none⟩)] (w.drewN m) fun e w' => e = .returned (.int .i64 s.pages) ∧ w' = w.drewN m) := fun m => pages_any (w.drewN m) b O s h
  obtain ⟨gw, n, a, len, cap, c0, c1, c2, _, R⟩ := h.cells
  have hlen := h.ok.len
  have h64 := h.ok.most
  have hhi := h.ok.high
  have hlo := h.ok.low
  have hl1 : len ≤ s.given.length := by have := R.out.2.1; omega
  have E : Hid (s.free = s.pages - s.fresh + len) := by show _ = _; rw [St.free, R.out.2.1]
  clear h
  go_enter Try.func24, Try.ntmps24
  go_wp2_with fail
  go_quiet ((go_at_call 51; exact Calls.quiet_of_same (C.out _)))
  go_wp2
  go_ret
  refine ⟨?_, _, rfl⟩
  rw [E.out]; rfl

theorem next_any (w : World) (b : Nat) (O : Nat → Prop) (s : St) (h : PoolAt w b O s) :
    Calls Try.prog 45 #[.pointer (some ⟨b, 0, none⟩)] w fun e w' => e = .returned (.int .i64 s.nextK) ∧ PoolAt w' b O s.next ∧ Step O O w w' := by
  have hown := h.ownB
  have H : Hid (PoolAt w b O s) := h
  obtain ⟨gw, n, a, len, cap, c0, c1, c2, hf, R⟩ := h.cells
  have f1 := hf 1
  have f2 := hf 2
  clear hf
  have hlen := h.ok.len
  have h64 := h.ok.most
  have hhi := h.ok.high
  have hlo := h.ok.low
  have hl1 : len ≤ s.given.length := by have := R.out.2.1; omega
  have hl2 : s.given.length ≤ len := by have := R.out.2.1; omega
  rcases List.eq_nil_or_concat s.given with hnil | ⟨ys, k, hcon⟩
  · have hl0 : len = 0 := by rw [hnil] at hl1; simpa using hl1
    have e1 : s.given.getLast? = none := by rw [hnil]; rfl
    subst hl0
    have C : Hid (∀ m, Calls Try.prog 51 #[.pointer (some ⟨b, 0, none⟩)] (w.drewN m) fun e w' => e = .returned (.int .i64 s.pages) ∧ w' = w.drewN m) := fun m => pages_any (w.drewN m) b O s h
    by_cases hfull : s.fresh = s.pages
    · have E : Hid (s.nextK = -1 ∧ s.next = s) := by constructor <;> simp [St.nextK, St.next, e1, hfull]
      have hfull' : (s.fresh == (s.pages : Int)) = true := by simpa using hfull
      clear h hnil e1 hl1 hl2 hlen hfull
      go_enter Try.func45, Try.ntmps45
      go_wp2_with fail
      go_quiet ((go_at_call 51; exact Calls.quiet_of_same (C.out _)))
      go_wp2
      go_ret
      refine ⟨?_, ?_, (Step.refl O _).drewN _⟩
      · rw [E.out.1]; rfl
      · rw [E.out.2]; exact H.out
    · have E : Hid (s.nextK = s.fresh ∧ s.next = { s with fresh := s.fresh + 1 }) := by constructor <;> simp [St.nextK, St.next, e1, hfull]
      have E2 : Hid (PoolAt (w.setCell ⟨b, 2, none⟩ (.int .i64 (s.fresh + 1))) b O { s with fresh := s.fresh + 1 }) := h.setFresh _ (by rw [← E.out.2]; exact St.ok_next h.ok)
      have hfull' : (s.fresh == (s.pages : Int)) = false := by simpa using hfull
      have hlt : s.fresh < s.pages := by omega
      clear h hnil e1 hl1 hl2 hlen hfull
      go_enter Try.func45, Try.ntmps45
      go_wp2_with fail
      go_quiet ((go_at_call 51; exact Calls.quiet_of_same (C.out _)))
      go_wp2
      go_ret
      refine ⟨?_, ?_, ?_⟩
      · rw [E.out.1]; simp
      · rw [E.out.2]; exact E2.out
      · exact ((Step.refl O _).drewN _).setCell hown _
  · have e1 : s.given.getLast? = some k := by rw [hcon]; simp
    have hgl : s.given.length = ys.length + 1 := by rw [hcon]; simp
    have hl3 : len = ys.length + 1 := by omega
    subst hl3
    have E : Hid (s.nextK = k ∧ s.next = { s with given := s.given.take (s.given.length - 1) }) := by constructor <;> simp [St.nextK, St.next, e1]
    obtain ⟨g, hg, -, hcap0, -⟩ := R.out.2.2.head (by omega)
    subst hg
    have ck : w.cell? ⟨g, ys.length, none⟩ = some (.int .i64 k) := by
      have := R.out.2.2.cell ys.length (by omega)
      rw [this, hcon]; simp [List.getD]
    have R2 := R.out.2.2.init ys.length (by omega)
    have E2 : Hid (PoolAt (w.setCell ⟨b, 1, none⟩ (.slice (some ⟨g, 0, none⟩) ys.length cap)) b O { s with given := s.given.take (s.given.length - 1) }) := by
      have hy : s.given.length - 1 = ys.length := by omega
      rw [hy]
      exact h.setGiven R2 (by have := St.ok_next h.ok; rw [E.out.2, hy] at this; exact this)
    have hcap : ys.length + 1 ≤ cap := by omega
    have hy64 : ys.length ≤ 64 := by omega
    generalize ys.length = m at *
    clear h hl1 hl2 hlen hcon hgl R2 e1 hcap0
    go_enter Try.func45, Try.ntmps45
    go_wp2
    go_ret
    refine ⟨?_, ?_, ?_⟩
    · rw [E.out.1]; rfl
    · rw [E.out.2]; exact E2.out
    · exact (Step.refl O _).setCell hown _

/-- A page's noughts. -/
def noughts : List Value := List.replicate 16 (.int .i64 0)

theorem PoolAt.wiped {w : World} {b : Nat} {O : Nat → Prop} {s : St} {gw n : Nat} {vg : Value} (hb : w.heap[b]? = some (.cells #[.slice (some ⟨gw, 0, none⟩) n n, vg, .int .i64 s.fresh] 78 (0, 0)))
    (hr : w.rowIs gw 2 n (fun i => .int .i64 (s.ws i))) (hg : Row w O 3 vg s.given) (ho : O b) (how : O gw) (hn : n = 16 * s.pages) (hok : s.Ok) (k : Nat) :
    PoolAt (w.setCells gw (k * 16) noughts) b O (s.wipe k) := by
  obtain ⟨cw, hcw, _, _⟩ := id hr
  have hbg : b ≠ gw := blockNe hb hcw (by decide)
  refine ⟨gw, n, vg, ?_, ?_, ?_, ho, how, hn, St.ok_wipe hok _⟩
  · rw [setCells_other hbg]; exact hb
  · refine (rowIs_fill (.int .i64 0) 16 (k * 16) _ _ hr).congr fun j hj => ?_
    by_cases e : k * 16 ≤ j ∧ j < k * 16 + 16
    · rw [if_pos e]; simp only [St.wipe]; rw [if_pos (by omega)]
    · rw [if_neg e]; simp only [St.wipe]; rw [if_neg (by omega)]
  · refine hg.keep (fun g hgg => ?_) hg.2
    obtain ⟨c, hc⟩ := hg.block hgg
    exact setCells_other (blockNe hc hcw (by decide)) _ _ _

theorem under_int64s : Try.prog.underlying 38 = some (.slice 2) := by kernel_rfl
theorem under_ints : Try.prog.underlying 39 = some (.slice 3) := by kernel_rfl
theorem zero_int64 (w : World) : (zeroValue 2).run Try.prog w = .ok (.int .i64 0) w := by kernel_rfl
theorem info_int64 : (Try.prog.info? 2).map (fun i => (i.zero, i.size, i.bytes)) = some (some (.int .i64 0), 1, 8) := by kernel_rfl
theorem info_int : (Try.prog.info? 3).map (fun i => (i.zero, i.size, i.bytes)) = some (some (.int .i64 0), 1, 8) := by kernel_rfl

theorem wipe_any (w : World) (b : Nat) (O : Nat → Prop) (s : St) (k : Nat) (h : PoolAt w b O s) (hk : k < s.pages) :
    Calls Try.prog 46 #[.pointer (some ⟨b, 0, none⟩), .int .i64 k] w fun e w' => e = .returned (.tuple #[]) ∧ PoolAt w' b O (s.wipe k) ∧ Step O O w w' := by
  obtain ⟨gw, n, vg, hb, hr, hg, ho, how, hn, hok⟩ := h
  have c0 : w.cell? ⟨b, 0, none⟩ = some (.slice (some ⟨gw, 0, none⟩) n n) := cellOf hb 0 _ rfl
  have E : Hid (PoolAt (w.setCells gw (k * 16) noughts) b O (s.wipe k)) := PoolAt.wiped hb hr hg ho how hn hok k
  have h64 := hok.most
  have hcl : ∀ ty c, (Builtin.clear_ #[38] ty #[.slice (some ⟨gw, k * 16, none⟩) ((k + 1) * 16 - k * 16) c]).run Try.prog w = .ok (.tuple #[]) (w.setCells gw (k * 16) noughts) := by
    rw [show (k + 1) * 16 - k * 16 = 16 by omega]
    exact fun ty c => Lib.run_clear_slice w _ _ ty _ under_int64s zero_int64 rfl rfl gw (k * 16) 16 c (by omega) (fun j hj => by rw [hr.cell (by omega)]; rfl) (fun j hj => hr.frozen _)
  have hn1 : n ≤ 16 * s.pages := by omega
  have hn2 : 16 * s.pages ≤ n := by omega
  clear hn
  go_enter Try.func46, Try.ntmps46
  go_wp2
  go_end0
  exact ⟨rfl, E.out, (Step.refl O _).setCells how _ _ _⟩

theorem take_any (w : World) (b : Nat) (O : Nat → Prop) (s : St) (h : PoolAt w b O s) :
    Calls Try.prog 16 #[.pointer (some ⟨b, 0, none⟩)] w fun e w' => e = .returned (.int .i64 s.nextK) ∧ PoolAt w' b O s.take ∧ Step O O w w' := by
  have hk := St.nextK_lt h.ok
  have C : Hid (Calls Try.prog 45 #[.pointer (some ⟨b, 0, none⟩)] w fun e w' => e = .returned (.int .i64 s.nextK) ∧ PoolAt w' b O s.next ∧ Step O O w w') := next_any w b O s h
  clear h
  obtain ⟨k, hkk⟩ : ∃ k, s.nextK = k := ⟨_, rfl⟩
  rw [hkk] at C hk ⊢
  by_cases hneg : k < 0
  · have E : Hid (s.take = s.next) := by show _ = _; simp [St.take, hkk, hneg]
    clear hkk
    go_enter Try.func16, Try.ntmps16
    go_wp2_with fail
    refine (C.out).mono ?_
    rintro e w' ⟨rfl, h1, h2⟩
    go_wp2
    go_ret
    exact ⟨rfl, by rw [E.out]; exact h1, h2⟩
  · have E : Hid (s.take = s.next.wipe k) := by show _ = _; simp [St.take, hkk, hneg]
    obtain ⟨m, rfl⟩ := Int.eq_ofNat_of_zero_le (show 0 ≤ k by omega)
    clear hkk
    go_enter Try.func16, Try.ntmps16
    go_wp2_with fail
    refine (C.out).mono ?_
    rintro e w' ⟨rfl, h1, h2⟩
    go_wp2_with fail
    refine (wipe_any w' b O s.next m h1 (by simp; omega)).mono ?_
    rintro e w'' ⟨rfl, h3, h4⟩
    go_wp2
    go_ret
    exact ⟨rfl, by rw [E.out]; exact h3, h2.trans h4⟩

/-- What is owned behind a call: what was, and new blocks. -/
def grow (O : Nat → Prop) (w w' : World) : Nat → Prop := fun k => (O k ∨ w.heap.size ≤ k) ∧ k < w'.heap.size

theorem give_done {w w1 : World} {b : Nat} {O : Nat → Prop} {s : St} {k : Int} {gw n g cap : Nat} {vg : Value} {o : Obj} (hb : w.heap[b]? = some (.cells #[.slice (some ⟨gw, 0, none⟩) n n, vg, .int .i64 s.fresh] 78 (0, 0)))
    (hr : w.rowIs gw 2 n (fun i => .int .i64 (s.ws i))) (hg : Row w O 3 vg s.given) (ho : O b) (how : O gw) (hn : n = 16 * s.pages) (hok : St.Ok { s with given := s.given ++ [k] })
    (h1 : w1.ownsRow 0 3 1 (.slice (some ⟨g, 0, none⟩) (s.given.length + 1) cap) (s.given.length + 1) (s.given.map (Value.int .i64) ++ [.int .i64 k]))
    (hgrow : (w.alloc o).grownBy w1 vg.ownBlock) (hat : vg.ownBlock = some g ∨ g = w.heap.size + 1) (hlt : g < w1.heap.size) :
    w1.cell? ⟨b, 1, none⟩ = some vg ∧ w1.frozen? ⟨b, 1, none⟩ = false ∧ PoolAt (w1.setCell ⟨b, 1, none⟩ (.slice (some ⟨g, 0, none⟩) (s.given.length + 1) cap)) b (grow O w w1) { s with given := s.given ++ [k] } ∧
    Step O (grow O w w1) w (w1.setCell ⟨b, 1, none⟩ (.slice (some ⟨g, 0, none⟩) (s.given.length + 1) cap)) := by
  have hltb := lt_of_block hb
  have hbv : vg.ownBlock ≠ some b := fun e => by
    obtain ⟨c, hc⟩ := hg.block e
    exact absurd rfl (blockNe hc hb (by decide))
  obtain ⟨cw, hcw, _, _⟩ := id hr
  have hltw := lt_of_block hcw
  have hbw : vg.ownBlock ≠ some gw := fun e => by
    obtain ⟨c, hc⟩ := hg.block e
    exact absurd rfl (blockNe hc hcw (by decide))
  have keep : ∀ x, x < w.heap.size → vg.ownBlock ≠ some x → w1.heap[x]? = w.heap[x]? := fun x hx hne =>
    (hgrow.block x (by simp; omega) (fun e => hne e.symm)).trans (Below.heap_alloc _ _ _ hx)
  have hb1 := (keep b hltb hbv).trans hb
  have hsz : w.heap.size + 1 ≤ w1.heap.size := by have := hgrow.size; simpa using this
  have gO : ∀ x, O x ∨ w.heap.size ≤ x → x < w1.heap.size → grow O w w1 x := fun x h h' => ⟨h, h'⟩
  have hrow := hg.pushed (o := o) h1 hat hlt (grow O w w1) gO
  refine ⟨cellOf hb1 1 _ rfl, freeOf hb1 1, ?_, ?_⟩
  · have hbg : b ≠ g := by
      intro e; subst e
      rcases hat with h' | h'
      · exact hbv h'
      · omega
    refine ⟨gw, n, .slice (some ⟨g, 0, none⟩) (s.given.length + 1) cap, ?_, ?_, ?_, gO _ (Or.inl ho) (by omega), gO _ (Or.inl how) (by omega), hn, hok⟩
    · rw [blockSet hb1]; rfl
    · refine (hr.of_block (keep gw hltw hbw)).setOther ?_ _
      exact Ne.symm (blockNe hb hcw (by decide))
    · refine hrow.keep (fun x hx => ?_) hrow.2
      simp [Value.ownBlock] at hx; subst hx
      exact Below.heap_setCell _ _ _ _ (Ne.symm hbg)
  · have S1 : Step O (grow O w w1) w w1 := by
      refine ⟨hgrow.os, hgrow.tape, hgrow.output, by omega, fun x hx hn => ?_, fun x hx => hx.1⟩
      exact keep x hx (fun e => hn (hg.2 x e))
    exact S1.setCell (p := ⟨b, 1, none⟩) (gO b (Or.inl ho) (by omega)) _

theorem give_any (w : World) (b : Nat) (O : Nat → Prop) (s : St) (k : Int) (h : PoolAt w b O s) :
    Calls Try.prog 18 #[.pointer (some ⟨b, 0, none⟩), .int .i64 k] w fun e w' => e = .returned (.bool (s.took k)) ∧ PoolAt w' b (grow O w w') (s.give k) ∧ Step O (grow O w w') w w' := by
  have C : Hid (Calls Try.prog 47 #[.pointer (some ⟨b, 0, none⟩), .int .i64 k] w fun e w' => e = .returned (.bool (s.took k)) ∧ w' = w) := isTaken_any w b O s k h
  cases ht : s.took k with
  | false =>
    rw [ht] at C
    have E : Hid (s.give k = s) := by show _ = _; simp [St.give, ht]
    have H : Hid (PoolAt w b O s) := h
    clear h ht
    go_enter Try.func18, Try.ntmps18
    go_wp2_with (go_at_call 47; refine (C.out).mono ?_; rintro e w' ⟨rfl, rfl⟩)
    go_ret
    refine ⟨rfl, ?_, ?_⟩
    · rw [E.out]
      obtain ⟨gw, n, vg, hb, hr, hg, ho, how, hn, hok⟩ := H.out
      exact ⟨gw, n, vg, hb, hr, hg.keep (fun _ _ => rfl) (fun g hgg => ⟨Or.inl (hg.2 g hgg), hg.lt hgg⟩), ⟨Or.inl ho, lt_of_block hb⟩, ⟨Or.inl how, hr.lt⟩, hn, hok⟩
    · exact ⟨rfl, rfl, rfl, Nat.le_refl _, fun _ _ _ => rfl, fun k hk => hk.1⟩
  | true =>
    rw [ht] at C
    have hok' := St.ok_give h.ok k
    have E : Hid (s.give k = { s with given := s.given ++ [k] }) := by show _ = _; simp [St.give, ht]
    have hlen := h.ok.len
    have h64 := h.ok.most
    have hhi := h.ok.high
    obtain ⟨gw, n, vg, hb, hr, hg, ho, how, hn, hok⟩ := h
    have c1 : w.cell? ⟨b, 1, none⟩ = some vg := cellOf hb 1 _ rfl
    obtain ⟨a, cap, rfl, _, _⟩ := hg.form
    have hown := hg.1
    obtain ⟨i0, hi, hz0, hz1, hz2⟩ := info_parts info_int
    have P : Hid (∀ g cap1 w1, w1.ownsRow 0 3 1 (.slice (some ⟨g, 0, none⟩) (s.given.length + 1) cap1) (s.given.length + 1) (s.given.map (Value.int .i64) ++ [.int .i64 k]) →
        (w.alloc (.cells #[.int .i64 k] 3)).grownBy w1 (Value.slice a s.given.length cap).ownBlock → ((Value.slice a s.given.length cap).ownBlock = some g ∨ g = w.heap.size + 1) → g < w1.heap.size →
        w1.cell? ⟨b, 1, none⟩ = some (.slice a s.given.length cap) ∧ w1.frozen? ⟨b, 1, none⟩ = false ∧ PoolAt (w1.setCell ⟨b, 1, none⟩ (.slice (some ⟨g, 0, none⟩) (s.given.length + 1) cap1)) b (grow O w w1) (s.give k) ∧
        Step O (grow O w w1) w (w1.setCell ⟨b, 1, none⟩ (.slice (some ⟨g, 0, none⟩) (s.given.length + 1) cap1))) := by
      intro g cap1 w1 h1 hgrow hat hlt
      rw [E.out]
      exact give_done hb hr hg ho how hn (by rw [E.out] at hok'; exact hok') h1 hgrow hat hlt
    obtain ⟨len, hl⟩ : ∃ len, s.given.length = len := ⟨_, rfl⟩
    rw [hl] at c1 hown hlen P
    clear hb hr hg hn hl hok' ht E
    go_enter Try.func18, Try.ntmps18
    go_wp2_with (first
      | (go_at_call 47; refine (C.out).mono ?_; rintro e w' ⟨rfl, hw⟩; have hw := hw.symm; subst hw)
      | (at_builtin; refine wpList_append_lies _ rfl (.tmp 13) (.tmp 15) 39 rfl 0 3 i0 (.int .i64 0) 1 8 under_ints hi hz0 hz1 hz2 rfl (by decide) _ _ _ rfl (hown.alloc _) ⟨w.heap.size, 0, none⟩ 1 1 [.int .i64 k] rfl rfl (news_one _ _ _) (oneCell_one _) (by decide) (by unfold maxLen; omega) (by omega) (Nat.zero_le _) (w.heap.size + 1) (by simp) ?_))
    intro g cap1 w1 h1 hgrow hat hlt
    obtain ⟨d1, d2, d3, d4⟩ := P.out g cap1 w1 h1 hgrow hat hlt
    have D : Hid (PoolAt (w1.setCell ⟨b, 1, none⟩ (.slice (some ⟨g, 0, none⟩) (len + 1) cap1)) b (grow O w w1) (s.give k) ∧ Step O (grow O w w1) w (w1.setCell ⟨b, 1, none⟩ (.slice (some ⟨g, 0, none⟩) (len + 1) cap1))) := ⟨d3, d4⟩
    clear d3 d4 h1 hgrow hat hlt hown P
    go_wp2
    go_ret
    refine ⟨rfl, ?_, ?_⟩
    · have e : grow O w (w1.setCell ⟨b, 1, none⟩ (.slice (some ⟨g, 0, none⟩) (len + 1) cap1)) = grow O w w1 := by unfold grow; simp
      rw [e]; exact D.out.1
    · have e : grow O w (w1.setCell ⟨b, 1, none⟩ (.slice (some ⟨g, 0, none⟩) (len + 1) cap1)) = grow O w w1 := by unfold grow; simp
      rw [e]; exact D.out.2

end Go.Proofs.Ytphindejlinleaa
