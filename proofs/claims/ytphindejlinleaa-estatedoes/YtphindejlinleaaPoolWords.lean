/-
  Contracts of the pool's Load and Store, and of what they ask first.
-/
import Derived.Test.YtphindejlinleaaPool
namespace Go.Proofs.Ytphindejlinleaa
open Go.ChangeShapes Go.WideShapes Go.ChangeAt Go.RowKit
set_option linter.unusedVariables false

theorem St.place_true {s : St} {k : Int} (h : s.place k = true) : 0 ≤ k ∧ k < 16 * s.pages := by simpa [St.place] using h
theorem St.place_false {s : St} {k : Int} (h : s.place k = false) : ¬ (0 ≤ k ∧ k < 16 * s.pages) := by
  intro h'; rw [show s.place k = true by simpa [St.place] using h'] at h; cases h

theorem isPlace_any (w : World) (b : Nat) (O : Nat → Prop) (s : St) (k : Int) (h : PoolAt w b O s) :
    Calls Try.prog 49 #[.pointer (some ⟨b, 0, none⟩), .int .i64 k] w fun e w' => e = .returned (.bool (s.place k)) ∧ w' = w := by
  obtain ⟨gw, n, vg, hb, hr, hg, ho, how, hn, hok⟩ := h
  have c0 : w.cell? ⟨b, 0, none⟩ = some (.slice (some ⟨gw, 0, none⟩) n n) := cellOf hb 0 _ rfl
  have hp := hok.most
  by_cases h1 : 0 ≤ k
  · by_cases h2 : k < (n : Int)
    · have E : Hid (s.place k = true) := by show s.place k = true; simp [St.place]; omega
      clear hn
      go_enter Try.func49, Try.ntmps49
      go_wp2
      go_ret
      exact ⟨by rw [E.out]; rfl, rfl⟩
    · have E : Hid (s.place k = false) := by show s.place k = false; simp [St.place]; omega
      clear hn
      go_enter Try.func49, Try.ntmps49
      go_wp2
      go_ret
      exact ⟨by rw [E.out]; rfl, rfl⟩
  · have E : Hid (s.place k = false) := by show s.place k = false; simp [St.place]; omega
    clear hn
    go_enter Try.func49, Try.ntmps49
    go_wp2
    go_ret
    exact ⟨by rw [E.out]; rfl, rfl⟩

theorem load_any (w : World) (b : Nat) (O : Nat → Prop) (s : St) (k : Int) (h : PoolAt w b O s) :
    Calls Try.prog 21 #[.pointer (some ⟨b, 0, none⟩), .int .i64 k] w fun e w' => e = .returned (.tuple #[.int .i64 (s.load k), .bool (s.place k)]) ∧ w' = w := by
  have c := isPlace_any w b O s k h
  obtain ⟨gw, n, vg, hb, hr, hg, ho, how, hn, hok⟩ := h
  have c0 : w.cell? ⟨b, 0, none⟩ = some (.slice (some ⟨gw, 0, none⟩) n n) := cellOf hb 0 _ rfl
  cases hpl : s.place k with
  | true =>
    rw [hpl] at c
    have E : Hid (s.load k = s.ws k.toNat) := by show _ = _; simp [St.load, hpl]
    obtain ⟨h1, h2⟩ := St.place_true hpl
    obtain ⟨i, rfl⟩ := Int.eq_ofNat_of_zero_le h1
    have hi : i < n := by omega
    have ci : w.cell? ⟨gw, i, none⟩ = some (.int .i64 (s.ws i)) := hr.cell hi
    have C : Hid (Calls Try.prog 49 #[.pointer (some ⟨b, 0, none⟩), .int .i64 i] w fun e w' => e = .returned (.bool true) ∧ w' = w) := c
    clear c hn h1 h2 hpl
    go_enter Try.func21, Try.ntmps21
    go_wp2_with (go_at_call 49; refine (C.out).mono ?_; rintro e w' ⟨rfl, rfl⟩)
    go_ret2
    exact ⟨by rw [E.out]; rfl, rfl⟩
  | false =>
    rw [hpl] at c
    have E : Hid (s.load k = 0) := by show _ = _; simp [St.load, hpl]
    have C : Hid (Calls Try.prog 49 #[.pointer (some ⟨b, 0, none⟩), .int .i64 k] w fun e w' => e = .returned (.bool false) ∧ w' = w) := c
    clear c hn hpl
    go_enter Try.func21, Try.ntmps21
    go_wp2_with (go_at_call 49; refine (C.out).mono ?_; rintro e w' ⟨rfl, rfl⟩)
    go_ret2
    exact ⟨by rw [E.out]; rfl, rfl⟩

theorem PoolAt.stored {w : World} {b : Nat} {O : Nat → Prop} {s : St} {gw n : Nat} {vg : Value} (hb : w.heap[b]? = some (.cells #[.slice (some ⟨gw, 0, none⟩) n n, vg, .int .i64 s.fresh] 78 (0, 0)))
    (hr : w.rowIs gw 2 n (fun i => .int .i64 (s.ws i))) (hg : Row w O 3 vg s.given) (ho : O b) (how : O gw) (hn : n = 16 * s.pages) (hok : s.Ok) (i : Nat) (hi : i < n) (x : Int) :
    PoolAt (w.setCell ⟨gw, i, none⟩ (.int .i64 x)) b O (s.store i x) := by
  have hpl : s.place i = true := by simp [St.place]; omega
  have e : s.store i x = { s with ws := fun j => if (j : Int) = i then x else s.ws j } := by simp [St.store, hpl]
  rw [e]
  obtain ⟨cw, hcw, _, _⟩ := id hr
  have hbg : b ≠ gw := blockNe hb hcw (by decide)
  refine ⟨gw, n, vg, ?_, ?_, ?_, ho, how, hn, ?_⟩
  · rw [Below.heap_setCell _ _ _ _ hbg]; exact hb
  · refine (hr.set i (.int .i64 x)).congr fun j hj => ?_
    by_cases e : j = i
    · subst e; simp
    · simp [e]; intro h; omega
  · refine hg.keep (fun g hgg => ?_) hg.2
    obtain ⟨c, hc⟩ := hg.block hgg
    exact Below.heap_setCell _ _ _ _ (blockNe hc hcw (by decide))
  · have := St.ok_store hok i x; rw [e] at this; exact this

theorem store_any (w : World) (b : Nat) (O : Nat → Prop) (s : St) (k x : Int) (h : PoolAt w b O s) :
    Calls Try.prog 20 #[.pointer (some ⟨b, 0, none⟩), .int .i64 k, .int .i64 x] w fun e w' => e = .returned (.bool (s.place k)) ∧ PoolAt w' b O (s.store k x) ∧ Step O O w w' := by
  have c := isPlace_any w b O s k h
  have hh := h
  obtain ⟨gw, n, vg, hb, hr, hg, ho, how, hn, hok⟩ := h
  have c0 : w.cell? ⟨b, 0, none⟩ = some (.slice (some ⟨gw, 0, none⟩) n n) := cellOf hb 0 _ rfl
  cases hpl : s.place k with
  | true =>
    rw [hpl] at c
    obtain ⟨h1, h2⟩ := St.place_true hpl
    obtain ⟨i, rfl⟩ := Int.eq_ofNat_of_zero_le h1
    have hi : i < n := by omega
    have ci : w.cell? ⟨gw, i, none⟩ = some (.int .i64 (s.ws i)) := hr.cell hi
    have cf : w.frozen? ⟨gw, i, none⟩ = false := hr.frozen i
    have E : Hid (PoolAt (w.setCell ⟨gw, i, none⟩ (.int .i64 x)) b O (s.store i x)) := PoolAt.stored hb hr hg ho how hn hok i hi x
    have C : Hid (Calls Try.prog 49 #[.pointer (some ⟨b, 0, none⟩), .int .i64 i] w fun e w' => e = .returned (.bool true) ∧ w' = w) := c
    clear c hn h1 h2 hpl hh
    go_enter Try.func20, Try.ntmps20
    go_wp2_with (go_at_call 49; refine (C.out).mono ?_; rintro e w' ⟨rfl, rfl⟩)
    go_ret
    exact ⟨rfl, E.out, (Step.refl O _).setCell how _⟩
  | false =>
    rw [hpl] at c
    have E : Hid (s.store k x = s) := by show _ = _; simp [St.store, hpl]
    have H : Hid (PoolAt w b O s) := hh
    have C : Hid (Calls Try.prog 49 #[.pointer (some ⟨b, 0, none⟩), .int .i64 k] w fun e w' => e = .returned (.bool false) ∧ w' = w) := c
    clear c hn hpl hh
    go_enter Try.func20, Try.ntmps20
    go_wp2_with (go_at_call 49; refine (C.out).mono ?_; rintro e w' ⟨rfl, rfl⟩)
    go_ret
    exact ⟨rfl, by rw [E.out]; exact H.out, Step.refl O _⟩

end Go.Proofs.Ytphindejlinleaa
