/-
  OwnType and OwnTypes: the same tree in new memory.
-/
import Derived.Test.YtmnmnokkojcodabTypMake
namespace Go.Proofs.Ytmnmnokkojcodab
open Go.ChangeShapes Go.WideShapes Go.ChangeAt Go.RowKit
set_option linter.unusedVariables false

/-- A tree, or a list of trees, in new memory; nothing old has turned. -/
def TOut {n : Nat} (w w' : World) (t : TT n) (e : Ending) : Prop := ∃ a' c', e = .returned (Tv t a' c') ∧ TIn w' (From w.heap.size) t a' ∧ Below w.heap.size w w'
def LOut {n : Nat} (w w' : World) (l : List (TT n)) (e : Ending) : Prop := ∃ a' c', e = .returned (.slice a' l.length c') ∧ LIn w' (From w.heap.size) l a' ∧ Below w.heap.size w w'

def OwnAt (n : Nat) : Prop := ∀ (t : TT n) (a : Option Addr) (c : Nat) (w : World), TIn w All t a → t.count ≤ 2000 →
    Calls Try.prog 68 #[Tv t a c] w fun e w' => TOut w w' t e

set_option maxHeartbeats 4000000 in
set_option maxRecDepth 100000 in
theorem owns_any (n : Nat) (IH0 : OwnAt n) (l : List (TT n)) (a : Option Addr) (c : Nat) (w : World) (hl0 : LIn w All l a) (hlen : l.length ≤ 2000) (hco0 : ∀ x ∈ l, x.count ≤ 2000) :
    Calls Try.prog 42 #[.slice a l.length c] w fun e w' => LOut w w' l e := by
  have IH : Hid (OwnAt n) := IH0
  have hl : Hid (LIn w All l a) := hl0
  have hco : Hid (∀ x ∈ l, x.count ≤ 2000) := hco0
  clear IH0 hl0 hco0
  obtain ⟨i0, hi, hz0, hz1, hz2⟩ := infoT_parts
  go_enter Try.func42, Try.ntmps42
  go_wp2_with fail
  go_loopw [3, 4] (fun v i wr => ∃ q : Nat, q ≤ l.length ∧ i = .int .i64 q ∧ (∃ xs, TRow wr w.heap.size v (l.take q) xs) ∧ Below w.heap.size w wr) (fun _ i _ => l.length - (intOf i).toNat)
  case atStart => exact ⟨0, Nat.zero_le _, rfl, ⟨_, TRow.nil _ _⟩, Below.refl _ _⟩
  case round =>
    obtain ⟨q, hq, rfl, ⟨xs, hr⟩, hb⟩ := hrel
    have R : Hid (TRow wr w.heap.size u3 (l.take q) xs) := hr
    have B : Hid (Below w.heap.size w wr) := hb
    clear hr hb
    by_cases hlt : q < l.length
    · have hx : l[q]? = some l[q] := List.getElem?_eq_getElem hlt
      generalize l[q] = x at hx
      obtain ⟨g, o, a', c', rfl, _, d0, d1, d2, hk⟩ := LIn.at (hl.out.below B.out) hx
      have C : Hid (Calls Try.prog 68 #[Tv x a' c'] wr fun e w' => TOut wr w' x e) :=
        IH.out x a' c' _ hk (hco.out x (List.mem_of_getElem? hx))
      have T : Hid (l.take (q + 1) = l.take q ++ [x]) := by show _ = _; rw [List.take_add_one, hx]; rfl
      have hlq : Hid ((l.take q).length = q) := by show _ = _; simp; omega
      clear hk hx
      simp only [Tv] at C
      have hk0 : (0 : Int) ≤ q := by omega
      have hk1 : (q : Int) < l.length := by omega
      have hk2 : (q : Int) < 2000 := by omega
      go_wp2_with fail
      refine C.out.mono ?_
      rintro e w2 ⟨a2, c2, rfl, t2, b2⟩
      simp only [Tv]
      have R2 := R.out.below b2
      have hT2 : TIn w2 (But w.heap.size u3) x a2 := t2.mono (fun k hk _ => ⟨Nat.le_trans B.out.size hk, fun e => by have := (R.out.lo_le e).2; omega⟩)
      have hB2 : Below w.heap.size w w2 := B.out.trans (b2.mono B.out.size)
      have hown := R2.own
      rw [hlq.out] at hown
      have PU : Hid (∀ g2 cap2 w9, w9.ownsRow w.heap.size 90 3 (.slice (some ⟨g2, 0, none⟩) (q + 1) cap2) (q + 1) (xs ++ [.int .i64 x.kind, .int .i64 x.r, .slice a2 x.len c2]) → (w2.alloc (.cells #[.int .i64 x.kind, .int .i64 x.r, .slice a2 x.len c2] 90)).grownBy w9 u3.ownBlock → (u3.ownBlock = some g2 ∨ g2 = w2.heap.size + 1) →
          (∃ xs, TRow w9 w.heap.size (.slice (some ⟨g2, 0, none⟩) (q + 1) cap2) (l.take (q + 1)) xs) ∧ Below w.heap.size w w9) := by
        intro g2 cap2 w9 h1 h2 h3
        have b3 : Below w2.heap.size w2 (w2.alloc (.cells #[.int .i64 x.kind, .int .i64 x.r, .slice a2 x.len c2] 90)) := (Below.refl _ w2).alloc (Nat.le_refl _) _
        have := (R2.below b3).push (x := x) (a := a2) (c := c2) (cap := cap2) (hT2.below b3) h2 (by simpa using h3) (by rw [hlq.out]; exact h1)
        rw [hlq.out] at this
        refine ⟨⟨_, by rw [T.out]; exact this⟩, ?_⟩
        exact (hB2.alloc hB2.size _).grown h2 (by simp; have := hB2.size; omega) (fun k hk => (R.out.lo_le hk).1)
      have hsz := hB2.size
      clear C d0 d1 d2 t2 b2 R2 hT2 hB2
      generalize x.kind = kx at PU ⊢
      generalize x.r = rx at PU ⊢
      generalize x.len = lx at PU ⊢
      go_wp2_with (at_builtin; refine wpList_append_lies _ rfl (.tmp 11) (.tmp 17) 47 rfl w.heap.size 90 i0 (.agg #[.int .i64 0, .int .i64 0, .slice none 0 0]) 3 40 underTs hi hz0 hz1 hz2 rfl (by decide) _ _ _ rfl (hown.alloc _) ⟨w2.heap.size, 0, none⟩ 1 1 [.int .i64 kx, .int .i64 rx, .slice a2 lx c2] rfl rfl (news3 _ _ _ _) (one3 _ _ _ _ _) (by decide) (by unfold maxLen; omega) (by omega) (by simp; omega) (w2.heap.size + 1) (by simp) ?_)
      intro g2 cap2 w9 h1 hgrow hat hlt1
      have U2 : Hid _ := PU.out g2 cap2 w9 h1 hgrow hat
      clear h1 hgrow hat hlt1 hown PU R
      go_wp2
      go_roundw
      case rel => exact ⟨q + 1, by omega, by go_num, U2.out.1, U2.out.2⟩
      case measure => simp [intOf]; omega
    · have hk1 : ¬ (q : Int) < l.length := by omega
      have htt : l.take q = l := List.take_of_length_le (by omega)
      have hr := R.out
      rw [htt] at hr
      obtain ⟨a2, c2, rfl, h2⟩ := hr.lin
      have L : Hid (LIn wr (From w.heap.size) l a2) := h2
      clear R h2 hr htt
      go_wp2
      go_ret
      exact ⟨a2, c2, rfl, L.out, B.out⟩

/-- The box of a type that came in and the cells of the result behind it. -/
structure Bx2 (w wr : World) (k r : Int) (a : Option Addr) (len c : Nat) : Prop where
  bel : Below w.heap.size w wr
  box : wr.heap[w.heap.size]? = some (.cells #[.int .i64 k, .int .i64 r, .slice a len c] 90 (0, 0))
  res : wr.heap[w.heap.size + 1]? = some (.cells #[.int .i64 0, .int .i64 0, .slice none 0 0] 90 (0, 0))
theorem Bx2.start (w : World) (k r : Int) (a : Option Addr) (len c : Nat) : Bx2 w ((w.alloc (.cells #[.int .i64 k, .int .i64 r, .slice a len c] 90)).alloc (.cells #[.int .i64 0, .int .i64 0, .slice none 0 0] 90)) k r a len c :=
  ⟨((Below.refl _ w).alloc (Nat.le_refl _) _).alloc (by simp) _, (Below.heap_alloc _ _ _ (by simp)).trans (blockNew w _ _), by have := blockNew (w.alloc (.cells #[.int .i64 k, .int .i64 r, .slice a len c] 90)) #[.int .i64 0, .int .i64 0, .slice none 0 0] 90; simpa using this⟩
theorem Bx2.below {w wr w' : World} {k r : Int} {a : Option Addr} {len c : Nat} (h : Bx2 w wr k r a len c) (b : Below wr.heap.size wr w') : Bx2 w w' k r a len c :=
  ⟨h.bel.trans (b.mono h.bel.size), box_cells h.box b, box_cells h.res b⟩
theorem Bx2.stored {w wr : World} {k r : Int} {a : Option Addr} {len c : Nat} (h : Bx2 w wr k r a len c) (k' r' : Int) (a' : Option Addr) (len' c' : Nat) :
    (((wr.setCell ⟨w.heap.size + 1, 0, none⟩ (.int .i64 k')).setCell ⟨w.heap.size + 1, 1, none⟩ (.int .i64 r')).setCell ⟨w.heap.size + 1, 2, none⟩ (.slice a' len' c')).heap[w.heap.size + 1]? = some (.cells #[.int .i64 k', .int .i64 r', .slice a' len' c'] 90 (0, 0)) ∧
    Below w.heap.size w (((wr.setCell ⟨w.heap.size + 1, 0, none⟩ (.int .i64 k')).setCell ⟨w.heap.size + 1, 1, none⟩ (.int .i64 r')).setCell ⟨w.heap.size + 1, 2, none⟩ (.slice a' len' c')) := by
  refine ⟨?_, ((h.bel.setCell (by simp) _).setCell (by simp) _).setCell (by simp) _⟩
  have h1 := blockSet h.res 0 (.int .i64 k')
  have h2 := blockSet h1 1 (.int .i64 r')
  have h3 := blockSet h2 2 (.slice a' len' c')
  simpa using h3

set_option maxHeartbeats 4000000 in
set_option maxRecDepth 100000 in
theorem own_any : ∀ n, OwnAt n := by
  intro n
  induction n with
  | zero => intro t; exact Empty.elim t
  | succ n ih =>
    intro t a c w ht hc
    have hco : ∀ x ∈ t.2.2, x.count ≤ 2000 := fun x hx => by have := t.count_kid hx; omega
    have hlen : t.2.2.length ≤ 2000 := by have := t.len_lt_count; rw [t.len_eq] at this; omega
    have C : Hid (∀ wx, Below w.heap.size w wx → Calls Try.prog 42 #[.slice a t.2.2.length c] wx fun e w' => LOut wx w' t.2.2 e) :=
      fun wx hb => owns_any n ih t.2.2 a c wx (ht.below hb) hlen hco
    have P : Hid (∀ e wx w', Below w.heap.size w wx → (∃ a' c', e = .returned (.agg #[.int .i64 t.kind, .int .i64 t.r, .slice a' t.2.2.length c']) ∧ LIn w' (From wx.heap.size) t.2.2 a' ∧ Below w.heap.size w w') → TOut w w' t e) := by
      rintro e wx w' hb ⟨a', c', rfl, h1, h2⟩
      exact ⟨a', c', rfl, h1.mono (fun k hk _ => Nat.le_trans hb.size hk), h2⟩
    simp only [Tv, TT.len_eq]
    generalize t.kind = k at P ⊢
    generalize t.r = r at P ⊢
    generalize hll : t.2.2 = l at C P ⊢
    clear hco hlen hc ht ih hll
    go_enter Try.func68, Try.ntmps68
    go_wp2_with fail
    have X1 : Hid (Bx2 w ((w.alloc (.cells #[.int .i64 k, .int .i64 r, .slice a l.length c] 90)).alloc (.cells #[.int .i64 0, .int .i64 0, .slice none 0 0] 90)) k r a l.length c) := Bx2.start w k r a l.length c
    have hsz : w.heap.size + 1 < ((w.alloc (.cells #[.int .i64 k, .int .i64 r, .slice a l.length c] 90)).alloc (.cells #[.int .i64 0, .int .i64 0, .slice none 0 0] 90)).heap.size := by simp
    generalize (w.alloc (.cells #[.int .i64 k, .int .i64 r, .slice a l.length c] 90)).alloc (.cells #[.int .i64 0, .int .i64 0, .slice none 0 0] 90) = w1 at X1 hsz ⊢
    have C1 : Hid (∀ m, Calls Try.prog 42 #[.slice a l.length c] (w1.drewN m) fun e w' => LOut w1 w' l e ∧ Bx2 w w' k r a l.length c) := fun m =>
      (C.out (w1.drewN m) (drewN_below X1.out.bel)).mono (fun e w' h => by
        obtain ⟨a', c', h1, h2, h3⟩ := h
        exact ⟨⟨a', c', h1, h2, undrewN_below h3⟩, X1.out.below (undrewN_below h3)⟩)
    have e0 := cellOf X1.out.box 0 _ rfl
    have e1 := cellOf X1.out.box 1 _ rfl
    have e2 := cellOf X1.out.box 2 _ rfl
    clear C
    go_region_with (go_at_call 42; refine (C1.out 1).mono ?_; rintro e w5 ⟨⟨a2, c2, rfl, l2, b2⟩, x5⟩; have f0 := cellOf x5.box 0 _ rfl; have f1 := cellOf x5.box 1 _ rfl; have g0 := cellOf x5.res 0 _ rfl; have g1 := cellOf x5.res 1 _ rfl; have g2 := cellOf x5.res 2 _ rfl; have z0 := freeOf x5.res 0; have z1 := freeOf x5.res 1; have z2 := freeOf x5.res 2; have X5 : Hid _ := And.intro l2 x5; clear l2 b2 x5)
    all_goals
      have D := X5.out.2.stored k r a2 l.length c2
      have D2 : TOut w (((w5.setCell ⟨w.heap.size + 1, 0, none⟩ (.int .i64 k)).setCell ⟨w.heap.size + 1, 1, none⟩ (.int .i64 r)).setCell ⟨w.heap.size + 1, 2, none⟩ (.slice a2 l.length c2)) t (.returned (.agg #[.int .i64 k, .int .i64 r, .slice a2 l.length c2])) :=
        P.out _ w1 _ X1.out.bel ⟨a2, c2, rfl, ((X5.out.1.setCell (by simp; omega) _).setCell (by simp; omega) _).setCell (by simp; omega) _, D.2⟩
      have DD : Hid _ := D2
      have x0 := cellOf D.1 0 _ rfl
      have x1 := cellOf D.1 1 _ rfl
      have x2 := cellOf D.1 2 _ rfl
      clear D D2 X5 e0 e1 e2 f0 f1 g0 g1 g2 z0 z1 z2 P C1
      generalize ((w5.setCell ⟨w.heap.size + 1, 0, none⟩ (.int .i64 k)).setCell ⟨w.heap.size + 1, 1, none⟩ (.int .i64 r)).setCell ⟨w.heap.size + 1, 2, none⟩ (.slice a2 l.length c2) = w9 at DD x0 x1 x2 ⊢
      go_wp2
      exact bodyPost_ret (v := .agg #[.int .i64 k, .int .i64 r, .slice a2 l.length c2]) (by simp [results, Try.results68, go_sem, x0, x1, x2]) rfl DD.out
end Go.Proofs.Ytmnmnokkojcodab
