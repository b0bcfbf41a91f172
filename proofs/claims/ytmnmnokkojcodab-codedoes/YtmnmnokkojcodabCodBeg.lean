/-
  codeBegun: the chapter's examples: true.
-/
import Derived.Test.YtmnmnokkojcodabCodChk4
import Derived.Test.YtmnmnokkojcodabCodSame2
namespace Go.Proofs.Ytmnmnokkojcodab
open Go.ChangeShapes Go.WideShapes Go.ChangeAt Go.RowKit
set_option linter.unusedVariables false
set_option linter.unusedSimpArgs false

def T00 : MTo := ⟨0, [], []⟩
def E00 : MEnd := ⟨3, 0, T00, T00, []⟩
def L0 : List (MFunc 1) := [⟨0, [], [], [⟨0, [], [], E00⟩]⟩]
def I00 : MIns := ⟨1, 1, 0, 0, 0, 0, [], []⟩
def M0 : List (MFunc 1) := [⟨0, [], [], [⟨0, [], [I00], E00⟩]⟩]
theorem L0_fault : modFault L0 = (0, 0) := by decide +kernel
theorem M0_fault : modFault M0 = (4, 0) := by decide +kernel
theorem L0_ne : ¬ M0 = L0 := fun h => by
  have := congrArg (fun m => m.map (fun x => x.blocks.map (fun y => y.code.length))) h
  exact absurd this (by decide)
theorem L0_small : msmall L0 := msmall_of (by
  rintro (h | ⟨x, hx, h⟩)
  · exact absurd h (by decide)
  · simp only [L0, List.mem_singleton] at hx
    subst hx
    rcases h with h | h | h | ⟨y, hy, h⟩
    · exact absurd h (by decide)
    · rcases h with h | ⟨t, ht, _⟩
      · exact absurd h (by decide)
      · cases ht
    · rcases h with h | ⟨t, ht, _⟩
      · exact absurd h (by decide)
      · cases ht
    · simp only [List.mem_singleton] at hy
      subst hy
      rcases h with h | h | h | h | h | h | h | ⟨z, hz, h⟩
      · exact absurd h (by decide)
      · rcases h with h | ⟨t, ht, _⟩
        · exact absurd h (by decide)
        · cases ht
      · exact absurd h (by decide)
      · exact absurd h (by decide)
      · exact absurd h (by decide)
      · exact absurd h (by decide)
      · exact absurd h (by decide)
      · cases hz)
theorem M0_small : msmall M0 := ⟨by decide, fun x hx => by
  simp only [M0, List.mem_singleton] at hx
  subst hx
  refine ⟨by decide, ⟨by decide, fun t ht => by cases ht⟩, ⟨by decide, fun t ht => by cases ht⟩, fun y hy => ?_⟩
  simp only [List.mem_singleton] at hy
  subst hy
  refine ⟨by decide, ⟨by decide, fun t ht => by cases ht⟩, ⟨⟨by decide, by decide⟩, ⟨by decide, by decide⟩, by decide⟩, fun z hz => ?_⟩
  simp only [List.mem_singleton] at hz
  subst hz
  exact ⟨by decide, by decide⟩⟩
theorem one_list {α : Type} {A : Lay α} {w : World} {G : Nat} {c : Array Value} {t : TypeId} {x : α} {cs : List Value} (h : Blk w G c t) (hc : c.toList = cs) (hx : A.In w All x cs) : A.list.In w All [x] [.slice (some ⟨G, 0, none⟩) 1 1] := by
  refine ⟨some ⟨G, 0, none⟩, 1, rfl, fun i y hy => ?_⟩
  have hi : i = 0 := by
    have := (List.getElem?_eq_some_iff.1 hy).1
    simp at this; exact this
  subst hi
  simp at hy
  subst hy
  refine ⟨G, 0, cs, rfl, trivial, h.lt, fun j hj => ?_, hx⟩
  have hl := A.len hx
  have hj' : j < c.size := by rw [← hc] at hl; simp at hl; omega
  rw [Nat.zero_mul, Nat.zero_add, ← hc, Array.getElem?_toList]
  exact (cellOf h j c[j] (Array.getElem?_eq_getElem hj')).trans (Array.getElem?_eq_getElem hj').symm
theorem end_in (w : World) : EIn w All E00 ⟨none, 0, none, 0, none, 0, none, 0, none, 0⟩ :=
  ⟨⟨Lay.list_nil _ _ _ _ _, Lay.list_nil _ _ _ _ _, by decide⟩, ⟨Lay.list_nil _ _ _ _ _, Lay.list_nil _ _ _ _ _, by decide⟩, Lay.list_nil _ _ _ _ _, by decide, by decide⟩
theorem least_in {w : World} {G1 G2 : Nat} (h1 : Blk w G1 #[.int .i64 0, .slice none 0 0, .slice none 0 0, .int .i64 3, .int .i64 0, .int .i64 0, .slice none 0 0, .slice none 0 0, .int .i64 0, .slice none 0 0, .slice none 0 0, .slice none 0 0] 77) (h2 : Blk w G2 #[.int .i64 0, .slice none 0 0, .slice none 0 0, .slice (some ⟨G1, 0, none⟩) 1 1] 50) : (modL 1).In w All L0 [.slice (some ⟨G2, 0, none⟩) 1 1] :=
  one_list h2 rfl (func_shut (f := ⟨none, 0, none, 0, some ⟨G1, 0, none⟩, 1⟩) ⟨Lay.list_nil _ _ _ _ _, Lay.list_nil _ _ _ _ _, one_list h1 rfl (block_shut (x := ⟨0, [], [], E00⟩) (b := ⟨none, 0, none, 0, _⟩) ⟨Lay.list_nil _ _ _ _ _, Lay.list_nil _ _ _ _ _, end_in w, by decide⟩), by decide⟩)
theorem begun_in {w : World} {G1 G2 Gc : Nat} (h1 : Blk w G1 #[.int .i64 0, .slice none 0 0, .slice (some ⟨Gc, 0, none⟩) 1 1, .int .i64 3, .int .i64 0, .int .i64 0, .slice none 0 0, .slice none 0 0, .int .i64 0, .slice none 0 0, .slice none 0 0, .slice none 0 0] 77) (h2 : Blk w G2 #[.int .i64 0, .slice none 0 0, .slice none 0 0, .slice (some ⟨G1, 0, none⟩) 1 1] 50) (h3 : Blk w Gc #[.int .i64 1, .int .i64 1, .int .i64 0, .int .i64 0, .int .i64 0, .int .i64 0, .slice none 0 0, .slice none 0 0] 46) : (modL 1).In w All M0 [.slice (some ⟨G2, 0, none⟩) 1 1] :=
  one_list h2 rfl (func_shut (f := ⟨none, 0, none, 0, some ⟨G1, 0, none⟩, 1⟩) ⟨Lay.list_nil _ _ _ _ _, Lay.list_nil _ _ _ _ _, one_list h1 rfl (block_shut (x := ⟨0, [], [I00], E00⟩) (b := ⟨none, 0, some ⟨Gc, 0, none⟩, 1, _⟩) ⟨Lay.list_nil _ _ _ _ _, one_list h3 rfl (ins_shut (x := I00) (i := ⟨none, 0, none, 0⟩) ⟨Lay.list_nil _ _ _ _ _, Lay.list_nil _ _ _ _ _, by decide⟩), end_in w, by decide⟩), by decide⟩)
def LeastOut (w w' : World) (e : Ending) : Prop := ∃ G1 G2, e = .returned (.agg #[.slice (some ⟨G2, 0, none⟩) 1 1]) ∧ Blk w' G1 #[.int .i64 0, .slice none 0 0, .slice none 0 0, .int .i64 3, .int .i64 0, .int .i64 0, .slice none 0 0, .slice none 0 0, .int .i64 0, .slice none 0 0, .slice none 0 0, .slice none 0 0] 77 ∧ Blk w' G2 #[.int .i64 0, .slice none 0 0, .slice none 0 0, .slice (some ⟨G1, 0, none⟩) 1 1] 50 ∧ w.heap.size ≤ G1 ∧ w.heap.size ≤ G2 ∧ G1 ≠ G2 ∧ Below w.heap.size w w'
theorem Wd.addNe {w0 w : World} {Bs : List (Nat × Array Value × TypeId)} (h : Wd w0 w Bs) {B : Nat} {c : Array Value} {t : TypeId} (hb : Blk w B c t) (hB : w0.heap.size ≤ B) (hne : ∀ (i : Nat) x, Bs[i]? = some x → x.1 ≠ B) : Wd w0 w ((B, c, t) :: Bs) := by
  refine ⟨h.bel, fun i x hx => ?_, fun i x hx => ?_, fun i j x y hx hy e => ?_⟩
  · cases i with
    | zero => simp at hx; subst hx; exact hb
    | succ i => exact h.blk i x (by simpa using hx)
  · cases i with
    | zero => simp at hx; subst hx; exact hB
    | succ i => exact h.new i x (by simpa using hx)
  · cases i with
    | zero =>
      cases j with
      | zero => rfl
      | succ j => simp at hx hy; subst hx; exact absurd e.symm (hne j y hy)
    | succ i =>
      cases j with
      | zero => simp at hx hy; subst hy; exact absurd e (hne i x hx)
      | succ j => rw [h.nd i j x y (by simpa using hx) (by simpa using hy) e]

set_option maxHeartbeats 4000000 in
set_option maxRecDepth 100000 in
theorem least_any (w : World) : Calls Try.prog 40 #[] w fun e w' => LeastOut w w' e := by
  refine fr_enter (n := 7) Try.func40 rfl rfl rfl ?_
  intro a hF
  have hW := Wd.start w
  replace hF : Fr 7 a [] := hF
  refine wp_seq_k ?_
  intro K1 hK1
  refine fr_region ?_
  intro ops hops
  clear hops
  refine St.go hF ?_; clear hF a
  refine sAModule hW trivial rfl ?_
  clear hW; intro w2 B2 hW2 hN; clear hN
  refine St.nil fun a3 h3 => ?_
  refine hK1 _ _ ?_
  refine wp_seq_k ?_
  intro K4 hK4
  refine fr_region ?_
  intro ops hops
  clear hops
  refine fr_pure (t := 1) (v := .agg #[.int .i64 3, .int .i64 0, .int .i64 0, .slice none 0 0, .slice none 0 0, .int .i64 0, .slice none 0 0, .slice none 0 0, .slice none 0 0]) (w' := w2) h3 rfl rfl rfl (fun K hK => ?_) ?_
  ·go_simp
   exact hK
  clear h3; intro a5 hF5
  refine fr_pure (t := 2) (v := .agg #[.int .i64 0, .slice none 0 0, .slice none 0 0, .int .i64 3, .int .i64 0, .int .i64 0, .slice none 0 0, .slice none 0 0, .int .i64 0, .slice none 0 0, .slice none 0 0, .slice none 0 0]) (w' := w2) hF5 rfl rfl rfl (fun K hK => ?_) ?_
  ·have k0 : a5.tmps[1]?.getD undef = .agg #[.int .i64 3, .int .i64 0, .int .i64 0, .slice none 0 0, .slice none 0 0, .int .i64 0, .slice none 0 0, .slice none 0 0, .slice none 0 0] := hF5.sl2 1 _ rfl
   go_simp
   exact hK
  clear hF5; intro a6 hF6
  refine fr_row (t := 3) #[.int .i64 0, .slice none 0 0, .slice none 0 0, .int .i64 3, .int .i64 0, .int .i64 0, .slice none 0 0, .slice none 0 0, .int .i64 0, .slice none 0 0, .slice none 0 0, .slice none 0 0] 77 1 hF6 hW2 rfl rfl rfl (fun K hK => ?_) ?_
  ·have k0 : a6.tmps[2]?.getD undef = .agg #[.int .i64 0, .slice none 0 0, .slice none 0 0, .int .i64 3, .int .i64 0, .int .i64 0, .slice none 0 0, .slice none 0 0, .int .i64 0, .slice none 0 0, .slice none 0 0, .slice none 0 0] := hF6.sl2 2 _ rfl
   go_simp
   exact hK
  clear hF6 hW2; intro a7 w8 B8 hW8 hN hF7; clear hN
  refine fr_pure (t := 4) (v := .agg #[.int .i64 0, .slice none 0 0, .slice none 0 0, .slice (some ⟨B8, 0, none⟩) 1 1]) (w' := w8) hF7 rfl rfl rfl (fun K hK => ?_) ?_
  ·have k0 : a7.tmps[3]?.getD undef = .slice (some ⟨B8, 0, none⟩) 1 1 := hF7.sl2 3 _ rfl
   go_simp
   exact hK
  clear hF7; intro a9 hF9
  refine fr_row (t := 5) #[.int .i64 0, .slice none 0 0, .slice none 0 0, .slice (some ⟨B8, 0, none⟩) 1 1] 50 1 hF9 hW8 rfl rfl rfl (fun K hK => ?_) ?_
  ·have k0 : a9.tmps[4]?.getD undef = .agg #[.int .i64 0, .slice none 0 0, .slice none 0 0, .slice (some ⟨B8, 0, none⟩) 1 1] := hF9.sl2 4 _ rfl
   go_simp
   exact hK
  clear hF9 hW8; intro a10 w11 B11 hW11 hN hF10; clear hN
  refine fr_pure (t := 6) (v := .agg #[.slice (some ⟨B11, 0, none⟩) 1 1]) (w' := w11) hF10 rfl rfl rfl (fun K hK => ?_) ?_
  ·have k0 : a10.tmps[5]?.getD undef = .slice (some ⟨B11, 0, none⟩) 1 1 := hF10.sl2 5 _ rfl
   go_simp
   exact hK
  clear hF10; intro a12 hF12
  refine St.go hF12 ?_; clear hF12 a12
  refine sT 2 hW11 rfl rfl infModule rfl rfl rfl ?_
  clear hW11; intro w13 hW13
  refine St.nil fun a14 h14 => ?_
  refine hK4 _ _ ?_
  refine wp_ret ?_
  repeat (first | with_reducible refine of_then_ret ?_ | with_reducible refine of_block_ret ?_)
  exact ret_box 2 h14 hW13 rfl rfl rfl Try.underlying39 rfl infModule ⟨B8, B11, rfl, hW13.get 1 rfl, hW13.get 0 rfl, hW13.new 1 _ rfl, hW13.new 0 _ rfl, fun e => absurd (hW13.nd 1 0 _ _ rfl rfl e) (by decide), hW13.bel⟩

set_option maxHeartbeats 4000000 in
set_option maxRecDepth 100000 in
theorem begun_any (w : World) : Rd Try.prog 12 #[] w (.bool true) := by
  refine fr_enter (n := 32) Try.func12 rfl rfl rfl ?_
  intro a hF
  have hW := Wd.start w
  replace hF : Fr 32 a [] := hF
  refine wp_seq_k ?_
  intro K1 hK1
  refine fr_region ?_
  intro ops hops
  clear hops
  refine St.go hF ?_; clear hF a
  refine sa trivial rfl rfl ?_
  refine St.nil fun a2 h2 => ?_
  refine hK1 _ _ ?_
  refine wp_seq_k ?_
  intro K3 hK3
  refine fr_region ?_
  intro ops hops
  clear hops
  refine fr_call (t := 2) (fun v w' => ∃ G1 G2, v = .agg #[.slice (some ⟨G2, 0, none⟩) 1 1] ∧ Blk w' G1 #[.int .i64 0, .slice none 0 0, .slice none 0 0, .int .i64 3, .int .i64 0, .int .i64 0, .slice none 0 0, .slice none 0 0, .int .i64 0, .slice none 0 0, .slice none 0 0, .slice none 0 0] 77 ∧ Blk w' G2 #[.int .i64 0, .slice none 0 0, .slice none 0 0, .slice (some ⟨G1, 0, none⟩) 1 1] 50 ∧ w.heap.size ≤ G1 ∧ w.heap.size ≤ G2 ∧ G1 ≠ G2 ∧ Below w.heap.size w w') h2 rfl rfl rfl (fun K hK => ?_) ?_
  ·go_simp
   refine (least_any w).mono ?_
   rintro e w9 ⟨G1, G2, rfl, h⟩
   exact hK _ _ ⟨G1, G2, rfl, h⟩
  clear h2; rintro a4 v w5 ⟨G1, G2, rfl, hb1, hb2, hn1, hn2, hne, hbel⟩ hF4
  have hW5 : Wd w w5 [(G1, #[.int .i64 0, .slice none 0 0, .slice none 0 0, .int .i64 3, .int .i64 0, .int .i64 0, .slice none 0 0, .slice none 0 0, .int .i64 0, .slice none 0 0, .slice none 0 0, .slice none 0 0], 77), (G2, #[.int .i64 0, .slice none 0 0, .slice none 0 0, .slice (some ⟨G1, 0, none⟩) 1 1], 50)] := ((hW.below hbel).addNe hb2 (Nat.le_trans hW.bel.size hn2) (fun i x hx => by simp at hx)).addNe hb1 (Nat.le_trans hW.bel.size hn1) (fun i x hx => by cases i with | zero => simp at hx; subst hx; exact fun e => hne e.symm | succ i => simp at hx)
  clear hb1 hb2 hn1 hn2 hne hbel hW
  refine St.go hF4 ?_; clear hF4 a4
  refine sAModule hW5 trivial rfl ?_
  clear hW5; intro w6 B6 hW6 hN; clear hN
  refine sT 0 hW6 rfl rfl infModule rfl rfl rfl ?_
  clear hW6; intro w7 hW7
  refine St.nil fun a8 h8 => ?_
  refine hK3 _ _ ?_
  refine wp_seq_k ?_
  intro K9 hK9
  refine fr_region ?_
  intro ops hops
  clear hops
  refine St.go h8 ?_; clear h8 a8
  refine sfModule0 trivial rfl rfl ?_
  refine sbFuncs 0 hW7 trivial rfl rfl rfl rfl ?_
  intro a10 h10
  refine fr_pure (t := 5) (v := .pointer (some ⟨G2, 0, none⟩)) (w' := w7) h10 rfl rfl rfl (fun K hK => ?_) ?_
  ·have k0 : a10.tmps.getD 4 undef = .slice (some ⟨G2, 0, none⟩) 1 1 := h10.sl 4 _ rfl
   go_simp
   exact hK
  clear h10; intro a11 hF11
  refine St.go hF11 ?_; clear hF11 a11
  refine sfFunc3 trivial rfl rfl ?_
  refine sbBlocks 2 hW7 trivial rfl rfl rfl rfl ?_
  intro a12 h12
  refine fr_pure (t := 8) (v := .agg #[.int .i64 1, .int .i64 1, .int .i64 0, .int .i64 0, .int .i64 0, .int .i64 0, .slice none 0 0, .slice none 0 0]) (w' := w7) h12 rfl rfl rfl (fun K hK => ?_) ?_
  ·go_simp
   exact hK
  clear h12; intro a13 hF13
  refine fr_row (t := 9) #[.int .i64 1, .int .i64 1, .int .i64 0, .int .i64 0, .int .i64 0, .int .i64 0, .slice none 0 0, .slice none 0 0] 46 1 hF13 hW7 rfl rfl rfl (fun K hK => ?_) ?_
  ·have k0 : a13.tmps[8]?.getD undef = .agg #[.int .i64 1, .int .i64 1, .int .i64 0, .int .i64 0, .int .i64 0, .int .i64 0, .slice none 0 0, .slice none 0 0] := hF13.sl2 8 _ rfl
   go_simp
   exact hK
  clear hF13 hW7; intro a14 w15 B15 hW15 hN hF14; clear hN
  refine fr_pure (t := 10) (v := .pointer (some ⟨G1, 0, none⟩)) (w' := w15) hF14 rfl rfl rfl (fun K hK => ?_) ?_
  ·have k0 : a14.tmps.getD 7 undef = .slice (some ⟨G1, 0, none⟩) 1 1 := hF14.sl 7 _ rfl
   go_simp
   exact hK
  clear hF14; intro a16 hF16
  refine St.go hF16 ?_; clear hF16 a16
  refine sfBlock2 trivial rfl rfl ?_
  refine s1 2 inf1Inss hW15 rfl rfl rfl rfl rfl rfl ?_
  clear hW15; intro w17 hW17
  refine St.nil fun a18 h18 => ?_
  refine hK9 _ _ ?_
  refine wp_seq_k ?_
  intro K19 hK19
  have hF20 : Fr 32 a18 [(1, .pointer (some ⟨B6, 0, none⟩))] := (h18.keep h18.nil (t := 1) rfl)
  have ho1 : a18.tmps.getD 1 undef = .pointer (some ⟨B6, 0, none⟩) := h18.sl 1 _ rfl
  refine fr_draw_k 21 ([(1, fun v _ => v = .pointer (some ⟨B6, 0, none⟩)), (12, fun v w => ∃ G3 G4, v = .agg #[.slice (some ⟨G4, 0, none⟩) 1 1] ∧ Blk w G3 #[.int .i64 0, .slice none 0 0, .slice none 0 0, .int .i64 3, .int .i64 0, .int .i64 0, .slice none 0 0, .slice none 0 0, .int .i64 0, .slice none 0 0, .slice none 0 0, .slice none 0 0] 77 ∧ Blk w G4 #[.int .i64 0, .slice none 0 0, .slice none 0 0, .slice (some ⟨G3, 0, none⟩) 1 1] 50), (13, fun v _ => v = .agg #[.int .i64 0, .int .i64 0]), (14, fun v _ => v = .int .i64 0), (15, fun v _ => v = .bool true), (16, fun v _ => v = .bool true), (17, fun v _ => v = .agg #[.slice (some ⟨G2, 0, none⟩) 1 1]), (18, fun v _ => v = .agg #[.int .i64 4, .int .i64 0]), (19, fun v _ => v = .agg #[.int .i64 4, .int .i64 0]), (20, fun v _ => v = .bool true), (21, fun v _ => v = .bool true), (22, fun v _ => v = .bool true), (23, fun v _ => v = .agg #[.slice (some ⟨G2, 0, none⟩) 1 1]), (24, fun v w => ∃ G3 G4, v = .agg #[.slice (some ⟨G4, 0, none⟩) 1 1] ∧ Blk w G3 #[.int .i64 0, .slice none 0 0, .slice none 0 0, .int .i64 3, .int .i64 0, .int .i64 0, .slice none 0 0, .slice none 0 0, .int .i64 0, .slice none 0 0, .slice none 0 0, .slice none 0 0] 77 ∧ Blk w G4 #[.int .i64 0, .slice none 0 0, .slice none 0 0, .slice (some ⟨G3, 0, none⟩) 1 1] 50), (25, fun v _ => v = .bool false), (26, fun v _ => v = .bool true), (27, fun v _ => v = .bool true), (28, fun v _ => v = .bool true), (29, fun v _ => v = .int .i64 10291), (30, fun v _ => v = .bool true), (31, fun v _ => v = .bool true), (0, fun v _ => v = .bool true)] : PTab) (fun w' => Wd w w' [(B15, #[.int .i64 1, .int .i64 1, .int .i64 0, .int .i64 0, .int .i64 0, .int .i64 0, .slice none 0 0, .slice none 0 0], 46), (B6, #[.slice (some ⟨G2, 0, none⟩) 1 1], 39), (G1, #[.int .i64 0, .slice none 0 0, .slice (some ⟨B15, 0, none⟩) 1 1, .int .i64 3, .int .i64 0, .int .i64 0, .slice none 0 0, .slice none 0 0, .int .i64 0, .slice none 0 0, .slice none 0 0, .slice none 0 0], 77), (G2, #[.int .i64 0, .slice none 0 0, .slice none 0 0, .slice (some ⟨G1, 0, none⟩) 1 1], 50)] ∧ Below w17.heap.size w17 w') (fun w w' => Below w.heap.size w w') (outs := [1]) (gs := [(4, some true), (10, some true), (16, some true)]) (bs := [true, true, true, true, true, true, true, true, true, true, true, true, true, true, true, true, true, true, true, true, true]) (by kernel_rfl) hF20 rfl (by kernel_rfl) (by kernel_rfl) ?hR ?hG ⟨hW17.drewN 1, drewN_below (m := 1) (Below.refl _ _)⟩ ⟨ho1, trivial⟩ ?hA ?hend
  case hR => exact ⟨fun _ _ _ _ h => h, fun v w w' hr h => by obtain ⟨G3, G4, h1, h2, h3⟩ := h; exact ⟨G3, G4, h1, h2.below hr, h3.below hr⟩, fun _ _ _ _ h => h, fun _ _ _ _ h => h, fun _ _ _ _ h => h, fun _ _ _ _ h => h, fun _ _ _ _ h => h, fun _ _ _ _ h => h, fun _ _ _ _ h => h, fun _ _ _ _ h => h, fun _ _ _ _ h => h, fun _ _ _ _ h => h, fun _ _ _ _ h => h, fun v w w' hr h => by obtain ⟨G3, G4, h1, h2, h3⟩ := h; exact ⟨G3, G4, h1, h2.below hr, h3.below hr⟩, fun _ _ _ _ h => h, fun _ _ _ _ h => h, fun _ _ _ _ h => h, fun _ _ _ _ h => h, fun _ _ _ _ h => h, fun _ _ _ _ h => h, fun _ _ _ _ h => h, fun _ _ _ _ h => h, trivial⟩
  case hG => exact ⟨fun t ht v w _ h => by cases ht; exact h, fun t ht v w _ h => by cases ht; exact h, fun t ht v w _ h => by cases ht; exact h, trivial⟩
  case hA =>
   refine ⟨fun a w hW hk K hK => ?_, ?_⟩
   · clear hk
     go_simp
     refine (least_any w).mono ?_
     rintro e w9 ⟨G3, G4, rfl, h1, h2, h3, h4, h5, hb⟩
     exact hK _ _ hb ⟨hW.1.below hb, Below.andThen hW.2 hb⟩ ⟨G3, G4, rfl, h1, h2⟩
   refine ⟨fun a w hW hk K hK => ?_, ?_⟩
   · obtain ⟨k0, -⟩ := hk
     obtain ⟨G3, G4, k0, hl1, hl2⟩ := k0
     have k0 : a.tmps.getD 12 undef = .agg #[.slice (some ⟨G4, 0, none⟩) 1 1] := k0
     have hC : Rd Try.prog 15 #[.agg #[.slice (some ⟨G4, 0, none⟩) 1 1]] w (.agg #[.int .i64 0, .int .i64 0]) := by have h9 := cCheck_any (least_in hl1 hl2) L0_small; rwa [L0_fault] at h9
     go_simp
     refine hC.mono ?_
     rintro e w9 ⟨rfl, hb⟩
     exact hK _ _ hb ⟨hW.1.below hb, Below.andThen hW.2 hb⟩ rfl
   refine ⟨fun a w hW hk K hK => ?_, ?_⟩
   · obtain ⟨k0, -⟩ := hk
     have k0 : a.tmps.getD 13 undef = .agg #[.int .i64 0, .int .i64 0] := k0
     go_simp
     exact hK _ _ (Below.refl _ _) hW rfl
   refine ⟨fun a w hW hk K hK => ?_, ?_⟩
   · obtain ⟨k0, -⟩ := hk
     have k0 : a.tmps.getD 14 undef = .int .i64 0 := k0
     go_simp
     exact hK _ _ (Below.refl _ _) hW rfl
   refine ⟨fun a w hW hk K hK => ?_, ?_⟩
   · obtain ⟨k0, -⟩ := hk
     have k0 : a.tmps.getD 15 undef = .bool true := k0
     go_simp
     exact hK _ _ (Below.refl _ _) hW rfl
   refine ⟨fun a w hW hk K hK => ?_, ?_⟩
   · obtain ⟨k0, -⟩ := hk
     have k0 : a.tmps.getD 1 undef = .pointer (some ⟨B6, 0, none⟩) := k0
     have c0 : w.cell? ⟨B6, 0, none⟩ = some (.slice (some ⟨G2, 0, none⟩) 1 1) := cellOf (hW.1.get 1 rfl) 0 _ rfl
     go_simp
     exact hK _ _ (Below.refl _ _) hW rfl
   refine ⟨fun a w hW hk K hK => ?_, ?_⟩
   · obtain ⟨k0, -⟩ := hk
     have k0 : a.tmps.getD 17 undef = .agg #[.slice (some ⟨G2, 0, none⟩) 1 1] := k0
     have hC : Rd Try.prog 15 #[.agg #[.slice (some ⟨G2, 0, none⟩) 1 1]] w (.agg #[.int .i64 4, .int .i64 0]) := by have h9 := cCheck_any (begun_in (hW.1.get 2 rfl) (hW.1.get 3 rfl) (hW.1.get 0 rfl)) M0_small; rwa [M0_fault] at h9
     go_simp
     refine hC.mono ?_
     rintro e w9 ⟨rfl, hb⟩
     exact hK _ _ hb ⟨hW.1.below hb, Below.andThen hW.2 hb⟩ rfl
   refine ⟨fun a w hW hk K hK => ?_, ?_⟩
   · clear hk
     go_simp
     exact hK _ _ (Below.refl _ _) hW rfl
   refine ⟨fun a w hW hk K hK => ?_, ?_⟩
   · obtain ⟨k0, k1, -⟩ := hk
     have k0 : a.tmps.getD 18 undef = .agg #[.int .i64 4, .int .i64 0] := k0
     have k1 : a.tmps.getD 19 undef = .agg #[.int .i64 4, .int .i64 0] := k1
     go_simp
     exact hK _ _ (Below.refl _ _) hW rfl
   refine ⟨fun a w hW hk K hK => ?_, ?_⟩
   · obtain ⟨k0, k1, -⟩ := hk
     have k0 : a.tmps.getD 16 undef = .bool true := k0
     have k1 : a.tmps.getD 20 undef = .bool true := k1
     go_simp
     exact hK _ _ (Below.refl _ _) hW rfl
   refine ⟨fun a w hW hk K hK => ?_, ?_⟩
   · obtain ⟨k0, -⟩ := hk
     have k0 : a.tmps.getD 21 undef = .bool true := k0
     go_simp
     exact hK _ _ (Below.refl _ _) hW rfl
   refine ⟨fun a w hW hk K hK => ?_, ?_⟩
   · obtain ⟨k0, -⟩ := hk
     have k0 : a.tmps.getD 1 undef = .pointer (some ⟨B6, 0, none⟩) := k0
     have c0 : w.cell? ⟨B6, 0, none⟩ = some (.slice (some ⟨G2, 0, none⟩) 1 1) := cellOf (hW.1.get 1 rfl) 0 _ rfl
     go_simp
     exact hK _ _ (Below.refl _ _) hW rfl
   refine ⟨fun a w hW hk K hK => ?_, ?_⟩
   · clear hk
     go_simp
     refine (least_any w).mono ?_
     rintro e w9 ⟨G3, G4, rfl, h1, h2, h3, h4, h5, hb⟩
     exact hK _ _ hb ⟨hW.1.below hb, Below.andThen hW.2 hb⟩ ⟨G3, G4, rfl, h1, h2⟩
   refine ⟨fun a w hW hk K hK => ?_, ?_⟩
   · obtain ⟨k0, k1, -⟩ := hk
     have k0 : a.tmps.getD 23 undef = .agg #[.slice (some ⟨G2, 0, none⟩) 1 1] := k0
     obtain ⟨G3, G4, k1, hl1, hl2⟩ := k1
     have k1 : a.tmps.getD 24 undef = .agg #[.slice (some ⟨G4, 0, none⟩) 1 1] := k1
     have hC : Rd Try.prog 19 #[.agg #[.slice (some ⟨G2, 0, none⟩) 1 1], .agg #[.slice (some ⟨G4, 0, none⟩) 1 1]] w (.bool false) := by have h9 := cSame_any (begun_in (hW.1.get 2 rfl) (hW.1.get 3 rfl) (hW.1.get 0 rfl)) (least_in hl1 hl2) M0_small; rwa [bdec_false L0_ne] at h9
     go_simp
     refine hC.mono ?_
     rintro e w9 ⟨rfl, hb⟩
     exact hK _ _ hb ⟨hW.1.below hb, Below.andThen hW.2 hb⟩ rfl
   refine ⟨fun a w hW hk K hK => ?_, ?_⟩
   · obtain ⟨k0, -⟩ := hk
     have k0 : a.tmps.getD 25 undef = .bool false := k0
     go_simp
     exact hK _ _ (Below.refl _ _) hW rfl
   refine ⟨fun a w hW hk K hK => ?_, ?_⟩
   · obtain ⟨k0, k1, -⟩ := hk
     have k0 : a.tmps.getD 22 undef = .bool true := k0
     have k1 : a.tmps.getD 26 undef = .bool true := k1
     go_simp
     exact hK _ _ (Below.refl _ _) hW rfl
   refine ⟨fun a w hW hk K hK => ?_, ?_⟩
   · obtain ⟨k0, -⟩ := hk
     have k0 : a.tmps.getD 27 undef = .bool true := k0
     go_simp
     exact hK _ _ (Below.refl _ _) hW rfl
   refine ⟨fun a w hW hk K hK => ?_, ?_⟩
   · clear hk
     have hC : Rd Try.prog 28 #[.int .i64 1, .int .i64 2] w (.int .i64 10291) := by have h9 := cEndAt_any (f := 1) (b := 2) (w := w) (by decide); simpa using h9
     go_simp
     refine hC.mono ?_
     rintro e w9 ⟨rfl, hb⟩
     exact hK _ _ hb ⟨hW.1.below hb, Below.andThen hW.2 hb⟩ rfl
   refine ⟨fun a w hW hk K hK => ?_, ?_⟩
   · obtain ⟨k0, -⟩ := hk
     have k0 : a.tmps.getD 29 undef = .int .i64 10291 := k0
     go_simp
     exact hK _ _ (Below.refl _ _) hW rfl
   refine ⟨fun a w hW hk K hK => ?_, ?_⟩
   · obtain ⟨k0, k1, -⟩ := hk
     have k0 : a.tmps.getD 28 undef = .bool true := k0
     have k1 : a.tmps.getD 30 undef = .bool true := k1
     go_simp
     exact hK _ _ (Below.refl _ _) hW rfl
   refine ⟨fun a w hW hk K hK => ?_, ?_⟩
   · obtain ⟨k0, -⟩ := hk
     have k0 : a.tmps.getD 31 undef = .bool true := k0
     go_simp
     exact hK _ _ (Below.refl _ _) hW rfl
   trivial
  case hend =>
   intro ops a21 w21 hWD hE hFD
   have hd0 : a21.tmps.getD 0 undef = .bool true := hE 0 rfl
   have hF21 : Fr 32 a21 [(0, .bool true), (1, .pointer (some ⟨B6, 0, none⟩))] := (hFD.cons hd0)
   clear hd0
   have hW21 : Wd w w21 [(B15, #[.int .i64 1, .int .i64 1, .int .i64 0, .int .i64 0, .int .i64 0, .int .i64 0, .slice none 0 0, .slice none 0 0], 46), (B6, #[.slice (some ⟨G2, 0, none⟩) 1 1], 39), (G1, #[.int .i64 0, .slice none 0 0, .slice (some ⟨B15, 0, none⟩) 1 1, .int .i64 3, .int .i64 0, .int .i64 0, .slice none 0 0, .slice none 0 0, .int .i64 0, .slice none 0 0, .slice none 0 0, .slice none 0 0], 77), (G2, #[.int .i64 0, .slice none 0 0, .slice none 0 0, .slice (some ⟨G1, 0, none⟩) 1 1], 50)] := hWD.1
   clear hFD hWD hE hF20 h18
   clear hW17
   refine wpList_nil ?_
   refine hK19 _ _ ?_
   refine wp_ret ?_
   repeat (first | with_reducible refine of_then_ret ?_ | with_reducible refine of_block_ret ?_)
   exact ret_tmp (t := 0) hF21 rfl rfl ⟨rfl, hW21.bel⟩
end Go.Proofs.Ytmnmnokkojcodab
