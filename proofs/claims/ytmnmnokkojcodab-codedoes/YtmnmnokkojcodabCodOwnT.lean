/-
  code.Own: parts in new memory.
-/
import Derived.Test.YtmnmnokkojcodabCodOwnI
import Derived.Test.YtmnmnokkojcodabFrN
import Derived.Test.YtmnmnokkojcodabFrD2
namespace Go.Proofs.Ytmnmnokkojcodab
open Go.ChangeShapes Go.WideShapes Go.ChangeAt Go.RowKit
set_option linter.unusedVariables false
set_option linter.unusedSimpArgs false

set_option maxHeartbeats 4000000 in
set_option maxRecDepth 100000 in
theorem cOwnTo_any (x : MTo) (pR pA : Option Addr) (cR cA : Nat) (w : World) (h : TIn2 w All x pR cR pA cA) (b1 : x.regs.length ≤ 4294967296) (b2 : x.args.length ≤ 4294967296) :
    Calls Try.prog 112 #[.agg #[.int .i64 x.block, .slice pR x.regs.length cR, .slice pA x.args.length cA]] w fun e w' => ∃ p c p2 c2, e = .returned (.agg #[.int .i64 x.block, .slice p x.regs.length c, .slice p2 x.args.length c2]) ∧ TIn2 w' (From w.heap.size) x p c p2 c2 ∧ Below w.heap.size w w' := by
  have hr : Hid _ := h.regs
  have hg : Hid _ := h.args
  have hbd := h.bnd
  clear h
  refine fr_enter (n := 12) Try.func112 rfl rfl rfl ?_
  intro a hF
  have hW := Wd.start w
  replace hF : Fr 12 a [(0, .agg #[.int .i64 x.block, .slice pR x.regs.length cR, .slice pA x.args.length cA])] := hF
  refine wp_seq_k ?_
  intro K1 hK1
  refine fr_region ?_
  intro ops hops
  clear hops
  refine St.go hF ?_; clear hF a
  refine sB hW trivial rfl rfl ?_
  clear hW; intro w2 B2 hW2 hN; clear hN
  refine sATo hW2 trivial rfl ?_
  clear hW2; intro w3 B3 hW3 hN; clear hN
  refine St.nil fun a4 h4 => ?_
  refine hK1 _ _ ?_
  refine wp_seq_k ?_
  intro K5 hK5
  have hF6 : Fr 12 a4 [(0, .agg #[.int .i64 x.block, .slice pR x.regs.length cR, .slice pA x.args.length cA]), (1, .pointer (some ⟨B2, 0, none⟩)), (2, .pointer (some ⟨B3, 0, none⟩))] := (h4.keep (h4.keep (h4.keep h4.nil (t := 2) rfl) (t := 1) rfl) (t := 0) rfl)
  have ho1 : a4.tmps.getD 1 undef = .pointer (some ⟨B2, 0, none⟩) := h4.sl 1 _ rfl
  refine fr_draw_k 7 ([(1, fun v _ => v = .pointer (some ⟨B2, 0, none⟩)), (3, fun v _ => v = .pointer (some ⟨B2, 1, none⟩)), (4, fun v _ => v = .slice pR x.regs.length cR), (5, fun v w' => ∃ p c, v = .slice p x.regs.length c ∧ intsL.In w' (From w3.heap.size) x.regs [.slice p x.regs.length c]), (6, fun v _ => v = .pointer (some ⟨B2, 2, none⟩)), (7, fun v _ => v = .slice pA x.args.length cA), (8, fun v w' => ∃ p c, v = .slice p x.args.length c ∧ intsL.In w' (From w3.heap.size) x.args [.slice p x.args.length c]), (9, fun v _ => v = .pointer (some ⟨B2, 1, none⟩))] : PTab) (fun w' => Wd w w' [(B3, #[.int .i64 0, .slice none 0 0, .slice none 0 0], 52), (B2, #[.int .i64 x.block, .slice pR x.regs.length cR, .slice pA x.args.length cA], 52)] ∧ Below w3.heap.size w3 w') (fun w w' => Below w.heap.size w w') (outs := [1]) (gs := []) (bs := [true, true, true, true, true, true, true]) (by kernel_rfl) hF6 rfl (by kernel_rfl) (by kernel_rfl) ?hR ?hG ⟨hW3.drewN 1, drewN_below (m := 1) (Below.refl _ _)⟩ ⟨ho1, trivial⟩ ?hA ?hend
  case hR => exact ⟨fun _ _ _ _ h => h, fun _ _ _ _ h => h, fun _ _ _ _ h => h, fun v w w' hr h => by obtain ⟨p, c, h1, h2⟩ := h; exact ⟨p, c, h1, Lay.below h2 hr⟩, fun _ _ _ _ h => h, fun _ _ _ _ h => h, fun v w w' hr h => by obtain ⟨p, c, h1, h2⟩ := h; exact ⟨p, c, h1, Lay.below h2 hr⟩, fun _ _ _ _ h => h, trivial⟩
  case hG => exact trivial
  case hA =>
   refine ⟨fun a w hW hk K hK => ?_, ?_⟩
   · obtain ⟨k0, -⟩ := hk
     have k0 : a.tmps.getD 1 undef = .pointer (some ⟨B2, 0, none⟩) := k0
     go_simp
     exact hK _ _ (Below.refl _ _) hW rfl
   refine ⟨fun a w hW hk K hK => ?_, ?_⟩
   · obtain ⟨k0, -⟩ := hk
     have k0 : a.tmps.getD 3 undef = .pointer (some ⟨B2, 1, none⟩) := k0
     have c1 : w.cell? ⟨B2, 1, none⟩ = some (.slice pR x.regs.length cR) := cellOf (hW.1.get 1 rfl) 1 _ rfl
     go_simp
     exact hK _ _ (Below.refl _ _) hW rfl
   refine ⟨fun a w hW hk K hK => ?_, ?_⟩
   · obtain ⟨k0, -⟩ := hk
     have k0 : a.tmps.getD 4 undef = .slice pR x.regs.length cR := k0
     go_simp
     refine (cOwnInts_any _ _ _ w (Lay.below hr.out hW.1.bel) b1).mono ?_
     rintro e w9 ⟨p9, c9, rfl, h9, hb⟩
     exact hK _ _ hb ⟨hW.1.below hb, Below.andThen hW.2 hb⟩ ⟨p9, c9, rfl, Lay.mono h9 (fun k hk _ => Nat.le_trans hW.2.size hk)⟩
   refine ⟨fun a w hW hk K hK => ?_, ?_⟩
   · obtain ⟨k0, -⟩ := hk
     have k0 : a.tmps.getD 1 undef = .pointer (some ⟨B2, 0, none⟩) := k0
     go_simp
     exact hK _ _ (Below.refl _ _) hW rfl
   refine ⟨fun a w hW hk K hK => ?_, ?_⟩
   · obtain ⟨k0, -⟩ := hk
     have k0 : a.tmps.getD 6 undef = .pointer (some ⟨B2, 2, none⟩) := k0
     have c2 : w.cell? ⟨B2, 2, none⟩ = some (.slice pA x.args.length cA) := cellOf (hW.1.get 1 rfl) 2 _ rfl
     go_simp
     exact hK _ _ (Below.refl _ _) hW rfl
   refine ⟨fun a w hW hk K hK => ?_, ?_⟩
   · obtain ⟨k0, -⟩ := hk
     have k0 : a.tmps.getD 7 undef = .slice pA x.args.length cA := k0
     go_simp
     refine (cOwnInts_any _ _ _ w (Lay.below hg.out hW.1.bel) b2).mono ?_
     rintro e w9 ⟨p9, c9, rfl, h9, hb⟩
     exact hK _ _ hb ⟨hW.1.below hb, Below.andThen hW.2 hb⟩ ⟨p9, c9, rfl, Lay.mono h9 (fun k hk _ => Nat.le_trans hW.2.size hk)⟩
   refine ⟨fun a w hW hk K hK => ?_, ?_⟩
   · obtain ⟨k0, -⟩ := hk
     have k0 : a.tmps.getD 1 undef = .pointer (some ⟨B2, 0, none⟩) := k0
     go_simp
     exact hK _ _ (Below.refl _ _) hW rfl
   trivial
  case hend =>
   intro ops a7 w7 hWD hE hFD
   obtain ⟨pN5, cN5, hd5, hNN5⟩ := hE 5 rfl
   replace hd5 : a7.tmps.getD 5 undef = .slice pN5 x.regs.length cN5 := hd5
   obtain ⟨pN8, cN8, hd8, hNN8⟩ := hE 8 rfl
   replace hd8 : a7.tmps.getD 8 undef = .slice pN8 x.args.length cN8 := hd8
   have hd9 : a7.tmps.getD 9 undef = .pointer (some ⟨B2, 1, none⟩) := hE 9 rfl
   have hF7 : Fr 12 a7 [(9, .pointer (some ⟨B2, 1, none⟩)), (8, .slice pN8 x.args.length cN8), (5, .slice pN5 x.regs.length cN5), (0, .agg #[.int .i64 x.block, .slice pR x.regs.length cR, .slice pA x.args.length cA]), (1, .pointer (some ⟨B2, 0, none⟩)), (2, .pointer (some ⟨B3, 0, none⟩))] := (((hFD.cons hd5).cons hd8).cons hd9)
   clear hd5 hd8 hd9
   have hW7 : Wd w w7 [(B3, #[.int .i64 0, .slice none 0 0, .slice none 0 0], 52), (B2, #[.int .i64 x.block, .slice pR x.regs.length cR, .slice pA x.args.length cA], 52)] := hWD.1
   have hlt0 : B3 < w3.heap.size := (hW3.get 0 rfl).lt
   have hlt1 : B2 < w3.heap.size := (hW3.get 1 rfl).lt
   have hsz : w.heap.size ≤ w3.heap.size := hW3.bel.size
   clear hFD hWD hE hF6 h4
   clear hW3
   refine St.go hF7 ?_; clear hF7 a7
   refine s1k 1 inf1Ints hW7 rfl rfl rfl rfl rfl rfl ?_
   intro w8 hKp hW8
   replace hNN5 := Lay.keep1 hNN5 hKp hlt1
   replace hNN8 := Lay.keep1 hNN8 hKp hlt1
   clear hKp hW7
   refine sfTo2 trivial rfl rfl ?_
   refine s1k 1 inf1Ints hW8 rfl rfl rfl rfl rfl rfl ?_
   intro w9 hKp hW9
   replace hNN5 := Lay.keep1 hNN5 hKp hlt1
   replace hNN8 := Lay.keep1 hNN8 hKp hlt1
   clear hKp hW8
   refine St.nil fun a10 h10 => ?_
   refine hK5 _ _ ?_
   refine wp_seq_k ?_
   intro K11 hK11
   refine fr_region ?_
   intro ops hops
   clear hops
   refine St.go h10 ?_; clear h10 a10
   refine sS 1 3 Try.underlying52 rfl infTo hW9 trivial rfl rfl rfl rfl ?_
   refine sTk 0 hW9 rfl rfl infTo rfl rfl rfl ?_
   intro w12 hKp hW12
   replace hNN5 := Lay.keep1 hNN5 hKp hlt0
   replace hNN8 := Lay.keep1 hNN8 hKp hlt0
   clear hKp hW9
   refine St.nil fun a13 h13 => ?_
   refine hK11 _ _ ?_
   refine wp_ret ?_
   repeat (first | with_reducible refine of_then_ret ?_ | with_reducible refine of_block_ret ?_)
   exact ret_box 0 h13 hW12 rfl rfl rfl Try.underlying52 rfl infTo ⟨_, _, _, _, rfl, ⟨Lay.mono hNN5 (fun k hk _ => Nat.le_trans hsz hk), Lay.mono hNN8 (fun k hk _ => Nat.le_trans hsz hk), hbd⟩, hW12.bel⟩

set_option maxHeartbeats 4000000 in
set_option maxRecDepth 100000 in
theorem cOwnIns_any (x : MIns) (i : IP) (w : World) (h : IIn w All x i) (b1 : x.regs.length ≤ 4294967296) (b2 : x.args.length ≤ 4294967296) :
    Calls Try.prog 101 #[.agg #[.int .i64 x.op, .int .i64 x.a, .int .i64 x.b, .int .i64 x.c, .int .i64 x.k, .int .i64 x.n, .slice i.pR x.regs.length i.cR, .slice i.pA x.args.length i.cA]] w fun e w' => ∃ i' : IP, e = .returned (.agg #[.int .i64 x.op, .int .i64 x.a, .int .i64 x.b, .int .i64 x.c, .int .i64 x.k, .int .i64 x.n, .slice i'.pR x.regs.length i'.cR, .slice i'.pA x.args.length i'.cA]) ∧ IIn w' (From w.heap.size) x i' ∧ Below w.heap.size w w' := by
  have hr : Hid _ := h.regs
  have hg : Hid _ := h.args
  have hbd := h.bnd
  clear h
  refine fr_enter (n := 12) Try.func101 rfl rfl rfl ?_
  intro a hF
  have hW := Wd.start w
  replace hF : Fr 12 a [(0, .agg #[.int .i64 x.op, .int .i64 x.a, .int .i64 x.b, .int .i64 x.c, .int .i64 x.k, .int .i64 x.n, .slice i.pR x.regs.length i.cR, .slice i.pA x.args.length i.cA])] := hF
  refine wp_seq_k ?_
  intro K1 hK1
  refine fr_region ?_
  intro ops hops
  clear hops
  refine St.go hF ?_; clear hF a
  refine sB hW trivial rfl rfl ?_
  clear hW; intro w2 B2 hW2 hN; clear hN
  refine sAIns hW2 trivial rfl ?_
  clear hW2; intro w3 B3 hW3 hN; clear hN
  refine St.nil fun a4 h4 => ?_
  refine hK1 _ _ ?_
  refine wp_seq_k ?_
  intro K5 hK5
  have hF6 : Fr 12 a4 [(0, .agg #[.int .i64 x.op, .int .i64 x.a, .int .i64 x.b, .int .i64 x.c, .int .i64 x.k, .int .i64 x.n, .slice i.pR x.regs.length i.cR, .slice i.pA x.args.length i.cA]), (1, .pointer (some ⟨B2, 0, none⟩)), (2, .pointer (some ⟨B3, 0, none⟩))] := (h4.keep (h4.keep (h4.keep h4.nil (t := 2) rfl) (t := 1) rfl) (t := 0) rfl)
  have ho1 : a4.tmps.getD 1 undef = .pointer (some ⟨B2, 0, none⟩) := h4.sl 1 _ rfl
  refine fr_draw_k 7 ([(1, fun v _ => v = .pointer (some ⟨B2, 0, none⟩)), (3, fun v _ => v = .pointer (some ⟨B2, 6, none⟩)), (4, fun v _ => v = .slice i.pR x.regs.length i.cR), (5, fun v w' => ∃ p c, v = .slice p x.regs.length c ∧ intsL.In w' (From w3.heap.size) x.regs [.slice p x.regs.length c]), (6, fun v _ => v = .pointer (some ⟨B2, 7, none⟩)), (7, fun v _ => v = .slice i.pA x.args.length i.cA), (8, fun v w' => ∃ p c, v = .slice p x.args.length c ∧ intsL.In w' (From w3.heap.size) x.args [.slice p x.args.length c]), (9, fun v _ => v = .pointer (some ⟨B2, 6, none⟩))] : PTab) (fun w' => Wd w w' [(B3, #[.int .i64 0, .int .i64 0, .int .i64 0, .int .i64 0, .int .i64 0, .int .i64 0, .slice none 0 0, .slice none 0 0], 46), (B2, #[.int .i64 x.op, .int .i64 x.a, .int .i64 x.b, .int .i64 x.c, .int .i64 x.k, .int .i64 x.n, .slice i.pR x.regs.length i.cR, .slice i.pA x.args.length i.cA], 46)] ∧ Below w3.heap.size w3 w') (fun w w' => Below w.heap.size w w') (outs := [1]) (gs := []) (bs := [true, true, true, true, true, true, true]) (by kernel_rfl) hF6 rfl (by kernel_rfl) (by kernel_rfl) ?hR ?hG ⟨hW3.drewN 1, drewN_below (m := 1) (Below.refl _ _)⟩ ⟨ho1, trivial⟩ ?hA ?hend
  case hR => exact ⟨fun _ _ _ _ h => h, fun _ _ _ _ h => h, fun _ _ _ _ h => h, fun v w w' hr h => by obtain ⟨p, c, h1, h2⟩ := h; exact ⟨p, c, h1, Lay.below h2 hr⟩, fun _ _ _ _ h => h, fun _ _ _ _ h => h, fun v w w' hr h => by obtain ⟨p, c, h1, h2⟩ := h; exact ⟨p, c, h1, Lay.below h2 hr⟩, fun _ _ _ _ h => h, trivial⟩
  case hG => exact trivial
  case hA =>
   refine ⟨fun a w hW hk K hK => ?_, ?_⟩
   · obtain ⟨k0, -⟩ := hk
     have k0 : a.tmps.getD 1 undef = .pointer (some ⟨B2, 0, none⟩) := k0
     go_simp
     exact hK _ _ (Below.refl _ _) hW rfl
   refine ⟨fun a w hW hk K hK => ?_, ?_⟩
   · obtain ⟨k0, -⟩ := hk
     have k0 : a.tmps.getD 3 undef = .pointer (some ⟨B2, 6, none⟩) := k0
     have c6 : w.cell? ⟨B2, 6, none⟩ = some (.slice i.pR x.regs.length i.cR) := cellOf (hW.1.get 1 rfl) 6 _ rfl
     go_simp
     exact hK _ _ (Below.refl _ _) hW rfl
   refine ⟨fun a w hW hk K hK => ?_, ?_⟩
   · obtain ⟨k0, -⟩ := hk
     have k0 : a.tmps.getD 4 undef = .slice i.pR x.regs.length i.cR := k0
     go_simp
     refine (cOwnInts_any _ _ _ w (Lay.below hr.out hW.1.bel) b1).mono ?_
     rintro e w9 ⟨p9, c9, rfl, h9, hb⟩
     exact hK _ _ hb ⟨hW.1.below hb, Below.andThen hW.2 hb⟩ ⟨p9, c9, rfl, Lay.mono h9 (fun k hk _ => Nat.le_trans hW.2.size hk)⟩
   refine ⟨fun a w hW hk K hK => ?_, ?_⟩
   · obtain ⟨k0, -⟩ := hk
     have k0 : a.tmps.getD 1 undef = .pointer (some ⟨B2, 0, none⟩) := k0
     go_simp
     exact hK _ _ (Below.refl _ _) hW rfl
   refine ⟨fun a w hW hk K hK => ?_, ?_⟩
   · obtain ⟨k0, -⟩ := hk
     have k0 : a.tmps.getD 6 undef = .pointer (some ⟨B2, 7, none⟩) := k0
     have c7 : w.cell? ⟨B2, 7, none⟩ = some (.slice i.pA x.args.length i.cA) := cellOf (hW.1.get 1 rfl) 7 _ rfl
     go_simp
     exact hK _ _ (Below.refl _ _) hW rfl
   refine ⟨fun a w hW hk K hK => ?_, ?_⟩
   · obtain ⟨k0, -⟩ := hk
     have k0 : a.tmps.getD 7 undef = .slice i.pA x.args.length i.cA := k0
     go_simp
     refine (cOwnInts_any _ _ _ w (Lay.below hg.out hW.1.bel) b2).mono ?_
     rintro e w9 ⟨p9, c9, rfl, h9, hb⟩
     exact hK _ _ hb ⟨hW.1.below hb, Below.andThen hW.2 hb⟩ ⟨p9, c9, rfl, Lay.mono h9 (fun k hk _ => Nat.le_trans hW.2.size hk)⟩
   refine ⟨fun a w hW hk K hK => ?_, ?_⟩
   · obtain ⟨k0, -⟩ := hk
     have k0 : a.tmps.getD 1 undef = .pointer (some ⟨B2, 0, none⟩) := k0
     go_simp
     exact hK _ _ (Below.refl _ _) hW rfl
   trivial
  case hend =>
   intro ops a7 w7 hWD hE hFD
   obtain ⟨pN5, cN5, hd5, hNN5⟩ := hE 5 rfl
   replace hd5 : a7.tmps.getD 5 undef = .slice pN5 x.regs.length cN5 := hd5
   obtain ⟨pN8, cN8, hd8, hNN8⟩ := hE 8 rfl
   replace hd8 : a7.tmps.getD 8 undef = .slice pN8 x.args.length cN8 := hd8
   have hd9 : a7.tmps.getD 9 undef = .pointer (some ⟨B2, 6, none⟩) := hE 9 rfl
   have hF7 : Fr 12 a7 [(9, .pointer (some ⟨B2, 6, none⟩)), (8, .slice pN8 x.args.length cN8), (5, .slice pN5 x.regs.length cN5), (0, .agg #[.int .i64 x.op, .int .i64 x.a, .int .i64 x.b, .int .i64 x.c, .int .i64 x.k, .int .i64 x.n, .slice i.pR x.regs.length i.cR, .slice i.pA x.args.length i.cA]), (1, .pointer (some ⟨B2, 0, none⟩)), (2, .pointer (some ⟨B3, 0, none⟩))] := (((hFD.cons hd5).cons hd8).cons hd9)
   clear hd5 hd8 hd9
   have hW7 : Wd w w7 [(B3, #[.int .i64 0, .int .i64 0, .int .i64 0, .int .i64 0, .int .i64 0, .int .i64 0, .slice none 0 0, .slice none 0 0], 46), (B2, #[.int .i64 x.op, .int .i64 x.a, .int .i64 x.b, .int .i64 x.c, .int .i64 x.k, .int .i64 x.n, .slice i.pR x.regs.length i.cR, .slice i.pA x.args.length i.cA], 46)] := hWD.1
   have hlt0 : B3 < w3.heap.size := (hW3.get 0 rfl).lt
   have hlt1 : B2 < w3.heap.size := (hW3.get 1 rfl).lt
   have hsz : w.heap.size ≤ w3.heap.size := hW3.bel.size
   clear hFD hWD hE hF6 h4
   clear hW3
   refine St.go hF7 ?_; clear hF7 a7
   refine s1k 1 inf1Ints hW7 rfl rfl rfl rfl rfl rfl ?_
   intro w8 hKp hW8
   replace hNN5 := Lay.keep1 hNN5 hKp hlt1
   replace hNN8 := Lay.keep1 hNN8 hKp hlt1
   clear hKp hW7
   refine sfIns7 trivial rfl rfl ?_
   refine s1k 1 inf1Ints hW8 rfl rfl rfl rfl rfl rfl ?_
   intro w9 hKp hW9
   replace hNN5 := Lay.keep1 hNN5 hKp hlt1
   replace hNN8 := Lay.keep1 hNN8 hKp hlt1
   clear hKp hW8
   refine St.nil fun a10 h10 => ?_
   refine hK5 _ _ ?_
   refine wp_seq_k ?_
   intro K11 hK11
   refine fr_region ?_
   intro ops hops
   clear hops
   refine St.go h10 ?_; clear h10 a10
   refine sS 1 8 Try.underlying46 rfl infIns hW9 trivial rfl rfl rfl rfl ?_
   refine sTk 0 hW9 rfl rfl infIns rfl rfl rfl ?_
   intro w12 hKp hW12
   replace hNN5 := Lay.keep1 hNN5 hKp hlt0
   replace hNN8 := Lay.keep1 hNN8 hKp hlt0
   clear hKp hW9
   refine St.nil fun a13 h13 => ?_
   refine hK11 _ _ ?_
   refine wp_ret ?_
   repeat (first | with_reducible refine of_then_ret ?_ | with_reducible refine of_block_ret ?_)
   exact ret_box 0 h13 hW12 rfl rfl rfl Try.underlying46 rfl infIns ⟨⟨pN5, cN5, pN8, cN8⟩, rfl, ⟨Lay.mono hNN5 (fun k hk _ => Nat.le_trans hsz hk), Lay.mono hNN8 (fun k hk _ => Nat.le_trans hsz hk), hbd⟩, hW12.bel⟩

set_option maxHeartbeats 4000000 in
set_option maxRecDepth 100000 in
theorem cOwnEnd_any (x : MEnd) (i : EP) (w : World) (h : EIn w All x i) (b1 : x.yes.regs.length ≤ 4294967296) (b2 : x.yes.args.length ≤ 4294967296) (b3 : x.no.regs.length ≤ 4294967296) (b4 : x.no.args.length ≤ 4294967296) (b5 : x.args.length ≤ 4294967296) :
    Calls Try.prog 102 #[.agg #[.int .i64 x.op, .int .i64 x.a, .int .i64 x.yes.block, .slice i.pYR x.yes.regs.length i.cYR, .slice i.pYA x.yes.args.length i.cYA, .int .i64 x.no.block, .slice i.pNR x.no.regs.length i.cNR, .slice i.pNA x.no.args.length i.cNA, .slice i.pA x.args.length i.cA]] w fun e w' => ∃ i' : EP, e = .returned (.agg #[.int .i64 x.op, .int .i64 x.a, .int .i64 x.yes.block, .slice i'.pYR x.yes.regs.length i'.cYR, .slice i'.pYA x.yes.args.length i'.cYA, .int .i64 x.no.block, .slice i'.pNR x.no.regs.length i'.cNR, .slice i'.pNA x.no.args.length i'.cNA, .slice i'.pA x.args.length i'.cA]) ∧ EIn w' (From w.heap.size) x i' ∧ Below w.heap.size w w' := by
  have hy : Hid _ := h.yes
  have hn : Hid _ := h.no
  have hg : Hid _ := h.args
  have hbd := h.bnd
  clear h
  refine fr_enter (n := 16) Try.func102 rfl rfl rfl ?_
  intro a hF
  have hW := Wd.start w
  replace hF : Fr 16 a [(0, .agg #[.int .i64 x.op, .int .i64 x.a, .int .i64 x.yes.block, .slice i.pYR x.yes.regs.length i.cYR, .slice i.pYA x.yes.args.length i.cYA, .int .i64 x.no.block, .slice i.pNR x.no.regs.length i.cNR, .slice i.pNA x.no.args.length i.cNA, .slice i.pA x.args.length i.cA])] := hF
  refine wp_seq_k ?_
  intro K1 hK1
  refine fr_region ?_
  intro ops hops
  clear hops
  refine St.go hF ?_; clear hF a
  refine sB hW trivial rfl rfl ?_
  clear hW; intro w2 B2 hW2 hN; clear hN
  refine sAEnd hW2 trivial rfl ?_
  clear hW2; intro w3 B3 hW3 hN; clear hN
  refine St.nil fun a4 h4 => ?_
  refine hK1 _ _ ?_
  refine wp_seq_k ?_
  intro K5 hK5
  have hF6 : Fr 16 a4 [(0, .agg #[.int .i64 x.op, .int .i64 x.a, .int .i64 x.yes.block, .slice i.pYR x.yes.regs.length i.cYR, .slice i.pYA x.yes.args.length i.cYA, .int .i64 x.no.block, .slice i.pNR x.no.regs.length i.cNR, .slice i.pNA x.no.args.length i.cNA, .slice i.pA x.args.length i.cA]), (1, .pointer (some ⟨B2, 0, none⟩)), (2, .pointer (some ⟨B3, 0, none⟩))] := (h4.keep (h4.keep (h4.keep h4.nil (t := 2) rfl) (t := 1) rfl) (t := 0) rfl)
  have ho1 : a4.tmps.getD 1 undef = .pointer (some ⟨B2, 0, none⟩) := h4.sl 1 _ rfl
  refine fr_draw2_k 10 ([(1, fun v _ => v = .pointer (some ⟨B2, 0, none⟩)), (3, fun v _ => v = .pointer (some ⟨B2, 2, none⟩)), (4, fun v _ => v = .agg #[.int .i64 x.yes.block, .slice i.pYR x.yes.regs.length i.cYR, .slice i.pYA x.yes.args.length i.cYA]), (5, fun v w' => ∃ p c p2 c2, v = .agg #[.int .i64 x.yes.block, .slice p x.yes.regs.length c, .slice p2 x.yes.args.length c2] ∧ TIn2 w' (From w3.heap.size) x.yes p c p2 c2), (6, fun v _ => v = .pointer (some ⟨B2, 5, none⟩)), (7, fun v _ => v = .agg #[.int .i64 x.no.block, .slice i.pNR x.no.regs.length i.cNR, .slice i.pNA x.no.args.length i.cNA]), (8, fun v w' => ∃ p c p2 c2, v = .agg #[.int .i64 x.no.block, .slice p x.no.regs.length c, .slice p2 x.no.args.length c2] ∧ TIn2 w' (From w3.heap.size) x.no p c p2 c2), (9, fun v _ => v = .pointer (some ⟨B2, 8, none⟩)), (10, fun v _ => v = .slice i.pA x.args.length i.cA), (11, fun v w' => ∃ p c, v = .slice p x.args.length c ∧ intsL.In w' (From w3.heap.size) x.args [.slice p x.args.length c]), (12, fun v _ => v = .pointer (some ⟨B2, 2, none⟩))] : PTab) (fun w' => Wd w w' [(B3, #[.int .i64 0, .int .i64 0, .int .i64 0, .slice none 0 0, .slice none 0 0, .int .i64 0, .slice none 0 0, .slice none 0 0, .slice none 0 0], 54), (B2, #[.int .i64 x.op, .int .i64 x.a, .int .i64 x.yes.block, .slice i.pYR x.yes.regs.length i.cYR, .slice i.pYA x.yes.args.length i.cYA, .int .i64 x.no.block, .slice i.pNR x.no.regs.length i.cNR, .slice i.pNA x.no.args.length i.cNA, .slice i.pA x.args.length i.cA], 54)] ∧ Below w3.heap.size w3 w') (fun w w' => Below w.heap.size w w') (outs := [1]) (gs := []) (bs := [true, true, true, true, true, true, true, true, true, true]) (by kernel_rfl) hF6 rfl (by kernel_rfl) (by kernel_rfl) ?hR ?hG ⟨hW3.drewN 1, drewN_below (m := 1) (Below.refl _ _)⟩ ⟨ho1, trivial⟩ ?hA ?hend
  case hR => exact ⟨fun _ _ _ _ h => h, fun _ _ _ _ h => h, fun _ _ _ _ h => h, fun v w w' hr h => by obtain ⟨p, c, p2, c2, h1, h2⟩ := h; exact ⟨p, c, p2, c2, h1, ⟨Lay.below h2.regs hr, Lay.below h2.args hr, h2.bnd⟩⟩, fun _ _ _ _ h => h, fun _ _ _ _ h => h, fun v w w' hr h => by obtain ⟨p, c, p2, c2, h1, h2⟩ := h; exact ⟨p, c, p2, c2, h1, ⟨Lay.below h2.regs hr, Lay.below h2.args hr, h2.bnd⟩⟩, fun _ _ _ _ h => h, fun _ _ _ _ h => h, fun v w w' hr h => by obtain ⟨p, c, h1, h2⟩ := h; exact ⟨p, c, h1, Lay.below h2 hr⟩, fun _ _ _ _ h => h, trivial⟩
  case hG => exact trivial
  case hA =>
   refine ⟨fun a w hW hk K hK => ?_, ?_⟩
   · obtain ⟨k0, -⟩ := hk
     have k0 : a.tmps.getD 1 undef = .pointer (some ⟨B2, 0, none⟩) := k0
     go_simp
     exact hK _ _ (Below.refl _ _) hW rfl
   refine ⟨fun a w hW hk K hK => ?_, ?_⟩
   · obtain ⟨k0, -⟩ := hk
     have k0 : a.tmps.getD 3 undef = .pointer (some ⟨B2, 2, none⟩) := k0
     have c2 : w.cell? ⟨B2, 2, none⟩ = some (.int .i64 x.yes.block) := cellOf (hW.1.get 1 rfl) 2 _ rfl
     have c3 : w.cell? ⟨B2, 3, none⟩ = some (.slice i.pYR x.yes.regs.length i.cYR) := cellOf (hW.1.get 1 rfl) 3 _ rfl
     have c4 : w.cell? ⟨B2, 4, none⟩ = some (.slice i.pYA x.yes.args.length i.cYA) := cellOf (hW.1.get 1 rfl) 4 _ rfl
     go_simp
     exact hK _ _ (Below.refl _ _) hW rfl
   refine ⟨fun a w hW hk K hK => ?_, ?_⟩
   · obtain ⟨k0, -⟩ := hk
     have k0 : a.tmps.getD 4 undef = .agg #[.int .i64 x.yes.block, .slice i.pYR x.yes.regs.length i.cYR, .slice i.pYA x.yes.args.length i.cYA] := k0
     go_simp
     refine (cOwnTo_any _ _ _ _ _ w ⟨Lay.below hy.out.regs hW.1.bel, Lay.below hy.out.args hW.1.bel, hy.out.bnd⟩ b1 b2).mono ?_
     rintro e w9 ⟨p9, c9, p8, c8, rfl, h9, hb⟩
     exact hK _ _ hb ⟨hW.1.below hb, Below.andThen hW.2 hb⟩ ⟨p9, c9, p8, c8, rfl, ⟨Lay.mono h9.regs (fun k hk _ => Nat.le_trans hW.2.size hk), Lay.mono h9.args (fun k hk _ => Nat.le_trans hW.2.size hk), h9.bnd⟩⟩
   refine ⟨fun a w hW hk K hK => ?_, ?_⟩
   · obtain ⟨k0, -⟩ := hk
     have k0 : a.tmps.getD 1 undef = .pointer (some ⟨B2, 0, none⟩) := k0
     go_simp
     exact hK _ _ (Below.refl _ _) hW rfl
   refine ⟨fun a w hW hk K hK => ?_, ?_⟩
   · obtain ⟨k0, -⟩ := hk
     have k0 : a.tmps.getD 6 undef = .pointer (some ⟨B2, 5, none⟩) := k0
     have c5 : w.cell? ⟨B2, 5, none⟩ = some (.int .i64 x.no.block) := cellOf (hW.1.get 1 rfl) 5 _ rfl
     have c6 : w.cell? ⟨B2, 6, none⟩ = some (.slice i.pNR x.no.regs.length i.cNR) := cellOf (hW.1.get 1 rfl) 6 _ rfl
     have c7 : w.cell? ⟨B2, 7, none⟩ = some (.slice i.pNA x.no.args.length i.cNA) := cellOf (hW.1.get 1 rfl) 7 _ rfl
     go_simp
     exact hK _ _ (Below.refl _ _) hW rfl
   refine ⟨fun a w hW hk K hK => ?_, ?_⟩
   · obtain ⟨k0, -⟩ := hk
     have k0 : a.tmps.getD 7 undef = .agg #[.int .i64 x.no.block, .slice i.pNR x.no.regs.length i.cNR, .slice i.pNA x.no.args.length i.cNA] := k0
     go_simp
     refine (cOwnTo_any _ _ _ _ _ w ⟨Lay.below hn.out.regs hW.1.bel, Lay.below hn.out.args hW.1.bel, hn.out.bnd⟩ b3 b4).mono ?_
     rintro e w9 ⟨p9, c9, p8, c8, rfl, h9, hb⟩
     exact hK _ _ hb ⟨hW.1.below hb, Below.andThen hW.2 hb⟩ ⟨p9, c9, p8, c8, rfl, ⟨Lay.mono h9.regs (fun k hk _ => Nat.le_trans hW.2.size hk), Lay.mono h9.args (fun k hk _ => Nat.le_trans hW.2.size hk), h9.bnd⟩⟩
   refine ⟨fun a w hW hk K hK => ?_, ?_⟩
   · obtain ⟨k0, -⟩ := hk
     have k0 : a.tmps.getD 1 undef = .pointer (some ⟨B2, 0, none⟩) := k0
     go_simp
     exact hK _ _ (Below.refl _ _) hW rfl
   refine ⟨fun a w hW hk K hK => ?_, ?_⟩
   · obtain ⟨k0, -⟩ := hk
     have k0 : a.tmps.getD 9 undef = .pointer (some ⟨B2, 8, none⟩) := k0
     have c8 : w.cell? ⟨B2, 8, none⟩ = some (.slice i.pA x.args.length i.cA) := cellOf (hW.1.get 1 rfl) 8 _ rfl
     go_simp
     exact hK _ _ (Below.refl _ _) hW rfl
   refine ⟨fun a w hW hk K hK => ?_, ?_⟩
   · obtain ⟨k0, -⟩ := hk
     have k0 : a.tmps.getD 10 undef = .slice i.pA x.args.length i.cA := k0
     go_simp
     refine (cOwnInts_any _ _ _ w (Lay.below hg.out hW.1.bel) b5).mono ?_
     rintro e w9 ⟨p9, c9, rfl, h9, hb⟩
     exact hK _ _ hb ⟨hW.1.below hb, Below.andThen hW.2 hb⟩ ⟨p9, c9, rfl, Lay.mono h9 (fun k hk _ => Nat.le_trans hW.2.size hk)⟩
   refine ⟨fun a w hW hk K hK => ?_, ?_⟩
   · obtain ⟨k0, -⟩ := hk
     have k0 : a.tmps.getD 1 undef = .pointer (some ⟨B2, 0, none⟩) := k0
     go_simp
     exact hK _ _ (Below.refl _ _) hW rfl
   trivial
  case hend =>
   intro ops a7 w7 hWD hE hFD
   obtain ⟨pN5r, cN5r, pN5a, cN5a, hd5, ⟨hN5r, hN5a, hbdN5⟩⟩ := hE 5 rfl
   replace hd5 : a7.tmps.getD 5 undef = .agg #[.int .i64 x.yes.block, .slice pN5r x.yes.regs.length cN5r, .slice pN5a x.yes.args.length cN5a] := hd5
   obtain ⟨pN8r, cN8r, pN8a, cN8a, hd8, ⟨hN8r, hN8a, hbdN8⟩⟩ := hE 8 rfl
   replace hd8 : a7.tmps.getD 8 undef = .agg #[.int .i64 x.no.block, .slice pN8r x.no.regs.length cN8r, .slice pN8a x.no.args.length cN8a] := hd8
   obtain ⟨pN11, cN11, hd11, hNN11⟩ := hE 11 rfl
   replace hd11 : a7.tmps.getD 11 undef = .slice pN11 x.args.length cN11 := hd11
   have hd12 : a7.tmps.getD 12 undef = .pointer (some ⟨B2, 2, none⟩) := hE 12 rfl
   have hF7 : Fr 16 a7 [(12, .pointer (some ⟨B2, 2, none⟩)), (11, .slice pN11 x.args.length cN11), (8, .agg #[.int .i64 x.no.block, .slice pN8r x.no.regs.length cN8r, .slice pN8a x.no.args.length cN8a]), (5, .agg #[.int .i64 x.yes.block, .slice pN5r x.yes.regs.length cN5r, .slice pN5a x.yes.args.length cN5a]), (0, .agg #[.int .i64 x.op, .int .i64 x.a, .int .i64 x.yes.block, .slice i.pYR x.yes.regs.length i.cYR, .slice i.pYA x.yes.args.length i.cYA, .int .i64 x.no.block, .slice i.pNR x.no.regs.length i.cNR, .slice i.pNA x.no.args.length i.cNA, .slice i.pA x.args.length i.cA]), (1, .pointer (some ⟨B2, 0, none⟩)), (2, .pointer (some ⟨B3, 0, none⟩))] := ((((hFD.cons hd5).cons hd8).cons hd11).cons hd12)
   clear hd5 hd8 hd11 hd12
   have hW7 : Wd w w7 [(B3, #[.int .i64 0, .int .i64 0, .int .i64 0, .slice none 0 0, .slice none 0 0, .int .i64 0, .slice none 0 0, .slice none 0 0, .slice none 0 0], 54), (B2, #[.int .i64 x.op, .int .i64 x.a, .int .i64 x.yes.block, .slice i.pYR x.yes.regs.length i.cYR, .slice i.pYA x.yes.args.length i.cYA, .int .i64 x.no.block, .slice i.pNR x.no.regs.length i.cNR, .slice i.pNA x.no.args.length i.cNA, .slice i.pA x.args.length i.cA], 54)] := hWD.1
   have hlt0 : B3 < w3.heap.size := (hW3.get 0 rfl).lt
   have hlt1 : B2 < w3.heap.size := (hW3.get 1 rfl).lt
   have hsz : w.heap.size ≤ w3.heap.size := hW3.bel.size
   clear hFD hWD hE hF6 h4
   clear hW3
   refine St.go hF7 ?_; clear hF7 a7
   refine sTk 1 hW7 rfl rfl infTo rfl rfl rfl ?_
   intro w8 hKp hW8
   replace hNN11 := Lay.keep1 hNN11 hKp hlt1
   replace hN5r := Lay.keep1 hN5r hKp hlt1
   replace hN5a := Lay.keep1 hN5a hKp hlt1
   replace hN8r := Lay.keep1 hN8r hKp hlt1
   replace hN8a := Lay.keep1 hN8a hKp hlt1
   clear hKp hW7
   refine sfEnd3 trivial rfl rfl ?_
   refine sTk 1 hW8 rfl rfl infTo rfl rfl rfl ?_
   intro w9 hKp hW9
   replace hNN11 := Lay.keep1 hNN11 hKp hlt1
   replace hN5r := Lay.keep1 hN5r hKp hlt1
   replace hN5a := Lay.keep1 hN5a hKp hlt1
   replace hN8r := Lay.keep1 hN8r hKp hlt1
   replace hN8a := Lay.keep1 hN8a hKp hlt1
   clear hKp hW8
   refine sfEnd4 trivial rfl rfl ?_
   refine s1k 1 inf1Ints hW9 rfl rfl rfl rfl rfl rfl ?_
   intro w10 hKp hW10
   replace hNN11 := Lay.keep1 hNN11 hKp hlt1
   replace hN5r := Lay.keep1 hN5r hKp hlt1
   replace hN5a := Lay.keep1 hN5a hKp hlt1
   replace hN8r := Lay.keep1 hN8r hKp hlt1
   replace hN8a := Lay.keep1 hN8a hKp hlt1
   clear hKp hW9
   refine St.nil fun a11 h11 => ?_
   refine hK5 _ _ ?_
   refine wp_seq_k ?_
   intro K12 hK12
   refine fr_region ?_
   intro ops hops
   clear hops
   refine St.go h11 ?_; clear h11 a11
   refine sS 1 9 Try.underlying54 rfl infEnd hW10 trivial rfl rfl rfl rfl ?_
   refine sTk 0 hW10 rfl rfl infEnd rfl rfl rfl ?_
   intro w13 hKp hW13
   replace hNN11 := Lay.keep1 hNN11 hKp hlt0
   replace hN5r := Lay.keep1 hN5r hKp hlt0
   replace hN5a := Lay.keep1 hN5a hKp hlt0
   replace hN8r := Lay.keep1 hN8r hKp hlt0
   replace hN8a := Lay.keep1 hN8a hKp hlt0
   clear hKp hW10
   refine St.nil fun a14 h14 => ?_
   refine hK12 _ _ ?_
   refine wp_ret ?_
   repeat (first | with_reducible refine of_then_ret ?_ | with_reducible refine of_block_ret ?_)
   exact ret_box 0 h14 hW13 rfl rfl rfl Try.underlying54 rfl infEnd ⟨⟨pN5r, cN5r, pN5a, cN5a, pN8r, cN8r, pN8a, cN8a, pN11, cN11⟩, rfl, ⟨⟨Lay.mono hN5r (fun k hk _ => Nat.le_trans hsz hk), Lay.mono hN5a (fun k hk _ => Nat.le_trans hsz hk), hy.out.bnd⟩, ⟨Lay.mono hN8r (fun k hk _ => Nat.le_trans hsz hk), Lay.mono hN8a (fun k hk _ => Nat.le_trans hsz hk), hn.out.bnd⟩, Lay.mono hNN11 (fun k hk _ => Nat.le_trans hsz hk), hbd⟩, hW13.bel⟩

set_option maxHeartbeats 4000000 in
set_option maxRecDepth 100000 in
theorem rOwnTo_any (x : MTo) (pR pA : Option Addr) (cR cA : Nat) (w : World) (h : TIn2 w All x pR cR pA cA) (b1 : x.regs.length ≤ 4294967296) (b2 : x.args.length ≤ 4294967296) :
    Calls Try.prog 44 #[.agg #[.int .i64 x.block, .slice pR x.regs.length cR, .slice pA x.args.length cA]] w fun e w' => ∃ p c p2 c2, e = .returned (.agg #[.int .i64 x.block, .slice p x.regs.length c, .slice p2 x.args.length c2]) ∧ TIn2 w' (From w.heap.size) x p c p2 c2 ∧ Below w.heap.size w w' := by
  have hr : Hid _ := h.regs
  have hg : Hid _ := h.args
  have hbd := h.bnd
  clear h
  refine fr_enter (n := 12) Try.func44 rfl rfl rfl ?_
  intro a hF
  have hW := Wd.start w
  replace hF : Fr 12 a [(0, .agg #[.int .i64 x.block, .slice pR x.regs.length cR, .slice pA x.args.length cA])] := hF
  refine wp_seq_k ?_
  intro K1 hK1
  refine fr_region ?_
  intro ops hops
  clear hops
  refine St.go hF ?_; clear hF a
  refine sB hW trivial rfl rfl ?_
  clear hW; intro w2 B2 hW2 hN; clear hN
  refine sATo hW2 trivial rfl ?_
  clear hW2; intro w3 B3 hW3 hN; clear hN
  refine St.nil fun a4 h4 => ?_
  refine hK1 _ _ ?_
  refine wp_seq_k ?_
  intro K5 hK5
  have hF6 : Fr 12 a4 [(0, .agg #[.int .i64 x.block, .slice pR x.regs.length cR, .slice pA x.args.length cA]), (1, .pointer (some ⟨B2, 0, none⟩)), (2, .pointer (some ⟨B3, 0, none⟩))] := (h4.keep (h4.keep (h4.keep h4.nil (t := 2) rfl) (t := 1) rfl) (t := 0) rfl)
  have ho1 : a4.tmps.getD 1 undef = .pointer (some ⟨B2, 0, none⟩) := h4.sl 1 _ rfl
  refine fr_draw_k 9 ([(1, fun v _ => v = .pointer (some ⟨B2, 0, none⟩)), (3, fun v _ => v = .pointer (some ⟨B2, 0, none⟩)), (4, fun v _ => v = .int .i64 x.block), (5, fun v _ => v = .pointer (some ⟨B2, 1, none⟩)), (6, fun v _ => v = .slice pR x.regs.length cR), (7, fun v w' => ∃ p c, v = .slice p x.regs.length c ∧ intsL.In w' (From w3.heap.size) x.regs [.slice p x.regs.length c]), (8, fun v _ => v = .pointer (some ⟨B2, 2, none⟩)), (9, fun v _ => v = .slice pA x.args.length cA), (10, fun v w' => ∃ p c, v = .slice p x.args.length c ∧ intsL.In w' (From w3.heap.size) x.args [.slice p x.args.length c]), (11, fun v w' => ∃ p c p2 c2, v = .agg #[.int .i64 x.block, .slice p x.regs.length c, .slice p2 x.args.length c2] ∧ TIn2 w' (From w3.heap.size) x p c p2 c2)] : PTab) (fun w' => Wd w w' [(B3, #[.int .i64 0, .slice none 0 0, .slice none 0 0], 52), (B2, #[.int .i64 x.block, .slice pR x.regs.length cR, .slice pA x.args.length cA], 52)] ∧ Below w3.heap.size w3 w') (fun w w' => Below w.heap.size w w') (outs := [1]) (gs := []) (bs := [true, true, true, true, true, true, true, true, true]) (by kernel_rfl) hF6 rfl (by kernel_rfl) (by kernel_rfl) ?hR ?hG ⟨hW3.drewN 1, drewN_below (m := 1) (Below.refl _ _)⟩ ⟨ho1, trivial⟩ ?hA ?hend
  case hR => exact ⟨fun _ _ _ _ h => h, fun _ _ _ _ h => h, fun _ _ _ _ h => h, fun _ _ _ _ h => h, fun _ _ _ _ h => h, fun v w w' hr h => by obtain ⟨p, c, h1, h2⟩ := h; exact ⟨p, c, h1, Lay.below h2 hr⟩, fun _ _ _ _ h => h, fun _ _ _ _ h => h, fun v w w' hr h => by obtain ⟨p, c, h1, h2⟩ := h; exact ⟨p, c, h1, Lay.below h2 hr⟩, fun v w w' hr h => by obtain ⟨p, c, p2, c2, h1, h2⟩ := h; exact ⟨p, c, p2, c2, h1, ⟨Lay.below h2.regs hr, Lay.below h2.args hr, h2.bnd⟩⟩, trivial⟩
  case hG => exact trivial
  case hA =>
   refine ⟨fun a w hW hk K hK => ?_, ?_⟩
   · obtain ⟨k0, -⟩ := hk
     have k0 : a.tmps.getD 1 undef = .pointer (some ⟨B2, 0, none⟩) := k0
     go_simp
     exact hK _ _ (Below.refl _ _) hW rfl
   refine ⟨fun a w hW hk K hK => ?_, ?_⟩
   · obtain ⟨k0, -⟩ := hk
     have k0 : a.tmps.getD 3 undef = .pointer (some ⟨B2, 0, none⟩) := k0
     have c0 : w.cell? ⟨B2, 0, none⟩ = some (.int .i64 x.block) := cellOf (hW.1.get 1 rfl) 0 _ rfl
     go_simp
     exact hK _ _ (Below.refl _ _) hW rfl
   refine ⟨fun a w hW hk K hK => ?_, ?_⟩
   · obtain ⟨k0, -⟩ := hk
     have k0 : a.tmps.getD 1 undef = .pointer (some ⟨B2, 0, none⟩) := k0
     go_simp
     exact hK _ _ (Below.refl _ _) hW rfl
   refine ⟨fun a w hW hk K hK => ?_, ?_⟩
   · obtain ⟨k0, -⟩ := hk
     have k0 : a.tmps.getD 5 undef = .pointer (some ⟨B2, 1, none⟩) := k0
     have c1 : w.cell? ⟨B2, 1, none⟩ = some (.slice pR x.regs.length cR) := cellOf (hW.1.get 1 rfl) 1 _ rfl
     go_simp
     exact hK _ _ (Below.refl _ _) hW rfl
   refine ⟨fun a w hW hk K hK => ?_, ?_⟩
   · obtain ⟨k0, -⟩ := hk
     have k0 : a.tmps.getD 6 undef = .slice pR x.regs.length cR := k0
     go_simp
     refine (rOwnInts_any _ _ _ w (Lay.below hr.out hW.1.bel) b1).mono ?_
     rintro e w9 ⟨p9, c9, rfl, h9, hb⟩
     exact hK _ _ hb ⟨hW.1.below hb, Below.andThen hW.2 hb⟩ ⟨p9, c9, rfl, Lay.mono h9 (fun k hk _ => Nat.le_trans hW.2.size hk)⟩
   refine ⟨fun a w hW hk K hK => ?_, ?_⟩
   · obtain ⟨k0, -⟩ := hk
     have k0 : a.tmps.getD 1 undef = .pointer (some ⟨B2, 0, none⟩) := k0
     go_simp
     exact hK _ _ (Below.refl _ _) hW rfl
   refine ⟨fun a w hW hk K hK => ?_, ?_⟩
   · obtain ⟨k0, -⟩ := hk
     have k0 : a.tmps.getD 8 undef = .pointer (some ⟨B2, 2, none⟩) := k0
     have c2 : w.cell? ⟨B2, 2, none⟩ = some (.slice pA x.args.length cA) := cellOf (hW.1.get 1 rfl) 2 _ rfl
     go_simp
     exact hK _ _ (Below.refl _ _) hW rfl
   refine ⟨fun a w hW hk K hK => ?_, ?_⟩
   · obtain ⟨k0, -⟩ := hk
     have k0 : a.tmps.getD 9 undef = .slice pA x.args.length cA := k0
     go_simp
     refine (rOwnInts_any _ _ _ w (Lay.below hg.out hW.1.bel) b2).mono ?_
     rintro e w9 ⟨p9, c9, rfl, h9, hb⟩
     exact hK _ _ hb ⟨hW.1.below hb, Below.andThen hW.2 hb⟩ ⟨p9, c9, rfl, Lay.mono h9 (fun k hk _ => Nat.le_trans hW.2.size hk)⟩
   refine ⟨fun a w hW hk K hK => ?_, ?_⟩
   · obtain ⟨k0, k1, k2, -⟩ := hk
     have k0 : a.tmps[4]?.getD undef = .int .i64 x.block := by rw [← Array.getD_eq_getD_getElem?]; exact k0
     obtain ⟨pN7, cN7, k1, hNN7⟩ := k1
     have k1 : a.tmps[7]?.getD undef = .slice pN7 x.regs.length cN7 := by rw [← Array.getD_eq_getD_getElem?]; exact k1
     obtain ⟨pN10, cN10, k2, hNN10⟩ := k2
     have k2 : a.tmps[10]?.getD undef = .slice pN10 x.args.length cN10 := by rw [← Array.getD_eq_getD_getElem?]; exact k2
     go_simp
     exact hK _ _ (Below.refl _ _) hW ⟨_, _, _, _, rfl, ⟨hNN7, hNN10, hbd⟩⟩
   trivial
  case hend =>
   intro ops a7 w7 hWD hE hFD
   obtain ⟨pr, cr, pa, ca, hd11, ⟨hTr, hTa, -⟩⟩ := hE 11 rfl
   replace hd11 : a7.tmps.getD 11 undef = .agg #[.int .i64 x.block, .slice pr x.regs.length cr, .slice pa x.args.length ca] := hd11
   have hF7 : Fr 12 a7 [(11, .agg #[.int .i64 x.block, .slice pr x.regs.length cr, .slice pa x.args.length ca]), (0, .agg #[.int .i64 x.block, .slice pR x.regs.length cR, .slice pA x.args.length cA]), (1, .pointer (some ⟨B2, 0, none⟩)), (2, .pointer (some ⟨B3, 0, none⟩))] := (hFD.cons hd11)
   clear hd11
   have hW7 : Wd w w7 [(B3, #[.int .i64 0, .slice none 0 0, .slice none 0 0], 52), (B2, #[.int .i64 x.block, .slice pR x.regs.length cR, .slice pA x.args.length cA], 52)] := hWD.1
   have hlt0 : B3 < w3.heap.size := (hW3.get 0 rfl).lt
   have hlt1 : B2 < w3.heap.size := (hW3.get 1 rfl).lt
   have hsz : w.heap.size ≤ w3.heap.size := hW3.bel.size
   clear hFD hWD hE hF6 h4
   clear hW3
   refine St.go hF7 ?_; clear hF7 a7
   refine sTk 0 hW7 rfl rfl infTo rfl rfl rfl ?_
   intro w8 hKp hW8
   replace hTr := Lay.keep1 hTr hKp hlt0
   replace hTa := Lay.keep1 hTa hKp hlt0
   clear hKp hW7
   refine St.nil fun a9 h9 => ?_
   refine hK5 _ _ ?_
   refine wp_ret ?_
   repeat (first | with_reducible refine of_then_ret ?_ | with_reducible refine of_block_ret ?_)
   exact ret_box 0 h9 hW8 rfl rfl rfl Try.underlying52 rfl infTo ⟨_, _, _, _, rfl, ⟨Lay.mono hTr (fun k hk _ => Nat.le_trans hsz hk), Lay.mono hTa (fun k hk _ => Nat.le_trans hsz hk), hbd⟩, hW8.bel⟩
end Go.Proofs.Ytmnmnokkojcodab
