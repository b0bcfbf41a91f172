/-
  Check: blocks, functions, modules (package code), at last.
-/
import Derived.Test.YtmnmnokkojcodabCodChk3
namespace Go.Proofs.Ytmnmnokkojcodab
open Go.ChangeShapes Go.WideShapes Go.ChangeAt Go.RowKit
set_option linter.unusedVariables false
set_option linter.unusedSimpArgs false

set_option maxHeartbeats 4000000 in
set_option maxRecDepth 100000 in
theorem clo97_any {n : Nat} {m : List (MFunc n)} {p : Option Addr} {c : Nat} {x : MFunc n} {fp : FP} {fi : Nat} {y : MBlock n} {bp : BP} {bi : Nat} {Bc : Nat} {w : World} {z : MIns} {zi : IP} {q : Nat} (hq : q < 1000) (hm : m.length ≤ 20) (hfi : fi < 1000) (hbi : bi < 1000) (hcap0 : Blk w Bc #[.slice p m.length c, .int .i64 x.regs, .slice fp.pP x.params.length fp.cP, .slice fp.pR x.results.length fp.cR, .slice fp.pB x.blocks.length fp.cB, .int .i64 (fi : Int), .int .i64 y.regs, .slice bp.pP y.params.length bp.cP, .slice bp.pC y.code.length bp.cC, .int .i64 y.fin.op, .int .i64 y.fin.a, .int .i64 y.fin.yes.block, .slice bp.e.pYR y.fin.yes.regs.length bp.e.cYR, .slice bp.e.pYA y.fin.yes.args.length bp.e.cYA, .int .i64 y.fin.no.block, .slice bp.e.pNR y.fin.no.regs.length bp.e.cNR, .slice bp.e.pNA y.fin.no.args.length bp.e.cNA, .slice bp.e.pA y.fin.args.length bp.e.cA, .int .i64 (bi : Int)] 113) :
    Rd Try.prog 97 #[.int .i64 (q : Int), .agg #[.int .i64 z.op, .int .i64 z.a, .int .i64 z.b, .int .i64 z.c, .int .i64 z.k, .int .i64 z.n, .slice zi.pR z.regs.length zi.cR, .slice zi.pA z.args.length zi.cA], .pointer (some ⟨Bc, 0, none⟩)] w (faultV (atF (z.form m.length) (10000 * (fi : Int) + 100 * (bi : Int) + (q : Int)))) := by
  have hcap : Hid _ := hcap0
  clear hcap0
  refine fr_enter (n := 19) Try.func97 rfl rfl rfl ?_
  intro a hF
  have hW := Wd.start w
  replace hF : Fr 19 a [(0, .int .i64 (q : Int)), (1, .agg #[.int .i64 z.op, .int .i64 z.a, .int .i64 z.b, .int .i64 z.c, .int .i64 z.k, .int .i64 z.n, .slice zi.pR z.regs.length zi.cR, .slice zi.pA z.args.length zi.cA]), (2, .pointer (some ⟨Bc, 0, none⟩))] := hF
  refine wp_seq_k ?_
  intro K1 hK1
  refine fr_region ?_
  intro ops hops
  clear hops
  refine St.go hF ?_; clear hF a
  refine sB hW trivial rfl rfl ?_
  clear hW; intro w2 B2 hW2 hN; clear hN
  refine sAFault hW2 trivial rfl ?_
  clear hW2; intro w3 B3 hW3 hN; clear hN
  refine St.nil fun a4 h4 => ?_
  refine hK1 _ _ ?_
  refine wp_seq_k ?_
  intro K5 hK5
  have hF6 : Fr 19 a4 [(2, .pointer (some ⟨Bc, 0, none⟩)), (1, .agg #[.int .i64 z.op, .int .i64 z.a, .int .i64 z.b, .int .i64 z.c, .int .i64 z.k, .int .i64 z.n, .slice zi.pR z.regs.length zi.cR, .slice zi.pA z.args.length zi.cA]), (0, .int .i64 (q : Int)), (4, .pointer (some ⟨B2, 0, none⟩)), (5, .pointer (some ⟨B3, 0, none⟩))] := (h4.keep (h4.keep (h4.keep (h4.keep (h4.keep h4.nil (t := 5) rfl) (t := 4) rfl) (t := 0) rfl) (t := 1) rfl) (t := 2) rfl)
  have ho2 : a4.tmps.getD 2 undef = .pointer (some ⟨Bc, 0, none⟩) := h4.sl 2 _ rfl
  have ho4 : a4.tmps.getD 4 undef = .pointer (some ⟨B2, 0, none⟩) := h4.sl 4 _ rfl
  have ho0 : a4.tmps.getD 0 undef = .int .i64 (q : Int) := h4.sl 0 _ rfl
  refine fr_draw_k 13 ([(2, fun v _ => v = .pointer (some ⟨Bc, 0, none⟩)), (4, fun v _ => v = .pointer (some ⟨B2, 0, none⟩)), (0, fun v _ => v = .int .i64 (q : Int)), (6, fun v _ => v = .pointer (some ⟨Bc, 0, none⟩)), (7, fun v _ => v = .pointer (some ⟨Bc, 0, none⟩)), (8, fun v _ => v = .agg #[.slice p m.length c]), (9, fun v _ => v = .agg #[.int .i64 z.op, .int .i64 z.a, .int .i64 z.b, .int .i64 z.c, .int .i64 z.k, .int .i64 z.n, .slice zi.pR z.regs.length zi.cR, .slice zi.pA z.args.length zi.cA]), (10, fun v _ => v = .int .i64 (z.form m.length)), (11, fun v _ => v = .pointer (some ⟨Bc, 0, none⟩)), (12, fun v _ => v = .pointer (some ⟨Bc, 5, none⟩)), (13, fun v _ => v = .int .i64 (fi : Int)), (14, fun v _ => v = .pointer (some ⟨Bc, 18, none⟩)), (15, fun v _ => v = .int .i64 (bi : Int)), (16, fun v _ => v = .int .i64 (q : Int)), (17, fun v _ => v = .int .i64 (10000 * (fi : Int) + 100 * (bi : Int) + (q : Int))), (18, fun v _ => v = .agg #[.int .i64 ((atF (z.form m.length) (10000 * (fi : Int) + 100 * (bi : Int) + (q : Int))).1), .int .i64 ((atF (z.form m.length) (10000 * (fi : Int) + 100 * (bi : Int) + (q : Int))).2)])] : PTab) (fun w' => Wd w w' [(B3, #[.int .i64 0, .int .i64 0], 26), (B2, #[.int .i64 z.op, .int .i64 z.a, .int .i64 z.b, .int .i64 z.c, .int .i64 z.k, .int .i64 z.n, .slice zi.pR z.regs.length zi.cR, .slice zi.pA z.args.length zi.cA], 46)] ∧ Below w3.heap.size w3 w') (fun w w' => Below w.heap.size w w') (outs := [2, 4, 0]) (gs := []) (bs := [true, true, true, true, true, true, true, true, true, true, true, true, true]) (by kernel_rfl) hF6 rfl (by kernel_rfl) (by kernel_rfl) ?hR ?hG ⟨hW3.drewN 1, drewN_below (m := 1) (Below.refl _ _)⟩ ⟨ho2, ho4, ho0, trivial⟩ ?hA ?hend
  case hR => exact ⟨fun _ _ _ _ h => h, fun _ _ _ _ h => h, fun _ _ _ _ h => h, fun _ _ _ _ h => h, fun _ _ _ _ h => h, fun _ _ _ _ h => h, fun _ _ _ _ h => h, fun _ _ _ _ h => h, fun _ _ _ _ h => h, fun _ _ _ _ h => h, fun _ _ _ _ h => h, fun _ _ _ _ h => h, fun _ _ _ _ h => h, fun _ _ _ _ h => h, fun _ _ _ _ h => h, fun _ _ _ _ h => h, trivial⟩
  case hG => exact trivial
  case hA =>
   refine ⟨fun a w hW hk K hK => ?_, ?_⟩
   · obtain ⟨k0, -⟩ := hk
     have k0 : a.tmps.getD 2 undef = .pointer (some ⟨Bc, 0, none⟩) := k0
     go_simp
     exact hK _ _ (Below.refl _ _) hW rfl
   refine ⟨fun a w hW hk K hK => ?_, ?_⟩
   · obtain ⟨k0, -⟩ := hk
     have k0 : a.tmps.getD 6 undef = .pointer (some ⟨Bc, 0, none⟩) := k0
     go_simp
     exact hK _ _ (Below.refl _ _) hW rfl
   refine ⟨fun a w hW hk K hK => ?_, ?_⟩
   · obtain ⟨k0, -⟩ := hk
     have k0 : a.tmps.getD 7 undef = .pointer (some ⟨Bc, 0, none⟩) := k0
     have d0 : w.cell? ⟨Bc, 0, none⟩ = some (.slice p m.length c) := bel_cell hW.1.bel (cellOf hcap.out 0 _ rfl)
     go_simp
     exact hK _ _ (Below.refl _ _) hW rfl
   refine ⟨fun a w hW hk K hK => ?_, ?_⟩
   · obtain ⟨k0, -⟩ := hk
     have k0 : a.tmps.getD 4 undef = .pointer (some ⟨B2, 0, none⟩) := k0
     have c0 : w.cell? ⟨B2, 0, none⟩ = some (.int .i64 z.op) := cellOf (hW.1.get 1 rfl) 0 _ rfl
     have c1 : w.cell? ⟨B2, 1, none⟩ = some (.int .i64 z.a) := cellOf (hW.1.get 1 rfl) 1 _ rfl
     have c2 : w.cell? ⟨B2, 2, none⟩ = some (.int .i64 z.b) := cellOf (hW.1.get 1 rfl) 2 _ rfl
     have c3 : w.cell? ⟨B2, 3, none⟩ = some (.int .i64 z.c) := cellOf (hW.1.get 1 rfl) 3 _ rfl
     have c4 : w.cell? ⟨B2, 4, none⟩ = some (.int .i64 z.k) := cellOf (hW.1.get 1 rfl) 4 _ rfl
     have c5 : w.cell? ⟨B2, 5, none⟩ = some (.int .i64 z.n) := cellOf (hW.1.get 1 rfl) 5 _ rfl
     have c6 : w.cell? ⟨B2, 6, none⟩ = some (.slice zi.pR z.regs.length zi.cR) := cellOf (hW.1.get 1 rfl) 6 _ rfl
     have c7 : w.cell? ⟨B2, 7, none⟩ = some (.slice zi.pA z.args.length zi.cA) := cellOf (hW.1.get 1 rfl) 7 _ rfl
     go_simp
     exact hK _ _ (Below.refl _ _) hW rfl
   refine ⟨fun a w hW hk K hK => ?_, ?_⟩
   · obtain ⟨k0, k1, -⟩ := hk
     have k0 : a.tmps.getD 8 undef = .agg #[.slice p m.length c] := k0
     have k1 : a.tmps.getD 9 undef = .agg #[.int .i64 z.op, .int .i64 z.a, .int .i64 z.b, .int .i64 z.c, .int .i64 z.k, .int .i64 z.n, .slice zi.pR z.regs.length zi.cR, .slice zi.pA z.args.length zi.cA] := k1
     have hC : Rd Try.prog 20 #[.agg #[.slice p m.length c], .agg #[.int .i64 z.op, .int .i64 z.a, .int .i64 z.b, .int .i64 z.c, .int .i64 z.k, .int .i64 z.n, .slice zi.pR z.regs.length zi.cR, .slice zi.pA z.args.length zi.cA]] w (.int .i64 (z.form m.length)) := cIns_any m.length z zi p c w (by omega)
     go_simp
     refine hC.mono ?_
     rintro e w9 ⟨rfl, hb⟩
     exact hK _ _ hb ⟨hW.1.below hb, Below.andThen hW.2 hb⟩ rfl
   refine ⟨fun a w hW hk K hK => ?_, ?_⟩
   · obtain ⟨k0, -⟩ := hk
     have k0 : a.tmps.getD 2 undef = .pointer (some ⟨Bc, 0, none⟩) := k0
     go_simp
     exact hK _ _ (Below.refl _ _) hW rfl
   refine ⟨fun a w hW hk K hK => ?_, ?_⟩
   · obtain ⟨k0, -⟩ := hk
     have k0 : a.tmps.getD 11 undef = .pointer (some ⟨Bc, 0, none⟩) := k0
     go_simp
     exact hK _ _ (Below.refl _ _) hW rfl
   refine ⟨fun a w hW hk K hK => ?_, ?_⟩
   · obtain ⟨k0, -⟩ := hk
     have k0 : a.tmps.getD 12 undef = .pointer (some ⟨Bc, 5, none⟩) := k0
     have d5 : w.cell? ⟨Bc, 5, none⟩ = some (.int .i64 (fi : Int)) := bel_cell hW.1.bel (cellOf hcap.out 5 _ rfl)
     go_simp
     exact hK _ _ (Below.refl _ _) hW rfl
   refine ⟨fun a w hW hk K hK => ?_, ?_⟩
   · obtain ⟨k0, -⟩ := hk
     have k0 : a.tmps.getD 2 undef = .pointer (some ⟨Bc, 0, none⟩) := k0
     go_simp
     exact hK _ _ (Below.refl _ _) hW rfl
   refine ⟨fun a w hW hk K hK => ?_, ?_⟩
   · obtain ⟨k0, -⟩ := hk
     have k0 : a.tmps.getD 14 undef = .pointer (some ⟨Bc, 18, none⟩) := k0
     have d18 : w.cell? ⟨Bc, 18, none⟩ = some (.int .i64 (bi : Int)) := bel_cell hW.1.bel (cellOf hcap.out 18 _ rfl)
     go_simp
     exact hK _ _ (Below.refl _ _) hW rfl
   refine ⟨fun a w hW hk K hK => ?_, ?_⟩
   · obtain ⟨k0, -⟩ := hk
     have k0 : a.tmps.getD 0 undef = .int .i64 (q : Int) := k0
     go_simp
     exact hK _ _ (Below.refl _ _) hW rfl
   refine ⟨fun a w hW hk K hK => ?_, ?_⟩
   · obtain ⟨k0, k1, k2, -⟩ := hk
     have k0 : a.tmps.getD 13 undef = .int .i64 (fi : Int) := k0
     have k1 : a.tmps.getD 15 undef = .int .i64 (bi : Int) := k1
     have k2 : a.tmps.getD 16 undef = .int .i64 (q : Int) := k2
     have hC : Rd Try.prog 30 #[.int .i64 (fi : Int), .int .i64 (bi : Int), .int .i64 (q : Int)] w (.int .i64 (10000 * (fi : Int) + 100 * (bi : Int) + (q : Int))) := cInsAt_any (f := fi) (b := bi) (i := q) ⟨by omega, by omega, by omega⟩
     go_simp
     refine hC.mono ?_
     rintro e w9 ⟨rfl, hb⟩
     exact hK _ _ hb ⟨hW.1.below hb, Below.andThen hW.2 hb⟩ rfl
   refine ⟨fun a w hW hk K hK => ?_, ?_⟩
   · obtain ⟨k0, k1, -⟩ := hk
     have k0 : a.tmps.getD 10 undef = .int .i64 (z.form m.length) := k0
     have k1 : a.tmps.getD 17 undef = .int .i64 (10000 * (fi : Int) + 100 * (bi : Int) + (q : Int)) := k1
     have hC : Rd Try.prog 70 #[.int .i64 (z.form m.length), .int .i64 (10000 * (fi : Int) + 100 * (bi : Int) + (q : Int))] w (.agg #[.int .i64 ((atF (z.form m.length) (10000 * (fi : Int) + 100 * (bi : Int) + (q : Int))).1), .int .i64 ((atF (z.form m.length) (10000 * (fi : Int) + 100 * (bi : Int) + (q : Int))).2)]) := faultAt_any (xc := z.form m.length) (xp := 10000 * (fi : Int) + 100 * (bi : Int) + (q : Int))
     go_simp
     refine hC.mono ?_
     rintro e w9 ⟨rfl, hb⟩
     exact hK _ _ hb ⟨hW.1.below hb, Below.andThen hW.2 hb⟩ rfl
   trivial
  case hend =>
   intro ops a7 w7 hWD hE hFD
   have hd18 : a7.tmps.getD 18 undef = .agg #[.int .i64 ((atF (z.form m.length) (10000 * (fi : Int) + 100 * (bi : Int) + (q : Int))).1), .int .i64 ((atF (z.form m.length) (10000 * (fi : Int) + 100 * (bi : Int) + (q : Int))).2)] := hE 18 rfl
   have hF7 : Fr 19 a7 [(18, .agg #[.int .i64 ((atF (z.form m.length) (10000 * (fi : Int) + 100 * (bi : Int) + (q : Int))).1), .int .i64 ((atF (z.form m.length) (10000 * (fi : Int) + 100 * (bi : Int) + (q : Int))).2)]), (2, .pointer (some ⟨Bc, 0, none⟩)), (1, .agg #[.int .i64 z.op, .int .i64 z.a, .int .i64 z.b, .int .i64 z.c, .int .i64 z.k, .int .i64 z.n, .slice zi.pR z.regs.length zi.cR, .slice zi.pA z.args.length zi.cA]), (0, .int .i64 (q : Int)), (4, .pointer (some ⟨B2, 0, none⟩)), (5, .pointer (some ⟨B3, 0, none⟩))] := (hFD.cons hd18)
   clear hd18
   have hW7 : Wd w w7 [(B3, #[.int .i64 0, .int .i64 0], 26), (B2, #[.int .i64 z.op, .int .i64 z.a, .int .i64 z.b, .int .i64 z.c, .int .i64 z.k, .int .i64 z.n, .slice zi.pR z.regs.length zi.cR, .slice zi.pA z.args.length zi.cA], 46)] := hWD.1
   clear hFD hWD hE hF6 h4
   clear hW3
   refine St.go hF7 ?_; clear hF7 a7
   refine sT 0 hW7 rfl rfl infFault rfl rfl rfl ?_
   clear hW7; intro w8 hW8
   refine St.nil fun a9 h9 => ?_
   refine hK5 _ _ ?_
   refine wp_ret ?_
   repeat (first | with_reducible refine of_then_ret ?_ | with_reducible refine of_block_ret ?_)
   exact ret_box 0 h9 hW8 rfl rfl rfl Try.underlying26 rfl infFault ⟨rfl, hW8.bel⟩

set_option maxHeartbeats 4000000 in
set_option maxRecDepth 100000 in
theorem cBlockFault_any {n : Nat} {m : List (MFunc n)} {p : Option Addr} {c : Nat} {x : MFunc n} {fp : FP} {fi : Nat} {y : MBlock n} {bp : BP} {bi : Nat} {w : World} (hx0 : FIn w All x fp) (hs0 : x.small) (hy0 : BIn w All y bp) (ht0 : y.small) (hm : m.length ≤ 20) (hfi : fi < 1000) (hbi : bi < 1000) :
    Rd Try.prog 73 #[.agg #[.slice p m.length c, .int .i64 x.regs, .slice fp.pP x.params.length fp.cP, .slice fp.pR x.results.length fp.cR, .slice fp.pB x.blocks.length fp.cB, .int .i64 (fi : Int), .int .i64 y.regs, .slice bp.pP y.params.length bp.cP, .slice bp.pC y.code.length bp.cC, .int .i64 y.fin.op, .int .i64 y.fin.a, .int .i64 y.fin.yes.block, .slice bp.e.pYR y.fin.yes.regs.length bp.e.cYR, .slice bp.e.pYA y.fin.yes.args.length bp.e.cYA, .int .i64 y.fin.no.block, .slice bp.e.pNR y.fin.no.regs.length bp.e.cNR, .slice bp.e.pNA y.fin.no.args.length bp.e.cNA, .slice bp.e.pA y.fin.args.length bp.e.cA, .int .i64 (bi : Int)]] w (faultV (MBlock.fault m.length fi x bi y)) := by
  have hx : Hid _ := hx0
  have hs : Hid _ := hs0
  have hy : Hid _ := hy0
  have ht : Hid _ := ht0
  clear hx0 hs0 hy0 ht0
  refine fr_enter (n := 40) Try.func73 rfl rfl rfl ?_
  intro a hF
  have hW := Wd.start w
  replace hF : Fr 40 a [(0, .agg #[.slice p m.length c, .int .i64 x.regs, .slice fp.pP x.params.length fp.cP, .slice fp.pR x.results.length fp.cR, .slice fp.pB x.blocks.length fp.cB, .int .i64 (fi : Int), .int .i64 y.regs, .slice bp.pP y.params.length bp.cP, .slice bp.pC y.code.length bp.cC, .int .i64 y.fin.op, .int .i64 y.fin.a, .int .i64 y.fin.yes.block, .slice bp.e.pYR y.fin.yes.regs.length bp.e.cYR, .slice bp.e.pYA y.fin.yes.args.length bp.e.cYA, .int .i64 y.fin.no.block, .slice bp.e.pNR y.fin.no.regs.length bp.e.cNR, .slice bp.e.pNA y.fin.no.args.length bp.e.cNA, .slice bp.e.pA y.fin.args.length bp.e.cA, .int .i64 (bi : Int)])] := hF
  refine wp_seq_k ?_
  intro K1 hK1
  refine fr_region ?_
  intro ops hops
  clear hops
  refine St.go hF ?_; clear hF a
  refine sB hW trivial rfl rfl ?_
  clear hW; intro w2 B2 hW2 hN; clear hN
  refine sAFault hW2 trivial rfl ?_
  clear hW2; intro w3 B3 hW3 hN; clear hN
  refine St.nil fun a4 h4 => ?_
  refine hK1 _ _ ?_
  refine wp_seq_k ?_
  intro K5 hK5
  refine wp_seq_k ?_
  intro K6 hK6
  refine fr_region ?_
  intro ops hops
  clear hops
  refine St.go h4 ?_; clear h4 a4
  refine sS 1 19 Try.underlying113 rfl infblockLook hW3 trivial rfl rfl rfl rfl ?_
  refine sc_1 cf95 hW3 (blockCode_any (m := m) (p := p) (c := c) (fi := fi) (bi := bi) (hx.out.below hW3.bel) hs.out (hy.out.below hW3.bel) ht.out) trivial rfl rfl ?_
  clear hW3; intro w7 hW7
  refine sa trivial rfl rfl ?_
  refine St.nil fun a8 h8 => ?_
  refine hK6 _ _ ?_
  refine wp_seq_k ?_
  intro K9 hK9
  refine fr_region ?_
  intro ops hops
  clear hops
  refine St.go h8 ?_; clear h8 a8
  refine sm trivial rfl rfl ?_
  refine sne trivial rfl rfl rfl ?_
  refine St.nil fun a10 h10 => ?_
  refine hK9 _ _ ?_
  refine fr_cond (t := 8) h10 rfl (fun hb => ?_) (fun hb => ?_)
  ·have h9 : ¬ (y.code' x bi) = 0 := bne_iff_ne.1 hb
   have hc11 : ¬ (y.code' x bi) = 0 := h9
   clear h9
   clear hb
   refine wp_seq_k ?_
   intro K12 hK12
   refine fr_region ?_
   intro ops hops
   clear hops
   refine St.go h10 ?_; clear h10 a10
   refine sm trivial rfl rfl ?_
   refine sfblockLook0 trivial rfl rfl ?_
   refine sffuncLook2 trivial rfl rfl ?_
   refine sbInt 1 hW7 trivial rfl rfl rfl rfl ?_
   refine sfblockLook2 trivial rfl rfl ?_
   refine sbInt 1 hW7 trivial rfl rfl rfl rfl ?_
   refine sc_2 cf26 hW7 (cBlockAt_any (f := fi) (b := bi) ⟨by omega, by omega⟩) trivial rfl rfl rfl ?_
   clear hW7; intro w13 hW13
   refine sc_2 cf70 hW13 (faultAt_any (xc := y.code' x bi) (xp := 10000 * (fi : Int) + 100 * (bi : Int) + 90)) trivial rfl rfl rfl ?_
   clear hW13; intro w14 hW14
   refine sT 0 hW14 rfl rfl infFault rfl rfl rfl ?_
   clear hW14; intro w15 hW15
   refine St.nil fun a16 h16 => ?_
   refine hK12 _ _ ?_
   refine wp_ret ?_
   repeat (first | with_reducible refine of_then_ret ?_ | with_reducible refine of_block_ret ?_)
   have e0 := hc11
   have EF := MBlock.fault_eq m.length fi x bi y
   have EI := firstF_at (f := fun i z => (MIns.form m.length z, (10000 * (fi : Int) + 100 * (bi : Int) + (i : Int)))) (l := y.code) (j := 0)
   dsimp only at EI
   rw [if_neg e0] at EF
   exact ret_box 0 h16 hW15 rfl rfl rfl Try.underlying26 rfl infFault ⟨by show Ending.returned (.agg #[.int .i64 ((atF (y.code' x bi) (10000 * (fi : Int) + 100 * (bi : Int) + 90)).1), .int .i64 ((atF (y.code' x bi) (10000 * (fi : Int) + 100 * (bi : Int) + 90)).2)]) = _; rw [EF] ; simp [atF, e0], hW15.bel⟩
  ·have h9 : (y.code' x bi) = 0 := bne_eq_false_iff_eq.1 hb
   have hc17 : Hid ((y.code' x bi) = 0) := h9
   clear h9
   clear hb
   refine wp_skip ?_
   refine hK5 _ _ ?_
   refine wp_seq_k ?_
   intro K18 hK18
   refine fr_region ?_
   intro ops hops
   clear hops
   refine St.go h10 ?_; clear h10 a10
   refine sfblockLook1 trivial rfl rfl ?_
   refine sfBlock2 trivial rfl rfl ?_
   refine sbInss 1 hW7 trivial rfl rfl rfl rfl ?_
   intro a19 h19
   refine fr_pure (t := 20) (v := .func (.func 97) #[] #[.pointer (some ⟨B2, 0, none⟩)]) (w' := w7) h19 rfl rfl rfl (fun K hK => ?_) ?_
   ·have k0 : a19.tmps.getD 1 undef = .pointer (some ⟨B2, 0, none⟩) := h19.sl 1 _ rfl
    go_simp
    exact hK
   clear h19; intro a20 hF20
   refine St.go hF20 ?_; clear hF20 a20
   refine sc_2 cf96 hW7 (ffIns_any (Bc := B2) (fun i z => atF (MIns.form m.length z) (10000 * (fi : Int) + 100 * (bi : Int) + (i : Int))) (Lay.below hy.out.code hW7.bel) ht.out.1 (fun i z zi wx hz hi hb => clo97_any (y := y) (by have h9 := (List.getElem?_eq_some_iff.1 hz).1; have := ht.out.1; omega) hm hfi hbi ((hW7.get 1 rfl).below hb))) trivial rfl rfl rfl ?_
   clear hW7; intro w21 hW21
   refine sAFault hW21 trivial rfl ?_
   clear hW21; intro w22 B22 hW22 hN; clear hN
   refine sT 0 hW22 rfl rfl infFault rfl rfl rfl ?_
   clear hW22; intro w23 hW23
   refine St.nil fun a24 h24 => ?_
   refine hK18 _ _ ?_
   refine wp_seq_k ?_
   intro K25 hK25
   refine wp_seq_k ?_
   intro K26 hK26
   refine fr_region ?_
   intro ops hops
   clear hops
   refine St.go h24 ?_; clear h24 a24
   refine sfFault0 trivial rfl rfl ?_
   refine sbInt 0 hW23 trivial rfl rfl rfl rfl ?_
   refine sne trivial rfl rfl rfl ?_
   refine St.nil fun a27 h27 => ?_
   refine hK26 _ _ ?_
   refine fr_cond (t := 24) h27 rfl (fun hb => ?_) (fun hb => ?_)
   ·have h9 : ¬ ((firstF (fun i z => atF (MIns.form m.length z) (10000 * (fi : Int) + 100 * (bi : Int) + (i : Int))) 0 y.code).1) = 0 := bne_iff_ne.1 hb
    have hc28 : ¬ ((firstF (fun i z => atF (MIns.form m.length z) (10000 * (fi : Int) + 100 * (bi : Int) + (i : Int))) 0 y.code).1) = 0 := h9
    clear h9
    clear hb
    refine wp_seq_k ?_
    intro K29 hK29
    refine fr_region ?_
    intro ops hops
    clear hops
    refine St.go h27 ?_; clear h27 a27
    refine sS 0 2 Try.underlying26 rfl infFault hW23 trivial rfl rfl rfl rfl ?_
    refine sT 1 hW23 rfl rfl infFault rfl rfl rfl ?_
    clear hW23; intro w30 hW30
    refine St.nil fun a31 h31 => ?_
    refine hK29 _ _ ?_
    refine wp_ret ?_
    repeat (first | with_reducible refine of_then_ret ?_ | with_reducible refine of_block_ret ?_)
    have e0 := hc17.out
    have e1 := hc28
    have EF := MBlock.fault_eq m.length fi x bi y
    have EI := firstF_at (f := fun i z => (MIns.form m.length z, (10000 * (fi : Int) + 100 * (bi : Int) + (i : Int)))) (l := y.code) (j := 0)
    dsimp only at EI
    rw [if_pos e0, if_neg (by rw [← EI]; exact e1), ← EI] at EF
    exact ret_box 1 h31 hW30 rfl rfl rfl Try.underlying26 rfl infFault ⟨by show Ending.returned (.agg #[.int .i64 ((firstF (fun i z => atF (MIns.form m.length z) (10000 * (fi : Int) + 100 * (bi : Int) + (i : Int))) 0 y.code).1), .int .i64 ((firstF (fun i z => atF (MIns.form m.length z) (10000 * (fi : Int) + 100 * (bi : Int) + (i : Int))) 0 y.code).2)]) = _; rw [EF], hW30.bel⟩
   ·have h9 : ((firstF (fun i z => atF (MIns.form m.length z) (10000 * (fi : Int) + 100 * (bi : Int) + (i : Int))) 0 y.code).1) = 0 := bne_eq_false_iff_eq.1 hb
    have hc32 : Hid (((firstF (fun i z => atF (MIns.form m.length z) (10000 * (fi : Int) + 100 * (bi : Int) + (i : Int))) 0 y.code).1) = 0) := h9
    clear h9
    clear hb
    refine wp_skip ?_
    refine hK25 _ _ ?_
    refine wp_seq_k ?_
    intro K33 hK33
    have hF34 : Fr 40 a27 [(0, .agg #[.slice p m.length c, .int .i64 x.regs, .slice fp.pP x.params.length fp.cP, .slice fp.pR x.results.length fp.cR, .slice fp.pB x.blocks.length fp.cB, .int .i64 (fi : Int), .int .i64 y.regs, .slice bp.pP y.params.length bp.cP, .slice bp.pC y.code.length bp.cC, .int .i64 y.fin.op, .int .i64 y.fin.a, .int .i64 y.fin.yes.block, .slice bp.e.pYR y.fin.yes.regs.length bp.e.cYR, .slice bp.e.pYA y.fin.yes.args.length bp.e.cYA, .int .i64 y.fin.no.block, .slice bp.e.pNR y.fin.no.regs.length bp.e.cNR, .slice bp.e.pNA y.fin.no.args.length bp.e.cNA, .slice bp.e.pA y.fin.args.length bp.e.cA, .int .i64 (bi : Int)]), (1, .pointer (some ⟨B2, 0, none⟩)), (2, .pointer (some ⟨B3, 0, none⟩)), (3, .int .i64 (y.code' x bi)), (4, .pointer (some ⟨B22, 0, none⟩))] := (h27.keep (h27.keep (h27.keep (h27.keep (h27.keep h27.nil (t := 4) rfl) (t := 3) rfl) (t := 2) rfl) (t := 1) rfl) (t := 0) rfl)
    have ho1 : a27.tmps.getD 1 undef = .pointer (some ⟨B2, 0, none⟩) := h27.sl 1 _ rfl
    refine fr_draw_k 14 ([(1, fun v _ => v = .pointer (some ⟨B2, 0, none⟩)), (26, fun v _ => v = .pointer (some ⟨B2, 0, none⟩)), (27, fun v _ => v = .pointer (some ⟨B2, 1, none⟩)), (28, fun v _ => v = .agg #[.int .i64 x.regs, .slice fp.pP x.params.length fp.cP, .slice fp.pR x.results.length fp.cR, .slice fp.pB x.blocks.length fp.cB]), (29, fun v _ => v = .pointer (some ⟨B2, 6, none⟩)), (30, fun v _ => v = .pointer (some ⟨B2, 9, none⟩)), (31, fun v _ => v = .agg #[.int .i64 y.fin.op, .int .i64 y.fin.a, .int .i64 y.fin.yes.block, .slice bp.e.pYR y.fin.yes.regs.length bp.e.cYR, .slice bp.e.pYA y.fin.yes.args.length bp.e.cYA, .int .i64 y.fin.no.block, .slice bp.e.pNR y.fin.no.regs.length bp.e.cNR, .slice bp.e.pNA y.fin.no.args.length bp.e.cNA, .slice bp.e.pA y.fin.args.length bp.e.cA]), (32, fun v _ => v = .int .i64 (y.fin.form x.blocks.length)), (33, fun v _ => v = .pointer (some ⟨B2, 0, none⟩)), (34, fun v _ => v = .pointer (some ⟨B2, 5, none⟩)), (35, fun v _ => v = .int .i64 (fi : Int)), (36, fun v _ => v = .pointer (some ⟨B2, 18, none⟩)), (37, fun v _ => v = .int .i64 (bi : Int)), (38, fun v _ => v = .int .i64 (10000 * (fi : Int) + 100 * (bi : Int) + 91)), (39, fun v _ => v = .agg #[.int .i64 ((atF (y.fin.form x.blocks.length) (10000 * (fi : Int) + 100 * (bi : Int) + 91)).1), .int .i64 ((atF (y.fin.form x.blocks.length) (10000 * (fi : Int) + 100 * (bi : Int) + 91)).2)])] : PTab) (fun w' => Wd w w' [(B22, #[.int .i64 ((firstF (fun i z => atF (MIns.form m.length z) (10000 * (fi : Int) + 100 * (bi : Int) + (i : Int))) 0 y.code).1), .int .i64 ((firstF (fun i z => atF (MIns.form m.length z) (10000 * (fi : Int) + 100 * (bi : Int) + (i : Int))) 0 y.code).2)], 26), (B3, #[.int .i64 0, .int .i64 0], 26), (B2, #[.slice p m.length c, .int .i64 x.regs, .slice fp.pP x.params.length fp.cP, .slice fp.pR x.results.length fp.cR, .slice fp.pB x.blocks.length fp.cB, .int .i64 (fi : Int), .int .i64 y.regs, .slice bp.pP y.params.length bp.cP, .slice bp.pC y.code.length bp.cC, .int .i64 y.fin.op, .int .i64 y.fin.a, .int .i64 y.fin.yes.block, .slice bp.e.pYR y.fin.yes.regs.length bp.e.cYR, .slice bp.e.pYA y.fin.yes.args.length bp.e.cYA, .int .i64 y.fin.no.block, .slice bp.e.pNR y.fin.no.regs.length bp.e.cNR, .slice bp.e.pNA y.fin.no.args.length bp.e.cNA, .slice bp.e.pA y.fin.args.length bp.e.cA, .int .i64 (bi : Int)], 113)] ∧ Below w23.heap.size w23 w') (fun w w' => Below w.heap.size w w') (outs := [1]) (gs := []) (bs := [true, true, true, true, true, true, true, true, true, true, true, true, true, true]) (by kernel_rfl) hF34 rfl (by kernel_rfl) (by kernel_rfl) ?hR ?hG ⟨hW23.drewN 1, drewN_below (m := 1) (Below.refl _ _)⟩ ⟨ho1, trivial⟩ ?hA ?hend
    case hR => exact ⟨fun _ _ _ _ h => h, fun _ _ _ _ h => h, fun _ _ _ _ h => h, fun _ _ _ _ h => h, fun _ _ _ _ h => h, fun _ _ _ _ h => h, fun _ _ _ _ h => h, fun _ _ _ _ h => h, fun _ _ _ _ h => h, fun _ _ _ _ h => h, fun _ _ _ _ h => h, fun _ _ _ _ h => h, fun _ _ _ _ h => h, fun _ _ _ _ h => h, fun _ _ _ _ h => h, trivial⟩
    case hG => exact trivial
    case hA =>
     refine ⟨fun a w hW hk K hK => ?_, ?_⟩
     · obtain ⟨k0, -⟩ := hk
       have k0 : a.tmps.getD 1 undef = .pointer (some ⟨B2, 0, none⟩) := k0
       go_simp
       exact hK _ _ (Below.refl _ _) hW rfl
     refine ⟨fun a w hW hk K hK => ?_, ?_⟩
     · obtain ⟨k0, -⟩ := hk
       have k0 : a.tmps.getD 26 undef = .pointer (some ⟨B2, 0, none⟩) := k0
       go_simp
       exact hK _ _ (Below.refl _ _) hW rfl
     refine ⟨fun a w hW hk K hK => ?_, ?_⟩
     · obtain ⟨k0, -⟩ := hk
       have k0 : a.tmps.getD 27 undef = .pointer (some ⟨B2, 1, none⟩) := k0
       have c1 : w.cell? ⟨B2, 1, none⟩ = some (.int .i64 x.regs) := cellOf (hW.1.get 2 rfl) 1 _ rfl
       have c2 : w.cell? ⟨B2, 2, none⟩ = some (.slice fp.pP x.params.length fp.cP) := cellOf (hW.1.get 2 rfl) 2 _ rfl
       have c3 : w.cell? ⟨B2, 3, none⟩ = some (.slice fp.pR x.results.length fp.cR) := cellOf (hW.1.get 2 rfl) 3 _ rfl
       have c4 : w.cell? ⟨B2, 4, none⟩ = some (.slice fp.pB x.blocks.length fp.cB) := cellOf (hW.1.get 2 rfl) 4 _ rfl
       go_simp
       exact hK _ _ (Below.refl _ _) hW rfl
     refine ⟨fun a w hW hk K hK => ?_, ?_⟩
     · obtain ⟨k0, -⟩ := hk
       have k0 : a.tmps.getD 1 undef = .pointer (some ⟨B2, 0, none⟩) := k0
       go_simp
       exact hK _ _ (Below.refl _ _) hW rfl
     refine ⟨fun a w hW hk K hK => ?_, ?_⟩
     · obtain ⟨k0, -⟩ := hk
       have k0 : a.tmps.getD 29 undef = .pointer (some ⟨B2, 6, none⟩) := k0
       go_simp
       exact hK _ _ (Below.refl _ _) hW rfl
     refine ⟨fun a w hW hk K hK => ?_, ?_⟩
     · obtain ⟨k0, -⟩ := hk
       have k0 : a.tmps.getD 30 undef = .pointer (some ⟨B2, 9, none⟩) := k0
       have c9 : w.cell? ⟨B2, 9, none⟩ = some (.int .i64 y.fin.op) := cellOf (hW.1.get 2 rfl) 9 _ rfl
       have c10 : w.cell? ⟨B2, 10, none⟩ = some (.int .i64 y.fin.a) := cellOf (hW.1.get 2 rfl) 10 _ rfl
       have c11 : w.cell? ⟨B2, 11, none⟩ = some (.int .i64 y.fin.yes.block) := cellOf (hW.1.get 2 rfl) 11 _ rfl
       have c12 : w.cell? ⟨B2, 12, none⟩ = some (.slice bp.e.pYR y.fin.yes.regs.length bp.e.cYR) := cellOf (hW.1.get 2 rfl) 12 _ rfl
       have c13 : w.cell? ⟨B2, 13, none⟩ = some (.slice bp.e.pYA y.fin.yes.args.length bp.e.cYA) := cellOf (hW.1.get 2 rfl) 13 _ rfl
       have c14 : w.cell? ⟨B2, 14, none⟩ = some (.int .i64 y.fin.no.block) := cellOf (hW.1.get 2 rfl) 14 _ rfl
       have c15 : w.cell? ⟨B2, 15, none⟩ = some (.slice bp.e.pNR y.fin.no.regs.length bp.e.cNR) := cellOf (hW.1.get 2 rfl) 15 _ rfl
       have c16 : w.cell? ⟨B2, 16, none⟩ = some (.slice bp.e.pNA y.fin.no.args.length bp.e.cNA) := cellOf (hW.1.get 2 rfl) 16 _ rfl
       have c17 : w.cell? ⟨B2, 17, none⟩ = some (.slice bp.e.pA y.fin.args.length bp.e.cA) := cellOf (hW.1.get 2 rfl) 17 _ rfl
       go_simp
       exact hK _ _ (Below.refl _ _) hW rfl
     refine ⟨fun a w hW hk K hK => ?_, ?_⟩
     · obtain ⟨k0, k1, -⟩ := hk
       have k0 : a.tmps.getD 28 undef = .agg #[.int .i64 x.regs, .slice fp.pP x.params.length fp.cP, .slice fp.pR x.results.length fp.cR, .slice fp.pB x.blocks.length fp.cB] := k0
       have k1 : a.tmps.getD 31 undef = .agg #[.int .i64 y.fin.op, .int .i64 y.fin.a, .int .i64 y.fin.yes.block, .slice bp.e.pYR y.fin.yes.regs.length bp.e.cYR, .slice bp.e.pYA y.fin.yes.args.length bp.e.cYA, .int .i64 y.fin.no.block, .slice bp.e.pNR y.fin.no.regs.length bp.e.cNR, .slice bp.e.pNA y.fin.no.args.length bp.e.cNA, .slice bp.e.pA y.fin.args.length bp.e.cA] := k1
       have hC : Rd Try.prog 22 #[.agg #[.int .i64 x.regs, .slice fp.pP x.params.length fp.cP, .slice fp.pR x.results.length fp.cR, .slice fp.pB x.blocks.length fp.cB], .agg #[.int .i64 y.fin.op, .int .i64 y.fin.a, .int .i64 y.fin.yes.block, .slice bp.e.pYR y.fin.yes.regs.length bp.e.cYR, .slice bp.e.pYA y.fin.yes.args.length bp.e.cYA, .int .i64 y.fin.no.block, .slice bp.e.pNR y.fin.no.regs.length bp.e.cNR, .slice bp.e.pNA y.fin.no.args.length bp.e.cNA, .slice bp.e.pA y.fin.args.length bp.e.cA]] w (.int .i64 (y.fin.form x.blocks.length)) := cEnd_any (x := y.fin) (e := bp.e) (fr := x.regs) (fp := fp.pP) (fl := x.params.length) (fc := fp.cP) (fq := fp.pR) (fm := x.results.length) (fd := fp.cR) (fb := fp.pB) (bl := x.blocks.length) (fe := fp.cB) (by have := ht.out.2.2.1; exact ⟨by have := this.1.1; omega, by have := this.1.2; omega, by have := this.2.1.1; omega, by have := this.2.1.2; omega⟩) (by have := hs.out.1; omega)
       go_simp
       refine hC.mono ?_
       rintro e w9 ⟨rfl, hb⟩
       exact hK _ _ hb ⟨hW.1.below hb, Below.andThen hW.2 hb⟩ rfl
     refine ⟨fun a w hW hk K hK => ?_, ?_⟩
     · obtain ⟨k0, -⟩ := hk
       have k0 : a.tmps.getD 1 undef = .pointer (some ⟨B2, 0, none⟩) := k0
       go_simp
       exact hK _ _ (Below.refl _ _) hW rfl
     refine ⟨fun a w hW hk K hK => ?_, ?_⟩
     · obtain ⟨k0, -⟩ := hk
       have k0 : a.tmps.getD 33 undef = .pointer (some ⟨B2, 0, none⟩) := k0
       go_simp
       exact hK _ _ (Below.refl _ _) hW rfl
     refine ⟨fun a w hW hk K hK => ?_, ?_⟩
     · obtain ⟨k0, -⟩ := hk
       have k0 : a.tmps.getD 34 undef = .pointer (some ⟨B2, 5, none⟩) := k0
       have c5 : w.cell? ⟨B2, 5, none⟩ = some (.int .i64 (fi : Int)) := cellOf (hW.1.get 2 rfl) 5 _ rfl
       go_simp
       exact hK _ _ (Below.refl _ _) hW rfl
     refine ⟨fun a w hW hk K hK => ?_, ?_⟩
     · obtain ⟨k0, -⟩ := hk
       have k0 : a.tmps.getD 1 undef = .pointer (some ⟨B2, 0, none⟩) := k0
       go_simp
       exact hK _ _ (Below.refl _ _) hW rfl
     refine ⟨fun a w hW hk K hK => ?_, ?_⟩
     · obtain ⟨k0, -⟩ := hk
       have k0 : a.tmps.getD 36 undef = .pointer (some ⟨B2, 18, none⟩) := k0
       have c18 : w.cell? ⟨B2, 18, none⟩ = some (.int .i64 (bi : Int)) := cellOf (hW.1.get 2 rfl) 18 _ rfl
       go_simp
       exact hK _ _ (Below.refl _ _) hW rfl
     refine ⟨fun a w hW hk K hK => ?_, ?_⟩
     · obtain ⟨k0, k1, -⟩ := hk
       have k0 : a.tmps.getD 35 undef = .int .i64 (fi : Int) := k0
       have k1 : a.tmps.getD 37 undef = .int .i64 (bi : Int) := k1
       have hC : Rd Try.prog 28 #[.int .i64 (fi : Int), .int .i64 (bi : Int)] w (.int .i64 (10000 * (fi : Int) + 100 * (bi : Int) + 91)) := cEndAt_any (f := fi) (b := bi) ⟨by omega, by omega⟩
       go_simp
       refine hC.mono ?_
       rintro e w9 ⟨rfl, hb⟩
       exact hK _ _ hb ⟨hW.1.below hb, Below.andThen hW.2 hb⟩ rfl
     refine ⟨fun a w hW hk K hK => ?_, ?_⟩
     · obtain ⟨k0, k1, -⟩ := hk
       have k0 : a.tmps.getD 32 undef = .int .i64 (y.fin.form x.blocks.length) := k0
       have k1 : a.tmps.getD 38 undef = .int .i64 (10000 * (fi : Int) + 100 * (bi : Int) + 91) := k1
       have hC : Rd Try.prog 70 #[.int .i64 (y.fin.form x.blocks.length), .int .i64 (10000 * (fi : Int) + 100 * (bi : Int) + 91)] w (.agg #[.int .i64 ((atF (y.fin.form x.blocks.length) (10000 * (fi : Int) + 100 * (bi : Int) + 91)).1), .int .i64 ((atF (y.fin.form x.blocks.length) (10000 * (fi : Int) + 100 * (bi : Int) + 91)).2)]) := faultAt_any (xc := y.fin.form x.blocks.length) (xp := 10000 * (fi : Int) + 100 * (bi : Int) + 91)
       go_simp
       refine hC.mono ?_
       rintro e w9 ⟨rfl, hb⟩
       exact hK _ _ hb ⟨hW.1.below hb, Below.andThen hW.2 hb⟩ rfl
     trivial
    case hend =>
     intro ops a35 w35 hWD hE hFD
     have hd39 : a35.tmps.getD 39 undef = .agg #[.int .i64 ((atF (y.fin.form x.blocks.length) (10000 * (fi : Int) + 100 * (bi : Int) + 91)).1), .int .i64 ((atF (y.fin.form x.blocks.length) (10000 * (fi : Int) + 100 * (bi : Int) + 91)).2)] := hE 39 rfl
     have hF35 : Fr 40 a35 [(39, .agg #[.int .i64 ((atF (y.fin.form x.blocks.length) (10000 * (fi : Int) + 100 * (bi : Int) + 91)).1), .int .i64 ((atF (y.fin.form x.blocks.length) (10000 * (fi : Int) + 100 * (bi : Int) + 91)).2)]), (0, .agg #[.slice p m.length c, .int .i64 x.regs, .slice fp.pP x.params.length fp.cP, .slice fp.pR x.results.length fp.cR, .slice fp.pB x.blocks.length fp.cB, .int .i64 (fi : Int), .int .i64 y.regs, .slice bp.pP y.params.length bp.cP, .slice bp.pC y.code.length bp.cC, .int .i64 y.fin.op, .int .i64 y.fin.a, .int .i64 y.fin.yes.block, .slice bp.e.pYR y.fin.yes.regs.length bp.e.cYR, .slice bp.e.pYA y.fin.yes.args.length bp.e.cYA, .int .i64 y.fin.no.block, .slice bp.e.pNR y.fin.no.regs.length bp.e.cNR, .slice bp.e.pNA y.fin.no.args.length bp.e.cNA, .slice bp.e.pA y.fin.args.length bp.e.cA, .int .i64 (bi : Int)]), (1, .pointer (some ⟨B2, 0, none⟩)), (2, .pointer (some ⟨B3, 0, none⟩)), (3, .int .i64 (y.code' x bi)), (4, .pointer (some ⟨B22, 0, none⟩))] := (hFD.cons hd39)
     clear hd39
     have hW35 : Wd w w35 [(B22, #[.int .i64 ((firstF (fun i z => atF (MIns.form m.length z) (10000 * (fi : Int) + 100 * (bi : Int) + (i : Int))) 0 y.code).1), .int .i64 ((firstF (fun i z => atF (MIns.form m.length z) (10000 * (fi : Int) + 100 * (bi : Int) + (i : Int))) 0 y.code).2)], 26), (B3, #[.int .i64 0, .int .i64 0], 26), (B2, #[.slice p m.length c, .int .i64 x.regs, .slice fp.pP x.params.length fp.cP, .slice fp.pR x.results.length fp.cR, .slice fp.pB x.blocks.length fp.cB, .int .i64 (fi : Int), .int .i64 y.regs, .slice bp.pP y.params.length bp.cP, .slice bp.pC y.code.length bp.cC, .int .i64 y.fin.op, .int .i64 y.fin.a, .int .i64 y.fin.yes.block, .slice bp.e.pYR y.fin.yes.regs.length bp.e.cYR, .slice bp.e.pYA y.fin.yes.args.length bp.e.cYA, .int .i64 y.fin.no.block, .slice bp.e.pNR y.fin.no.regs.length bp.e.cNR, .slice bp.e.pNA y.fin.no.args.length bp.e.cNA, .slice bp.e.pA y.fin.args.length bp.e.cA, .int .i64 (bi : Int)], 113)] := hWD.1
     clear hFD hWD hE hF34 h27
     clear hW23
     refine St.go hF35 ?_; clear hF35 a35
     refine sT 1 hW35 rfl rfl infFault rfl rfl rfl ?_
     clear hW35; intro w36 hW36
     refine St.nil fun a37 h37 => ?_
     refine hK33 _ _ ?_
     refine wp_ret ?_
     repeat (first | with_reducible refine of_then_ret ?_ | with_reducible refine of_block_ret ?_)
     have e0 := hc17.out
     have e1 := hc32.out
     have EF := MBlock.fault_eq m.length fi x bi y
     have EI := firstF_at (f := fun i z => (MIns.form m.length z, (10000 * (fi : Int) + 100 * (bi : Int) + (i : Int)))) (l := y.code) (j := 0)
     dsimp only at EI
     rw [if_pos e0, if_pos (by rw [← EI]; exact e1)] at EF
     exact ret_box 1 h37 hW36 rfl rfl rfl Try.underlying26 rfl infFault ⟨by show Ending.returned (.agg #[.int .i64 ((atF (y.fin.form x.blocks.length) (10000 * (fi : Int) + 100 * (bi : Int) + 91)).1), .int .i64 ((atF (y.fin.form x.blocks.length) (10000 * (fi : Int) + 100 * (bi : Int) + 91)).2)]) = _; rw [EF], hW36.bel⟩

set_option maxHeartbeats 4000000 in
set_option maxRecDepth 100000 in
theorem clo72_any {n : Nat} {m : List (MFunc n)} {p : Option Addr} {c : Nat} {x : MFunc n} {fp : FP} {fi : Nat} {y : MBlock n} {bp : BP} {bi : Nat} {w : World} (hx0 : FIn w All x fp) (hs0 : x.small) (hy0 : BIn w All y bp) (ht0 : y.small) {Bc : Nat} (hm : m.length ≤ 20) (hfi : fi < 1000) (hbi : bi < 1000) (hcap0 : Blk w Bc #[.slice p m.length c, .int .i64 x.regs, .slice fp.pP x.params.length fp.cP, .slice fp.pR x.results.length fp.cR, .slice fp.pB x.blocks.length fp.cB, .int .i64 (fi : Int)] 84) :
    Rd Try.prog 72 #[.int .i64 (bi : Int), .agg #[.int .i64 y.regs, .slice bp.pP y.params.length bp.cP, .slice bp.pC y.code.length bp.cC, .int .i64 y.fin.op, .int .i64 y.fin.a, .int .i64 y.fin.yes.block, .slice bp.e.pYR y.fin.yes.regs.length bp.e.cYR, .slice bp.e.pYA y.fin.yes.args.length bp.e.cYA, .int .i64 y.fin.no.block, .slice bp.e.pNR y.fin.no.regs.length bp.e.cNR, .slice bp.e.pNA y.fin.no.args.length bp.e.cNA, .slice bp.e.pA y.fin.args.length bp.e.cA], .pointer (some ⟨Bc, 0, none⟩)] w (faultV (MBlock.fault m.length fi x bi y)) := by
  have hx : Hid _ := hx0
  have hs : Hid _ := hs0
  have hy : Hid _ := hy0
  have ht : Hid _ := ht0
  clear hx0 hs0 hy0 ht0
  have hcap : Hid _ := hcap0
  clear hcap0
  refine fr_enter (n := 11) Try.func72 rfl rfl rfl ?_
  intro a hF
  have hW := Wd.start w
  replace hF : Fr 11 a [(0, .int .i64 (bi : Int)), (1, .agg #[.int .i64 y.regs, .slice bp.pP y.params.length bp.cP, .slice bp.pC y.code.length bp.cC, .int .i64 y.fin.op, .int .i64 y.fin.a, .int .i64 y.fin.yes.block, .slice bp.e.pYR y.fin.yes.regs.length bp.e.cYR, .slice bp.e.pYA y.fin.yes.args.length bp.e.cYA, .int .i64 y.fin.no.block, .slice bp.e.pNR y.fin.no.regs.length bp.e.cNR, .slice bp.e.pNA y.fin.no.args.length bp.e.cNA, .slice bp.e.pA y.fin.args.length bp.e.cA]), (2, .pointer (some ⟨Bc, 0, none⟩))] := hF
  refine wp_seq_k ?_
  intro K1 hK1
  refine fr_region ?_
  intro ops hops
  clear hops
  refine St.go hF ?_; clear hF a
  refine sB hW trivial rfl rfl ?_
  clear hW; intro w2 B2 hW2 hN; clear hN
  refine sAFault hW2 trivial rfl ?_
  clear hW2; intro w3 B3 hW3 hN; clear hN
  refine St.nil fun a4 h4 => ?_
  refine hK1 _ _ ?_
  refine wp_seq_k ?_
  intro K5 hK5
  refine fr_region ?_
  intro ops hops
  clear hops
  refine St.go h4 ?_; clear h4 a4
  refine sSE Try.underlying84 rfl (rangeAt_bel (rangeOf hcap.out 0 6 rfl) hW3.bel) inffuncLook trivial rfl rfl ?_
  refine sS 1 12 Try.underlying77 rfl infBlock hW3 trivial rfl rfl rfl rfl ?_
  refine sm trivial rfl rfl ?_
  intro a6 h6
  refine fr_pure (t := 9) (v := .agg #[.slice p m.length c, .int .i64 x.regs, .slice fp.pP x.params.length fp.cP, .slice fp.pR x.results.length fp.cR, .slice fp.pB x.blocks.length fp.cB, .int .i64 (fi : Int), .int .i64 y.regs, .slice bp.pP y.params.length bp.cP, .slice bp.pC y.code.length bp.cC, .int .i64 y.fin.op, .int .i64 y.fin.a, .int .i64 y.fin.yes.block, .slice bp.e.pYR y.fin.yes.regs.length bp.e.cYR, .slice bp.e.pYA y.fin.yes.args.length bp.e.cYA, .int .i64 y.fin.no.block, .slice bp.e.pNR y.fin.no.regs.length bp.e.cNR, .slice bp.e.pNA y.fin.no.args.length bp.e.cNA, .slice bp.e.pA y.fin.args.length bp.e.cA, .int .i64 (bi : Int)]) (w' := w3) h6 rfl rfl rfl (fun K hK => ?_) ?_
  ·have k0 : a6.tmps[6]?.getD undef = .agg #[.slice p m.length c, .int .i64 x.regs, .slice fp.pP x.params.length fp.cP, .slice fp.pR x.results.length fp.cR, .slice fp.pB x.blocks.length fp.cB, .int .i64 (fi : Int)] := h6.sl2 6 _ rfl
   have k1 : a6.tmps[7]?.getD undef = .agg #[.int .i64 y.regs, .slice bp.pP y.params.length bp.cP, .slice bp.pC y.code.length bp.cC, .int .i64 y.fin.op, .int .i64 y.fin.a, .int .i64 y.fin.yes.block, .slice bp.e.pYR y.fin.yes.regs.length bp.e.cYR, .slice bp.e.pYA y.fin.yes.args.length bp.e.cYA, .int .i64 y.fin.no.block, .slice bp.e.pNR y.fin.no.regs.length bp.e.cNR, .slice bp.e.pNA y.fin.no.args.length bp.e.cNA, .slice bp.e.pA y.fin.args.length bp.e.cA] := h6.sl2 7 _ rfl
   have k2 : a6.tmps[8]?.getD undef = .int .i64 (bi : Int) := h6.sl2 8 _ rfl
   go_simp
   exact hK
  clear h6; intro a7 hF7
  refine St.go hF7 ?_; clear hF7 a7
  refine sc_1 cf73 hW3 (cBlockFault_any (m := m) (p := p) (c := c) (x := x) (fp := fp) (fi := fi) (y := y) (bp := bp) (bi := bi) (hx.out.below hW3.bel) hs.out (hy.out.below hW3.bel) ht.out hm hfi hbi) trivial rfl rfl ?_
  clear hW3; intro w8 hW8
  refine sT 0 hW8 rfl rfl infFault rfl rfl rfl ?_
  clear hW8; intro w9 hW9
  refine St.nil fun a10 h10 => ?_
  refine hK5 _ _ ?_
  refine wp_ret ?_
  repeat (first | with_reducible refine of_then_ret ?_ | with_reducible refine of_block_ret ?_)
  exact ret_box 0 h10 hW9 rfl rfl rfl Try.underlying26 rfl infFault ⟨rfl, hW9.bel⟩

set_option maxHeartbeats 4000000 in
set_option maxRecDepth 100000 in
theorem cFuncFault_any {n : Nat} {m : List (MFunc n)} {p : Option Addr} {c : Nat} {x : MFunc n} {fp : FP} {fi : Nat} {w : World} (hx0 : FIn w All x fp) (hs0 : x.small) (hm : m.length ≤ 20) (hfi : fi < 1000) :
    Rd Try.prog 47 #[.agg #[.slice p m.length c, .int .i64 x.regs, .slice fp.pP x.params.length fp.cP, .slice fp.pR x.results.length fp.cR, .slice fp.pB x.blocks.length fp.cB, .int .i64 (fi : Int)]] w (faultV (MFunc.fault m.length fi x)) := by
  have hx : Hid _ := hx0
  have hs : Hid _ := hs0
  clear hx0 hs0
  refine fr_enter (n := 18) Try.func47 rfl rfl rfl ?_
  intro a hF
  have hW := Wd.start w
  replace hF : Fr 18 a [(0, .agg #[.slice p m.length c, .int .i64 x.regs, .slice fp.pP x.params.length fp.cP, .slice fp.pR x.results.length fp.cR, .slice fp.pB x.blocks.length fp.cB, .int .i64 (fi : Int)])] := hF
  refine wp_seq_k ?_
  intro K1 hK1
  refine fr_region ?_
  intro ops hops
  clear hops
  refine St.go hF ?_; clear hF a
  refine sB hW trivial rfl rfl ?_
  clear hW; intro w2 B2 hW2 hN; clear hN
  refine sAFault hW2 trivial rfl ?_
  clear hW2; intro w3 B3 hW3 hN; clear hN
  refine St.nil fun a4 h4 => ?_
  refine hK1 _ _ ?_
  refine wp_seq_k ?_
  intro K5 hK5
  refine wp_seq_k ?_
  intro K6 hK6
  refine fr_region ?_
  intro ops hops
  clear hops
  refine St.go h4 ?_; clear h4 a4
  refine sS 1 6 Try.underlying84 rfl inffuncLook hW3 trivial rfl rfl rfl rfl ?_
  refine sc_1 cf69 hW3 (funcCode_any (m := m) (p := p) (c := c) (fi := fi) (hx.out.below hW3.bel) hs.out) trivial rfl rfl ?_
  clear hW3; intro w7 hW7
  refine sa trivial rfl rfl ?_
  refine St.nil fun a8 h8 => ?_
  refine hK6 _ _ ?_
  refine wp_seq_k ?_
  intro K9 hK9
  refine fr_region ?_
  intro ops hops
  clear hops
  refine St.go h8 ?_; clear h8 a8
  refine sm trivial rfl rfl ?_
  refine sne trivial rfl rfl rfl ?_
  refine St.nil fun a10 h10 => ?_
  refine hK9 _ _ ?_
  refine fr_cond (t := 7) h10 rfl (fun hb => ?_) (fun hb => ?_)
  ·have h9 : ¬ (x.code fi) = 0 := bne_iff_ne.1 hb
   have hc11 : ¬ (x.code fi) = 0 := h9
   clear h9
   clear hb
   refine wp_seq_k ?_
   intro K12 hK12
   refine fr_region ?_
   intro ops hops
   clear hops
   refine St.go h10 ?_; clear h10 a10
   refine sm trivial rfl rfl ?_
   refine sffuncLook2 trivial rfl rfl ?_
   refine sbInt 1 hW7 trivial rfl rfl rfl rfl ?_
   refine sc_1 cf24 hW7 (cFuncAt_any (f := fi) (by omega)) trivial rfl rfl ?_
   clear hW7; intro w13 hW13
   refine sc_2 cf70 hW13 (faultAt_any (xc := x.code fi) (xp := 10000 * (fi : Int) + 9999)) trivial rfl rfl rfl ?_
   clear hW13; intro w14 hW14
   refine sT 0 hW14 rfl rfl infFault rfl rfl rfl ?_
   clear hW14; intro w15 hW15
   refine St.nil fun a16 h16 => ?_
   refine hK12 _ _ ?_
   refine wp_ret ?_
   repeat (first | with_reducible refine of_then_ret ?_ | with_reducible refine of_block_ret ?_)
   have e0 := hc11
   have EF := MFunc.fault_eq m.length fi x
   rw [if_neg e0] at EF
   exact ret_box 0 h16 hW15 rfl rfl rfl Try.underlying26 rfl infFault ⟨by show Ending.returned (.agg #[.int .i64 ((atF (x.code fi) (10000 * (fi : Int) + 9999)).1), .int .i64 ((atF (x.code fi) (10000 * (fi : Int) + 9999)).2)]) = _; rw [EF] ; simp [atF, e0], hW15.bel⟩
  ·have h9 : (x.code fi) = 0 := bne_eq_false_iff_eq.1 hb
   have hc17 : Hid ((x.code fi) = 0) := h9
   clear h9
   clear hb
   refine wp_skip ?_
   refine hK5 _ _ ?_
   refine wp_seq_k ?_
   intro K18 hK18
   refine fr_region ?_
   intro ops hops
   clear hops
   refine St.go h10 ?_; clear h10 a10
   refine sffuncLook1 trivial rfl rfl ?_
   refine sfFunc3 trivial rfl rfl ?_
   refine sbBlocks 1 hW7 trivial rfl rfl rfl rfl ?_
   intro a19 h19
   refine fr_pure (t := 16) (v := .func (.func 72) #[] #[.pointer (some ⟨B2, 0, none⟩)]) (w' := w7) h19 rfl rfl rfl (fun K hK => ?_) ?_
   ·have k0 : a19.tmps.getD 1 undef = .pointer (some ⟨B2, 0, none⟩) := h19.sl 1 _ rfl
    go_simp
    exact hK
   clear h19; intro a20 hF20
   refine St.go hF20 ?_; clear hF20 a20
   refine sc_2 cf71 hW7 (ffBlock_any (Bc := B2) (fun b y => MBlock.fault m.length fi x b y) (Lay.below hx.out.blocks hW7.bel) (by have := hs.out.1; omega) (fun b y yi wx hz hi hb => clo72_any ((hx.out.below hW7.bel).below hb) hs.out hi (hs.out.2.2.2 _ (List.mem_of_getElem? hz)) hm hfi (by have h9 := (List.getElem?_eq_some_iff.1 hz).1; have := hs.out.1; omega) ((hW7.get 1 rfl).below hb))) trivial rfl rfl rfl ?_
   clear hW7; intro w21 hW21
   refine sT 0 hW21 rfl rfl infFault rfl rfl rfl ?_
   clear hW21; intro w22 hW22
   refine St.nil fun a23 h23 => ?_
   refine hK18 _ _ ?_
   refine wp_ret ?_
   repeat (first | with_reducible refine of_then_ret ?_ | with_reducible refine of_block_ret ?_)
   have e0 := hc17.out
   have EF := MFunc.fault_eq m.length fi x
   rw [if_pos e0] at EF
   exact ret_box 0 h23 hW22 rfl rfl rfl Try.underlying26 rfl infFault ⟨by show Ending.returned (.agg #[.int .i64 ((firstF (fun b y => MBlock.fault m.length fi x b y) 0 x.blocks).1), .int .i64 ((firstF (fun b y => MBlock.fault m.length fi x b y) 0 x.blocks).2)]) = _; rw [EF], hW22.bel⟩

set_option maxHeartbeats 4000000 in
set_option maxRecDepth 100000 in
theorem clo46_any {n : Nat} {m : List (MFunc n)} {p : Option Addr} {c : Nat} {x : MFunc n} {fp : FP} {fi : Nat} {w : World} (hx0 : FIn w All x fp) (hs0 : x.small) {Bc : Nat} (hm : m.length ≤ 20) (hfi : fi < 1000) (hcap0 : Blk w Bc #[.slice p m.length c] 39) :
    Rd Try.prog 46 #[.int .i64 (fi : Int), .agg #[.int .i64 x.regs, .slice fp.pP x.params.length fp.cP, .slice fp.pR x.results.length fp.cR, .slice fp.pB x.blocks.length fp.cB], .pointer (some ⟨Bc, 0, none⟩)] w (faultV (MFunc.fault m.length fi x)) := by
  have hx : Hid _ := hx0
  have hs : Hid _ := hs0
  clear hx0 hs0
  have hcap : Hid _ := hcap0
  clear hcap0
  refine fr_enter (n := 11) Try.func46 rfl rfl rfl ?_
  intro a hF
  have hW := Wd.start w
  replace hF : Fr 11 a [(0, .int .i64 (fi : Int)), (1, .agg #[.int .i64 x.regs, .slice fp.pP x.params.length fp.cP, .slice fp.pR x.results.length fp.cR, .slice fp.pB x.blocks.length fp.cB]), (2, .pointer (some ⟨Bc, 0, none⟩))] := hF
  refine wp_seq_k ?_
  intro K1 hK1
  refine fr_region ?_
  intro ops hops
  clear hops
  refine St.go hF ?_; clear hF a
  refine sB hW trivial rfl rfl ?_
  clear hW; intro w2 B2 hW2 hN; clear hN
  refine sAFault hW2 trivial rfl ?_
  clear hW2; intro w3 B3 hW3 hN; clear hN
  refine St.nil fun a4 h4 => ?_
  refine hK1 _ _ ?_
  refine wp_seq_k ?_
  intro K5 hK5
  refine fr_region ?_
  intro ops hops
  clear hops
  refine St.go h4 ?_; clear h4 a4
  refine sSE Try.underlying39 rfl (rangeAt_bel (rangeOf hcap.out 0 1 rfl) hW3.bel) infModule trivial rfl rfl ?_
  refine sS 1 4 Try.underlying50 rfl infFunc hW3 trivial rfl rfl rfl rfl ?_
  refine sm trivial rfl rfl ?_
  intro a6 h6
  refine fr_pure (t := 9) (v := .agg #[.slice p m.length c, .int .i64 x.regs, .slice fp.pP x.params.length fp.cP, .slice fp.pR x.results.length fp.cR, .slice fp.pB x.blocks.length fp.cB, .int .i64 (fi : Int)]) (w' := w3) h6 rfl rfl rfl (fun K hK => ?_) ?_
  ·have k0 : a6.tmps[6]?.getD undef = .agg #[.slice p m.length c] := h6.sl2 6 _ rfl
   have k1 : a6.tmps[7]?.getD undef = .agg #[.int .i64 x.regs, .slice fp.pP x.params.length fp.cP, .slice fp.pR x.results.length fp.cR, .slice fp.pB x.blocks.length fp.cB] := h6.sl2 7 _ rfl
   have k2 : a6.tmps[8]?.getD undef = .int .i64 (fi : Int) := h6.sl2 8 _ rfl
   go_simp
   exact hK
  clear h6; intro a7 hF7
  refine St.go hF7 ?_; clear hF7 a7
  refine sc_1 cf47 hW3 (cFuncFault_any (m := m) (p := p) (c := c) (x := x) (fp := fp) (fi := fi) (hx.out.below hW3.bel) hs.out hm hfi) trivial rfl rfl ?_
  clear hW3; intro w8 hW8
  refine sT 0 hW8 rfl rfl infFault rfl rfl rfl ?_
  clear hW8; intro w9 hW9
  refine St.nil fun a10 h10 => ?_
  refine hK5 _ _ ?_
  refine wp_ret ?_
  repeat (first | with_reducible refine of_then_ret ?_ | with_reducible refine of_block_ret ?_)
  exact ret_box 0 h10 hW9 rfl rfl rfl Try.underlying26 rfl infFault ⟨rfl, hW9.bel⟩

set_option maxHeartbeats 4000000 in
set_option maxRecDepth 100000 in
theorem cCheck_any {n : Nat} {m : List (MFunc n)} {p : Option Addr} {c : Nat} {w : World} (hm0 : (modL n).In w All m [.slice p m.length c]) (hs0 : msmall m) :
    Rd Try.prog 15 #[.agg #[.slice p m.length c]] w (faultV (modFault m)) := by
  have hmm : Hid _ := hm0
  have hms : Hid _ := hs0
  clear hm0 hs0
  refine fr_enter (n := 18) Try.func15 rfl rfl rfl ?_
  intro a hF
  have hW := Wd.start w
  replace hF : Fr 18 a [(0, .agg #[.slice p m.length c])] := hF
  refine wp_seq_k ?_
  intro K1 hK1
  refine fr_region ?_
  intro ops hops
  clear hops
  refine St.go hF ?_; clear hF a
  refine sB hW trivial rfl rfl ?_
  clear hW; intro w2 B2 hW2 hN; clear hN
  refine sAFault hW2 trivial rfl ?_
  clear hW2; intro w3 B3 hW3 hN; clear hN
  refine St.nil fun a4 h4 => ?_
  refine hK1 _ _ ?_
  refine wp_seq_k ?_
  intro K5 hK5
  refine wp_seq_k ?_
  intro K6 hK6
  refine fr_region ?_
  intro ops hops
  have hg4 : (ops[4]?).bind (fun o : Oper => o.dst) = some 7 := hops 4
  clear hops
  refine St.go h4 ?_; clear h4 a4
  refine sfModule0 trivial rfl rfl ?_
  refine sbFuncs 1 hW3 trivial rfl rfl rfl rfl ?_
  refine slFuncs trivial rfl rfl ?_
  refine slt trivial rfl rfl rfl ?_
  refine sm trivial rfl rfl ?_
  intro a7 h7
  rcases Bool.eq_false_or_eq_true (decide ((m.length : Int) < 1)) with hb | hb
  ·rw [hb] at h7
   have hc8 : m.length < 1 := by have := of_decide_eq_true hb; omega
   clear hb
   refine St.go h7 ?_; clear h7 a7
   refine so hg4 rfl rfl rfl rfl ?_
   refine so hg4 rfl rfl rfl rfl ?_
   refine so hg4 rfl rfl rfl rfl ?_
   refine so hg4 rfl rfl rfl rfl ?_
   refine sp trivial rfl rfl rfl ?_
   refine St.nil fun a9 h9 => ?_
   refine hK6 _ _ ?_
   refine fr_true (t := 12) h9 rfl ?_
   refine wp_seq_k ?_
   intro K10 hK10
   refine fr_region ?_
   intro ops hops
   clear hops
   refine fr_pure (t := 13) (v := .agg #[.int .i64 2, .int .i64 (-1)]) (w' := w3) h9 rfl rfl rfl (fun K hK => ?_) ?_
   ·go_simp
    exact hK
   clear h9; intro a11 hF11
   refine St.go hF11 ?_; clear hF11 a11
   refine sT 0 hW3 rfl rfl infFault rfl rfl rfl ?_
   clear hW3; intro w12 hW12
   refine St.nil fun a13 h13 => ?_
   refine hK10 _ _ ?_
   refine wp_ret ?_
   repeat (first | with_reducible refine of_then_ret ?_ | with_reducible refine of_block_ret ?_)
   have R : modFault m = (2, -1) := if_pos (by omega)
   exact ret_box 0 h13 hW12 rfl rfl rfl Try.underlying26 rfl infFault ⟨by show Ending.returned (.agg #[.int .i64 2, .int .i64 (-1)]) = _; rw [R], hW12.bel⟩
  ·rw [hb] at h7
   have hc14 : ¬ (m.length < 1) := by have := of_decide_eq_false hb; omega
   clear hb
   refine St.go h7 ?_; clear h7 a7
   refine sfModule0 ⟨_, hg4, rfl, rfl⟩ rfl rfl ?_
   refine sbFuncs 1 hW3 ⟨_, hg4, rfl, rfl⟩ rfl rfl rfl rfl ?_
   refine slFuncs ⟨_, hg4, rfl, rfl⟩ rfl rfl ?_
   refine sgt ⟨_, hg4, rfl, rfl⟩ rfl rfl rfl ?_
   refine spf trivial rfl rfl rfl ?_
   refine St.nil fun a15 h15 => ?_
   refine hK6 _ _ ?_
   refine fr_cond (t := 12) h15 rfl (fun hb => ?_) (fun hb => ?_)
   ·have hc16 : 8 < m.length := by have := of_decide_eq_true hb; omega
    clear hb
    refine wp_seq_k ?_
    intro K17 hK17
    refine fr_region ?_
    intro ops hops
    clear hops
    refine fr_pure (t := 13) (v := .agg #[.int .i64 2, .int .i64 (-1)]) (w' := w3) h15 rfl rfl rfl (fun K hK => ?_) ?_
    ·go_simp
     exact hK
    clear h15; intro a18 hF18
    refine St.go hF18 ?_; clear hF18 a18
    refine sT 0 hW3 rfl rfl infFault rfl rfl rfl ?_
    clear hW3; intro w19 hW19
    refine St.nil fun a20 h20 => ?_
    refine hK17 _ _ ?_
    refine wp_ret ?_
    repeat (first | with_reducible refine of_then_ret ?_ | with_reducible refine of_block_ret ?_)
    have R : modFault m = (2, -1) := if_pos (by omega)
    exact ret_box 0 h20 hW19 rfl rfl rfl Try.underlying26 rfl infFault ⟨by show Ending.returned (.agg #[.int .i64 2, .int .i64 (-1)]) = _; rw [R], hW19.bel⟩
   ·have hc21 : ¬ (8 < m.length) := by have := of_decide_eq_false hb; omega
    clear hb
    refine wp_skip ?_
    refine hK5 _ _ ?_
    refine wp_seq_k ?_
    intro K22 hK22
    refine fr_region ?_
    intro ops hops
    clear hops
    refine St.go h15 ?_; clear h15 a15
    refine sfModule0 trivial rfl rfl ?_
    refine sbFuncs 1 hW3 trivial rfl rfl rfl rfl ?_
    intro a23 h23
    refine fr_pure (t := 16) (v := .func (.func 46) #[] #[.pointer (some ⟨B2, 0, none⟩)]) (w' := w3) h23 rfl rfl rfl (fun K hK => ?_) ?_
    ·have k0 : a23.tmps.getD 1 undef = .pointer (some ⟨B2, 0, none⟩) := h23.sl 1 _ rfl
     go_simp
     exact hK
    clear h23; intro a24 hF24
    refine St.go hF24 ?_; clear hF24 a24
    refine sc_2 cf45 hW3 (ffFunc_any (Bc := B2) (fun f x => MFunc.fault m.length f x) (Lay.below hmm.out hW3.bel) (by have := hms.out.1; omega) (fun f x xi wx hz hi hb => clo46_any hi (hms.out.2 _ (List.mem_of_getElem? hz)) (by have := hms.out.1; omega) (by have h9 := (List.getElem?_eq_some_iff.1 hz).1; have := hms.out.1; omega) ((hW3.get 1 rfl).below hb))) trivial rfl rfl rfl ?_
    clear hW3; intro w25 hW25
    refine sT 0 hW25 rfl rfl infFault rfl rfl rfl ?_
    clear hW25; intro w26 hW26
    refine St.nil fun a27 h27 => ?_
    refine hK22 _ _ ?_
    refine wp_ret ?_
    repeat (first | with_reducible refine of_then_ret ?_ | with_reducible refine of_block_ret ?_)
    have R : modFault m = firstF (fun f x => MFunc.fault m.length f x) 0 m := if_neg (by omega)
    exact ret_box 0 h27 hW26 rfl rfl rfl Try.underlying26 rfl infFault ⟨by show Ending.returned (.agg #[.int .i64 ((firstF (fun f x => MFunc.fault m.length f x) 0 m).1), .int .i64 ((firstF (fun f x => MFunc.fault m.length f x) 0 m).2)]) = _; rw [R], hW26.bel⟩
end Go.Proofs.Ytmnmnokkojcodab
