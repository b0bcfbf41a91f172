/-
  sameBlock (the reference).
-/
import Derived.Test.YtmnmnokkojcodabCodSame
namespace Go.Proofs.Ytmnmnokkojcodab
open Go.ChangeShapes Go.WideShapes Go.ChangeAt Go.RowKit
set_option linter.unusedVariables false
set_option linter.unusedSimpArgs false

set_option maxHeartbeats 4000000 in
set_option maxRecDepth 100000 in
theorem sameBlock_any {n : Nat} {x y : MBlock n} {b d : BP} {w : World} (hx0 : BIn w All x b) (hy0 : BIn w All y d) (hs0 : x.small) :
    Rd Try.prog 52 #[.agg #[.int .i64 x.regs, .slice b.pP x.params.length b.cP, .slice b.pC x.code.length b.cC, .int .i64 x.fin.op, .int .i64 x.fin.a, .int .i64 x.fin.yes.block, .slice b.e.pYR x.fin.yes.regs.length b.e.cYR, .slice b.e.pYA x.fin.yes.args.length b.e.cYA, .int .i64 x.fin.no.block, .slice b.e.pNR x.fin.no.regs.length b.e.cNR, .slice b.e.pNA x.fin.no.args.length b.e.cNA, .slice b.e.pA x.fin.args.length b.e.cA], .agg #[.int .i64 y.regs, .slice d.pP y.params.length d.cP, .slice d.pC y.code.length d.cC, .int .i64 y.fin.op, .int .i64 y.fin.a, .int .i64 y.fin.yes.block, .slice d.e.pYR y.fin.yes.regs.length d.e.cYR, .slice d.e.pYA y.fin.yes.args.length d.e.cYA, .int .i64 y.fin.no.block, .slice d.e.pNR y.fin.no.regs.length d.e.cNR, .slice d.e.pNA y.fin.no.args.length d.e.cNA, .slice d.e.pA y.fin.args.length d.e.cA]] w (.bool (bdec (x = y))) := by
  have hcl := hs0.1
  have hx : Hid _ := hx0
  have hy : Hid _ := hy0
  have hs : Hid _ := hs0
  clear hx0 hy0 hs0
  refine fr_enter (n := 90) Try.func52 rfl rfl rfl ?_
  intro a hF
  have hW := Wd.start w
  replace hF : Fr 90 a [(0, .agg #[.int .i64 x.regs, .slice b.pP x.params.length b.cP, .slice b.pC x.code.length b.cC, .int .i64 x.fin.op, .int .i64 x.fin.a, .int .i64 x.fin.yes.block, .slice b.e.pYR x.fin.yes.regs.length b.e.cYR, .slice b.e.pYA x.fin.yes.args.length b.e.cYA, .int .i64 x.fin.no.block, .slice b.e.pNR x.fin.no.regs.length b.e.cNR, .slice b.e.pNA x.fin.no.args.length b.e.cNA, .slice b.e.pA x.fin.args.length b.e.cA]), (1, .agg #[.int .i64 y.regs, .slice d.pP y.params.length d.cP, .slice d.pC y.code.length d.cC, .int .i64 y.fin.op, .int .i64 y.fin.a, .int .i64 y.fin.yes.block, .slice d.e.pYR y.fin.yes.regs.length d.e.cYR, .slice d.e.pYA y.fin.yes.args.length d.e.cYA, .int .i64 y.fin.no.block, .slice d.e.pNR y.fin.no.regs.length d.e.cNR, .slice d.e.pNA y.fin.no.args.length d.e.cNA, .slice d.e.pA y.fin.args.length d.e.cA])] := hF
  refine wp_seq_k ?_
  intro K1 hK1
  refine fr_region ?_
  intro ops hops
  clear hops
  refine St.go hF ?_; clear hF a
  refine sB hW trivial rfl rfl ?_
  clear hW; intro w2 B2 hW2 hN; clear hN
  refine sB hW2 trivial rfl rfl ?_
  clear hW2; intro w3 B3 hW3 hN; clear hN
  refine sa trivial rfl rfl ?_
  refine St.nil fun a4 h4 => ?_
  refine hK1 _ _ ?_
  refine wp_seq_k ?_
  intro K5 hK5
  refine wp_seq_k ?_
  intro K6 hK6
  refine fr_region ?_
  intro ops hops
  have hg5 : (ops[5]?).bind (fun o : Oper => o.dst) = some 11 := hops 5
  have hg13 : (ops[13]?).bind (fun o : Oper => o.dst) = some 19 := hops 13
  clear hops
  refine St.go h4 ?_; clear h4 a4
  refine sfBlock0 trivial rfl rfl ?_
  refine sbInt 1 hW3 trivial rfl rfl rfl rfl ?_
  refine sfBlock0 trivial rfl rfl ?_
  refine sbInt 0 hW3 trivial rfl rfl rfl rfl ?_
  refine sne trivial rfl rfl rfl ?_
  refine sm trivial rfl rfl ?_
  intro a7 h7
  rcases Bool.eq_false_or_eq_true (x.regs != y.regs) with hb | hb
  ·rw [hb] at h7
   have h9 : ¬ x.regs = y.regs := bne_iff_ne.1 hb
   have hc8 : ¬ x.regs = y.regs := h9
   clear h9
   clear hb
   refine St.go h7 ?_; clear h7 a7
   refine so hg5 rfl rfl rfl rfl ?_
   refine so hg5 rfl rfl rfl rfl ?_
   refine so hg5 rfl rfl rfl rfl ?_
   refine so hg5 rfl rfl rfl rfl ?_
   refine so hg5 rfl rfl rfl rfl ?_
   refine so hg5 rfl rfl rfl rfl ?_
   refine sp trivial rfl rfl rfl ?_
   refine sm trivial rfl rfl ?_
   refine so hg13 rfl rfl rfl rfl ?_
   refine so hg13 rfl rfl rfl rfl ?_
   refine so hg13 rfl rfl rfl rfl ?_
   refine so hg13 rfl rfl rfl rfl ?_
   refine so hg13 rfl rfl rfl rfl ?_
   refine so hg13 rfl rfl rfl rfl ?_
   refine so hg13 rfl rfl rfl rfl ?_
   refine sp trivial rfl rfl rfl ?_
   refine St.nil fun a9 h9 => ?_
   refine hK6 _ _ ?_
   refine fr_true (t := 27) h9 rfl ?_
   refine wp_seq_k ?_
   intro K10 hK10
   refine fr_region ?_
   intro ops hops
   clear hops
   refine St.go h9 ?_; clear h9 a9
   refine sa trivial rfl rfl ?_
   refine St.nil fun a11 h11 => ?_
   refine hK10 _ _ ?_
   refine wp_ret ?_
   repeat (first | with_reducible refine of_then_ret ?_ | with_reducible refine of_block_ret ?_)
   have R : ¬ x = y := fun e => hc8 (by rw [e])
   exact ret_tmp (t := 4) h11 rfl rfl ⟨by rw [bdec_false R], hW3.bel⟩
  ·rw [hb] at h7
   have h9 : x.regs = y.regs := bne_eq_false_iff_eq.1 hb
   have hc12 : Hid (x.regs = y.regs) := h9
   clear h9
   clear hb
   refine St.go h7 ?_; clear h7 a7
   refine sfBlock1 ⟨_, hg5, rfl, rfl⟩ rfl rfl ?_
   refine sbTypes 1 hW3 ⟨_, hg5, rfl, rfl⟩ rfl rfl rfl rfl ?_
   refine sfBlock1 ⟨_, hg5, rfl, rfl⟩ rfl rfl ?_
   refine sbTypes 0 hW3 ⟨_, hg5, rfl, rfl⟩ rfl rfl rfl rfl ?_
   refine sc_2 cf51 hW3 (sameTypes_any (Lay.below hx.out.params hW3.bel) (Lay.below hy.out.params hW3.bel) hs.out.2.1) ⟨_, hg5, rfl, rfl⟩ rfl rfl rfl ?_
   clear hW3; intro w13 hW13
   refine sn ⟨_, hg5, rfl, rfl⟩ rfl rfl ?_
   refine spf trivial rfl rfl rfl ?_
   refine sm trivial rfl rfl ?_
   intro a14 h14
   rcases Bool.eq_false_or_eq_true (!(bdec (x.params = y.params))) with hb | hb
   ·rw [hb] at h14
    have hb : (bdec (x.params = y.params)) = false := by simpa using hb
    have hc15 : ¬ (x.params = y.params) := fun h => by rw [bdec_true h] at hb; cases hb
    clear hb
    refine St.go h14 ?_; clear h14 a14
    refine so hg13 rfl rfl rfl rfl ?_
    refine so hg13 rfl rfl rfl rfl ?_
    refine so hg13 rfl rfl rfl rfl ?_
    refine so hg13 rfl rfl rfl rfl ?_
    refine so hg13 rfl rfl rfl rfl ?_
    refine so hg13 rfl rfl rfl rfl ?_
    refine so hg13 rfl rfl rfl rfl ?_
    refine sp trivial rfl rfl rfl ?_
    refine St.nil fun a16 h16 => ?_
    refine hK6 _ _ ?_
    refine fr_true (t := 27) h16 rfl ?_
    refine wp_seq_k ?_
    intro K17 hK17
    refine fr_region ?_
    intro ops hops
    clear hops
    refine St.go h16 ?_; clear h16 a16
    refine sa trivial rfl rfl ?_
    refine St.nil fun a18 h18 => ?_
    refine hK17 _ _ ?_
    refine wp_ret ?_
    repeat (first | with_reducible refine of_then_ret ?_ | with_reducible refine of_block_ret ?_)
    have R : ¬ x = y := fun e => hc15 (by rw [e])
    exact ret_tmp (t := 4) h18 rfl rfl ⟨by rw [bdec_false R], hW13.bel⟩
   ·rw [hb] at h14
    have hb : (bdec (x.params = y.params)) = true := by simpa using hb
    have hc19 : (x.params = y.params) := bdec_iff.1 hb
    clear hb
    refine St.go h14 ?_; clear h14 a14
    refine sfBlock2 ⟨_, hg13, rfl, rfl⟩ rfl rfl ?_
    refine sbInss 1 hW13 ⟨_, hg13, rfl, rfl⟩ rfl rfl rfl rfl ?_
    refine slInss ⟨_, hg13, rfl, rfl⟩ rfl rfl ?_
    refine sfBlock2 ⟨_, hg13, rfl, rfl⟩ rfl rfl ?_
    refine sbInss 0 hW13 ⟨_, hg13, rfl, rfl⟩ rfl rfl rfl rfl ?_
    refine slInss ⟨_, hg13, rfl, rfl⟩ rfl rfl ?_
    refine sne ⟨_, hg13, rfl, rfl⟩ rfl rfl rfl ?_
    refine spf trivial rfl rfl rfl ?_
    refine St.nil fun a20 h20 => ?_
    refine hK6 _ _ ?_
    refine fr_cond (t := 27) h20 rfl (fun hb => ?_) (fun hb => ?_)
    ·have h9 : ¬ x.code.length = y.code.length := by have h8 := bne_iff_ne.1 hb; omega
     have hlen : ¬ x.code.length = y.code.length := h9
     clear h9
     clear hb
     refine wp_seq_k ?_
     intro K21 hK21
     refine fr_region ?_
     intro ops hops
     clear hops
     refine St.go h20 ?_; clear h20 a20
     refine sa trivial rfl rfl ?_
     refine St.nil fun a22 h22 => ?_
     refine hK21 _ _ ?_
     refine wp_ret ?_
     repeat (first | with_reducible refine of_then_ret ?_ | with_reducible refine of_block_ret ?_)
     have R : ¬ x = y := fun e => hlen (by rw [e])
     exact ret_tmp (t := 4) h22 rfl rfl ⟨by rw [bdec_false R], hW13.bel⟩
    ·have h9 : x.code.length = y.code.length := by have h8 := bne_eq_false_iff_eq.1 hb; omega
     have hlen : Hid (x.code.length = y.code.length) := h9
     clear h9
     clear hb
     refine wp_skip ?_
     refine hK5 _ _ ?_
     refine wp_seq_k ?_
     intro K23 hK23
     refine wp_seq_k ?_
     intro K24 hK24
     refine fr_region ?_
     intro ops hops
     clear hops
     refine St.go h20 ?_; clear h20 a20
     refine sa trivial rfl rfl ?_
     refine St.nil fun a25 h25 => ?_
     refine hK24 _ _ ?_
     refine wp_block ?_
     refine fr_loop (fun r a w' => ∃ q : Nat, q ≤ x.code.length ∧ r = x.code.length - q ∧ (∀ j, j < q → x.code[j]? = y.code[j]?) ∧ Fr 90 a [(1, .agg #[.int .i64 y.regs, .slice d.pP y.params.length d.cP, .slice d.pC y.code.length d.cC, .int .i64 y.fin.op, .int .i64 y.fin.a, .int .i64 y.fin.yes.block, .slice d.e.pYR y.fin.yes.regs.length d.e.cYR, .slice d.e.pYA y.fin.yes.args.length d.e.cYA, .int .i64 y.fin.no.block, .slice d.e.pNR y.fin.no.regs.length d.e.cNR, .slice d.e.pNA y.fin.no.args.length d.e.cNA, .slice d.e.pA y.fin.args.length d.e.cA]), (0, .agg #[.int .i64 x.regs, .slice b.pP x.params.length b.cP, .slice b.pC x.code.length b.cC, .int .i64 x.fin.op, .int .i64 x.fin.a, .int .i64 x.fin.yes.block, .slice b.e.pYR x.fin.yes.regs.length b.e.cYR, .slice b.e.pYA x.fin.yes.args.length b.e.cYA, .int .i64 x.fin.no.block, .slice b.e.pNR x.fin.no.regs.length b.e.cNR, .slice b.e.pNA x.fin.no.args.length b.e.cNA, .slice b.e.pA x.fin.args.length b.e.cA]), (2, .pointer (some ⟨B2, 0, none⟩)), (3, .pointer (some ⟨B3, 0, none⟩)), (4, .bool false), (5, .int .i64 (q : Int))] ∧ Wd w w' [(B3, #[.int .i64 y.regs, .slice d.pP y.params.length d.cP, .slice d.pC y.code.length d.cC, .int .i64 y.fin.op, .int .i64 y.fin.a, .int .i64 y.fin.yes.block, .slice d.e.pYR y.fin.yes.regs.length d.e.cYR, .slice d.e.pYA y.fin.yes.args.length d.e.cYA, .int .i64 y.fin.no.block, .slice d.e.pNR y.fin.no.regs.length d.e.cNR, .slice d.e.pNA y.fin.no.args.length d.e.cNA, .slice d.e.pA y.fin.args.length d.e.cA], 77), (B2, #[.int .i64 x.regs, .slice b.pP x.params.length b.cP, .slice b.pC x.code.length b.cC, .int .i64 x.fin.op, .int .i64 x.fin.a, .int .i64 x.fin.yes.block, .slice b.e.pYR x.fin.yes.regs.length b.e.cYR, .slice b.e.pYA x.fin.yes.args.length b.e.cYA, .int .i64 x.fin.no.block, .slice b.e.pNR x.fin.no.regs.length b.e.cNR, .slice b.e.pNA x.fin.no.args.length b.e.cNA, .slice b.e.pA x.fin.args.length b.e.cA], 77)]) (x.code.length) ⟨0, Nat.zero_le _, rfl, (fun j hj => by omega), (h25.keep (h25.keep (h25.keep (h25.keep (h25.keep (h25.keep h25.nil (t := 5) rfl) (t := 4) rfl) (t := 3) rfl) (t := 2) rfl) (t := 0) rfl) (t := 1) rfl), hW13⟩ ?_
     clear h25 hW13
     rintro r a26 w26 ⟨q, hq, hr, hall, hF26, hW26⟩ KL hKL
     refine wp_seq_k ?_
     intro K27 hK27
     refine wp_seq_k ?_
     intro K28 hK28
     refine fr_region ?_
     intro ops hops
     clear hops
     refine St.go hF26 ?_; clear hF26 a26
     refine sm trivial rfl rfl ?_
     refine sfBlock2 trivial rfl rfl ?_
     refine sbInss 1 hW26 trivial rfl rfl rfl rfl ?_
     refine slInss trivial rfl rfl ?_
     refine slt trivial rfl rfl rfl ?_
     refine St.nil fun a29 h29 => ?_
     refine hK28 _ _ ?_
     refine fr_cond (t := 32) h29 rfl (fun hb => ?_) (fun hb => ?_)
     ·have hlt1 : q < x.code.length := by have := of_decide_eq_true hb; omega
      have hlt2 : q < y.code.length := by have := hlen.out; omega
      clear hb
      obtain ⟨z, hx1⟩ : ∃ v9, (x.code)[q]? = some v9 := ⟨_, List.getElem?_eq_getElem hlt1⟩
      obtain ⟨g1, o1, i1, hp1, E1, In1⟩ := ins_at hx.out.code hx1
      replace In1 : Hid _ := In1
      replace hp1 : Hid _ := hp1
      replace hx1 : Hid _ := hx1
      replace E1 : Hid _ := E1
      obtain ⟨u, hx2⟩ : ∃ v9, (y.code)[q]? = some v9 := ⟨_, List.getElem?_eq_getElem hlt2⟩
      obtain ⟨g2, o2, i2, hp2, E2, In2⟩ := ins_at hy.out.code hx2
      replace In2 : Hid _ := In2
      replace hp2 : Hid _ := hp2
      replace hx2 : Hid _ := hx2
      replace E2 : Hid _ := E2
      refine wp_skip ?_
      refine hK27 _ _ ?_
      refine wp_seq_k ?_
      intro K30 hK30
      refine wp_block ?_
      refine wp_seq_k ?_
      intro K31 hK31
      have hF32 : Fr 90 a29 [(1, .agg #[.int .i64 y.regs, .slice d.pP y.params.length d.cP, .slice d.pC y.code.length d.cC, .int .i64 y.fin.op, .int .i64 y.fin.a, .int .i64 y.fin.yes.block, .slice d.e.pYR y.fin.yes.regs.length d.e.cYR, .slice d.e.pYA y.fin.yes.args.length d.e.cYA, .int .i64 y.fin.no.block, .slice d.e.pNR y.fin.no.regs.length d.e.cNR, .slice d.e.pNA y.fin.no.args.length d.e.cNA, .slice d.e.pA y.fin.args.length d.e.cA]), (0, .agg #[.int .i64 x.regs, .slice b.pP x.params.length b.cP, .slice b.pC x.code.length b.cC, .int .i64 x.fin.op, .int .i64 x.fin.a, .int .i64 x.fin.yes.block, .slice b.e.pYR x.fin.yes.regs.length b.e.cYR, .slice b.e.pYA x.fin.yes.args.length b.e.cYA, .int .i64 x.fin.no.block, .slice b.e.pNR x.fin.no.regs.length b.e.cNR, .slice b.e.pNA x.fin.no.args.length b.e.cNA, .slice b.e.pA x.fin.args.length b.e.cA]), (2, .pointer (some ⟨B2, 0, none⟩)), (3, .pointer (some ⟨B3, 0, none⟩)), (4, .bool false), (5, .int .i64 (q : Int))] := (h29.keep (h29.keep (h29.keep (h29.keep (h29.keep (h29.keep h29.nil (t := 5) rfl) (t := 4) rfl) (t := 3) rfl) (t := 2) rfl) (t := 0) rfl) (t := 1) rfl)
      have ho2 : a29.tmps.getD 2 undef = .pointer (some ⟨B2, 0, none⟩) := h29.sl 2 _ rfl
      have ho5 : a29.tmps.getD 5 undef = .int .i64 (q : Int) := h29.sl 5 _ rfl
      have ho3 : a29.tmps.getD 3 undef = .pointer (some ⟨B3, 0, none⟩) := h29.sl 3 _ rfl
      refine fr_draw_k 12 ([(2, fun v _ => v = .pointer (some ⟨B2, 0, none⟩)), (5, fun v _ => v = .int .i64 (q : Int)), (3, fun v _ => v = .pointer (some ⟨B3, 0, none⟩)), (35, fun v _ => v = .pointer (some ⟨B2, 2, none⟩)), (36, fun v _ => v = .slice b.pC x.code.length b.cC), (37, fun v _ => v = .int .i64 (q : Int)), (38, fun v _ => v = .pointer (some ⟨g1, o1 + q * 8, none⟩)), (39, fun v _ => v = .agg #[.int .i64 z.op, .int .i64 z.a, .int .i64 z.b, .int .i64 z.c, .int .i64 z.k, .int .i64 z.n, .slice i1.pR z.regs.length i1.cR, .slice i1.pA z.args.length i1.cA]), (40, fun v _ => v = .pointer (some ⟨B3, 2, none⟩)), (41, fun v _ => v = .slice d.pC y.code.length d.cC), (42, fun v _ => v = .int .i64 (q : Int)), (43, fun v _ => v = .pointer (some ⟨g2, o2 + q * 8, none⟩)), (44, fun v _ => v = .agg #[.int .i64 u.op, .int .i64 u.a, .int .i64 u.b, .int .i64 u.c, .int .i64 u.k, .int .i64 u.n, .slice i2.pR u.regs.length i2.cR, .slice i2.pA u.args.length i2.cA]), (45, fun v _ => v = .bool (bdec (z = u))), (46, fun v _ => v = .bool (!(bdec (z = u))))] : PTab) (fun w' => Wd w w' [(B3, #[.int .i64 y.regs, .slice d.pP y.params.length d.cP, .slice d.pC y.code.length d.cC, .int .i64 y.fin.op, .int .i64 y.fin.a, .int .i64 y.fin.yes.block, .slice d.e.pYR y.fin.yes.regs.length d.e.cYR, .slice d.e.pYA y.fin.yes.args.length d.e.cYA, .int .i64 y.fin.no.block, .slice d.e.pNR y.fin.no.regs.length d.e.cNR, .slice d.e.pNA y.fin.no.args.length d.e.cNA, .slice d.e.pA y.fin.args.length d.e.cA], 77), (B2, #[.int .i64 x.regs, .slice b.pP x.params.length b.cP, .slice b.pC x.code.length b.cC, .int .i64 x.fin.op, .int .i64 x.fin.a, .int .i64 x.fin.yes.block, .slice b.e.pYR x.fin.yes.regs.length b.e.cYR, .slice b.e.pYA x.fin.yes.args.length b.e.cYA, .int .i64 x.fin.no.block, .slice b.e.pNR x.fin.no.regs.length b.e.cNR, .slice b.e.pNA x.fin.no.args.length b.e.cNA, .slice b.e.pA x.fin.args.length b.e.cA], 77)] ∧ Below w26.heap.size w26 w') (fun w w' => Below w.heap.size w w') (outs := [2, 5, 3]) (gs := []) (bs := [true, true, true, true, true, true, true, true, true, true, true, true]) (by kernel_rfl) hF32 rfl (by kernel_rfl) (by kernel_rfl) ?hR ?hG ⟨hW26.drewN 1, drewN_below (m := 1) (Below.refl _ _)⟩ ⟨ho2, ho5, ho3, trivial⟩ ?hA ?hend
      case hR => exact ⟨fun _ _ _ _ h => h, fun _ _ _ _ h => h, fun _ _ _ _ h => h, fun _ _ _ _ h => h, fun _ _ _ _ h => h, fun _ _ _ _ h => h, fun _ _ _ _ h => h, fun _ _ _ _ h => h, fun _ _ _ _ h => h, fun _ _ _ _ h => h, fun _ _ _ _ h => h, fun _ _ _ _ h => h, fun _ _ _ _ h => h, fun _ _ _ _ h => h, fun _ _ _ _ h => h, trivial⟩
      case hG => exact trivial
      case hA =>
       refine ⟨fun a w hW hk K hK => ?_, ?_⟩
       · obtain ⟨k0, -⟩ := hk
         have k0 : a.tmps.getD 2 undef = .pointer (some ⟨B2, 0, none⟩) := k0
         go_simp
         exact hK _ _ (Below.refl _ _) hW rfl
       refine ⟨fun a w hW hk K hK => ?_, ?_⟩
       · obtain ⟨k0, -⟩ := hk
         have k0 : a.tmps.getD 35 undef = .pointer (some ⟨B2, 2, none⟩) := k0
         have c2 : w.cell? ⟨B2, 2, none⟩ = some (.slice b.pC x.code.length b.cC) := cellOf (hW.1.get 1 rfl) 2 _ rfl
         go_simp
         exact hK _ _ (Below.refl _ _) hW rfl
       refine ⟨fun a w hW hk K hK => ?_, ?_⟩
       · obtain ⟨k0, -⟩ := hk
         have k0 : a.tmps.getD 5 undef = .int .i64 (q : Int) := k0
         go_simp
         exact hK _ _ (Below.refl _ _) hW rfl
       refine ⟨fun a w hW hk K hK => ?_, ?_⟩
       · obtain ⟨k0, k1, -⟩ := hk
         have k0 : a.tmps.getD 36 undef = .slice b.pC x.code.length b.cC := k0
         have k1 : a.tmps.getD 37 undef = .int .i64 (q : Int) := k1
         have hpq := hp1.out
         have hk0 : (0 : Int) ≤ q := by omega
         have hk1 : (q : Int) < (x.code.length : Int) := by omega
         go_simp
         exact hK _ _ (Below.refl _ _) hW rfl
       refine ⟨fun a w hW hk K hK => ?_, ?_⟩
       · obtain ⟨k0, -⟩ := hk
         have k0 : a.tmps.getD 38 undef = .pointer (some ⟨g1, o1 + q * 8, none⟩) := k0
         have d0 : w.cell? ⟨g1, o1 + q * 8, none⟩ = some (.int .i64 z.op) := bel_cell hW.1.bel (E1.out 0 _ rfl)
         have d1 : w.cell? ⟨g1, o1 + q * 8 + 1, none⟩ = some (.int .i64 z.a) := bel_cell hW.1.bel (E1.out 1 _ rfl)
         have d2 : w.cell? ⟨g1, o1 + q * 8 + 2, none⟩ = some (.int .i64 z.b) := bel_cell hW.1.bel (E1.out 2 _ rfl)
         have d3 : w.cell? ⟨g1, o1 + q * 8 + 3, none⟩ = some (.int .i64 z.c) := bel_cell hW.1.bel (E1.out 3 _ rfl)
         have d4 : w.cell? ⟨g1, o1 + q * 8 + 4, none⟩ = some (.int .i64 z.k) := bel_cell hW.1.bel (E1.out 4 _ rfl)
         have d5 : w.cell? ⟨g1, o1 + q * 8 + 5, none⟩ = some (.int .i64 z.n) := bel_cell hW.1.bel (E1.out 5 _ rfl)
         have d6 : w.cell? ⟨g1, o1 + q * 8 + 6, none⟩ = some (.slice i1.pR z.regs.length i1.cR) := bel_cell hW.1.bel (E1.out 6 _ rfl)
         have d7 : w.cell? ⟨g1, o1 + q * 8 + 7, none⟩ = some (.slice i1.pA z.args.length i1.cA) := bel_cell hW.1.bel (E1.out 7 _ rfl)
         go_simp
         exact hK _ _ (Below.refl _ _) hW rfl
       refine ⟨fun a w hW hk K hK => ?_, ?_⟩
       · obtain ⟨k0, -⟩ := hk
         have k0 : a.tmps.getD 3 undef = .pointer (some ⟨B3, 0, none⟩) := k0
         go_simp
         exact hK _ _ (Below.refl _ _) hW rfl
       refine ⟨fun a w hW hk K hK => ?_, ?_⟩
       · obtain ⟨k0, -⟩ := hk
         have k0 : a.tmps.getD 40 undef = .pointer (some ⟨B3, 2, none⟩) := k0
         have c2 : w.cell? ⟨B3, 2, none⟩ = some (.slice d.pC y.code.length d.cC) := cellOf (hW.1.get 0 rfl) 2 _ rfl
         go_simp
         exact hK _ _ (Below.refl _ _) hW rfl
       refine ⟨fun a w hW hk K hK => ?_, ?_⟩
       · obtain ⟨k0, -⟩ := hk
         have k0 : a.tmps.getD 5 undef = .int .i64 (q : Int) := k0
         go_simp
         exact hK _ _ (Below.refl _ _) hW rfl
       refine ⟨fun a w hW hk K hK => ?_, ?_⟩
       · obtain ⟨k0, k1, -⟩ := hk
         have k0 : a.tmps.getD 41 undef = .slice d.pC y.code.length d.cC := k0
         have k1 : a.tmps.getD 42 undef = .int .i64 (q : Int) := k1
         have hpq := hp2.out
         have hk0 : (0 : Int) ≤ q := by omega
         have hk1 : (q : Int) < (y.code.length : Int) := by omega
         go_simp
         exact hK _ _ (Below.refl _ _) hW rfl
       refine ⟨fun a w hW hk K hK => ?_, ?_⟩
       · obtain ⟨k0, -⟩ := hk
         have k0 : a.tmps.getD 43 undef = .pointer (some ⟨g2, o2 + q * 8, none⟩) := k0
         have d0 : w.cell? ⟨g2, o2 + q * 8, none⟩ = some (.int .i64 u.op) := bel_cell hW.1.bel (E2.out 0 _ rfl)
         have d1 : w.cell? ⟨g2, o2 + q * 8 + 1, none⟩ = some (.int .i64 u.a) := bel_cell hW.1.bel (E2.out 1 _ rfl)
         have d2 : w.cell? ⟨g2, o2 + q * 8 + 2, none⟩ = some (.int .i64 u.b) := bel_cell hW.1.bel (E2.out 2 _ rfl)
         have d3 : w.cell? ⟨g2, o2 + q * 8 + 3, none⟩ = some (.int .i64 u.c) := bel_cell hW.1.bel (E2.out 3 _ rfl)
         have d4 : w.cell? ⟨g2, o2 + q * 8 + 4, none⟩ = some (.int .i64 u.k) := bel_cell hW.1.bel (E2.out 4 _ rfl)
         have d5 : w.cell? ⟨g2, o2 + q * 8 + 5, none⟩ = some (.int .i64 u.n) := bel_cell hW.1.bel (E2.out 5 _ rfl)
         have d6 : w.cell? ⟨g2, o2 + q * 8 + 6, none⟩ = some (.slice i2.pR u.regs.length i2.cR) := bel_cell hW.1.bel (E2.out 6 _ rfl)
         have d7 : w.cell? ⟨g2, o2 + q * 8 + 7, none⟩ = some (.slice i2.pA u.args.length i2.cA) := bel_cell hW.1.bel (E2.out 7 _ rfl)
         go_simp
         exact hK _ _ (Below.refl _ _) hW rfl
       refine ⟨fun a w hW hk K hK => ?_, ?_⟩
       · obtain ⟨k0, k1, -⟩ := hk
         have k0 : a.tmps.getD 39 undef = .agg #[.int .i64 z.op, .int .i64 z.a, .int .i64 z.b, .int .i64 z.c, .int .i64 z.k, .int .i64 z.n, .slice i1.pR z.regs.length i1.cR, .slice i1.pA z.args.length i1.cA] := k0
         have k1 : a.tmps.getD 44 undef = .agg #[.int .i64 u.op, .int .i64 u.a, .int .i64 u.b, .int .i64 u.c, .int .i64 u.k, .int .i64 u.n, .slice i2.pR u.regs.length i2.cR, .slice i2.pA u.args.length i2.cA] := k1
         have hC : Rd Try.prog 76 #[.agg #[.int .i64 z.op, .int .i64 z.a, .int .i64 z.b, .int .i64 z.c, .int .i64 z.k, .int .i64 z.n, .slice i1.pR z.regs.length i1.cR, .slice i1.pA z.args.length i1.cA], .agg #[.int .i64 u.op, .int .i64 u.a, .int .i64 u.b, .int .i64 u.c, .int .i64 u.k, .int .i64 u.n, .slice i2.pR u.regs.length i2.cR, .slice i2.pA u.args.length i2.cA]] w (.bool (bdec (z = u))) := sameIns_any (In1.out.below hW.1.bel) (In2.out.below hW.1.bel) (hs.out.2.2.2 _ (List.mem_of_getElem? hx1.out))
         go_simp
         refine hC.mono ?_
         rintro e w9 ⟨rfl, hb⟩
         exact hK _ _ hb ⟨hW.1.below hb, Below.andThen hW.2 hb⟩ rfl
       refine ⟨fun a w hW hk K hK => ?_, ?_⟩
       · obtain ⟨k0, -⟩ := hk
         have k0 : a.tmps.getD 45 undef = .bool (bdec (z = u)) := k0
         go_simp
         exact hK _ _ (Below.refl _ _) hW rfl
       trivial
      case hend =>
       intro ops a33 w33 hWD hE hFD
       have hd46 : a33.tmps.getD 46 undef = .bool (!(bdec (z = u))) := hE 46 rfl
       have hF33 : Fr 90 a33 [(46, .bool (!(bdec (z = u)))), (1, .agg #[.int .i64 y.regs, .slice d.pP y.params.length d.cP, .slice d.pC y.code.length d.cC, .int .i64 y.fin.op, .int .i64 y.fin.a, .int .i64 y.fin.yes.block, .slice d.e.pYR y.fin.yes.regs.length d.e.cYR, .slice d.e.pYA y.fin.yes.args.length d.e.cYA, .int .i64 y.fin.no.block, .slice d.e.pNR y.fin.no.regs.length d.e.cNR, .slice d.e.pNA y.fin.no.args.length d.e.cNA, .slice d.e.pA y.fin.args.length d.e.cA]), (0, .agg #[.int .i64 x.regs, .slice b.pP x.params.length b.cP, .slice b.pC x.code.length b.cC, .int .i64 x.fin.op, .int .i64 x.fin.a, .int .i64 x.fin.yes.block, .slice b.e.pYR x.fin.yes.regs.length b.e.cYR, .slice b.e.pYA x.fin.yes.args.length b.e.cYA, .int .i64 x.fin.no.block, .slice b.e.pNR x.fin.no.regs.length b.e.cNR, .slice b.e.pNA x.fin.no.args.length b.e.cNA, .slice b.e.pA x.fin.args.length b.e.cA]), (2, .pointer (some ⟨B2, 0, none⟩)), (3, .pointer (some ⟨B3, 0, none⟩)), (4, .bool false), (5, .int .i64 (q : Int))] := (hFD.cons hd46)
       clear hd46
       have hW33 : Wd w w33 [(B3, #[.int .i64 y.regs, .slice d.pP y.params.length d.cP, .slice d.pC y.code.length d.cC, .int .i64 y.fin.op, .int .i64 y.fin.a, .int .i64 y.fin.yes.block, .slice d.e.pYR y.fin.yes.regs.length d.e.cYR, .slice d.e.pYA y.fin.yes.args.length d.e.cYA, .int .i64 y.fin.no.block, .slice d.e.pNR y.fin.no.regs.length d.e.cNR, .slice d.e.pNA y.fin.no.args.length d.e.cNA, .slice d.e.pA y.fin.args.length d.e.cA], 77), (B2, #[.int .i64 x.regs, .slice b.pP x.params.length b.cP, .slice b.pC x.code.length b.cC, .int .i64 x.fin.op, .int .i64 x.fin.a, .int .i64 x.fin.yes.block, .slice b.e.pYR x.fin.yes.regs.length b.e.cYR, .slice b.e.pYA x.fin.yes.args.length b.e.cYA, .int .i64 x.fin.no.block, .slice b.e.pNR x.fin.no.regs.length b.e.cNR, .slice b.e.pNA x.fin.no.args.length b.e.cNA, .slice b.e.pA x.fin.args.length b.e.cA], 77)] := hWD.1
       clear hFD hWD hE hF32 h29
       clear hW26
       refine wpList_nil ?_
       refine hK31 _ _ ?_
       refine fr_cond (t := 46) hF33 rfl (fun hb => ?_) (fun hb => ?_)
       ·have hb : (bdec (z = u)) = false := by simpa using hb
        have hel : ¬ (z = u) := fun h => by rw [bdec_true h] at hb; cases hb
        clear hb
        refine wp_seq_k ?_
        intro K34 hK34
        refine fr_region ?_
        intro ops hops
        clear hops
        refine St.go hF33 ?_; clear hF33 a33
        refine sa trivial rfl rfl ?_
        refine St.nil fun a35 h35 => ?_
        refine hK34 _ _ ?_
        refine wp_ret ?_
        repeat (first | with_reducible refine of_then_ret ?_ | with_reducible refine of_block_ret ?_)
        have R : ¬ x = y := by
          intro e
          have h1 := hx1.out
          rw [e, hx2.out] at h1
          exact hel (Option.some.inj h1).symm
        exact ret_tmp (t := 4) h35 rfl rfl ⟨by rw [bdec_false R], hW33.bel⟩
       ·have hb : (bdec (z = u)) = true := by simpa using hb
        have hel : (z = u) := bdec_iff.1 hb
        clear hb
        refine wp_skip ?_
        refine hK30 _ _ ?_
        refine fr_region ?_
        intro ops hops
        clear hops
        refine St.go hF33 ?_; clear hF33 a33
        refine sm trivial rfl rfl ?_
        refine sad (by omega) trivial rfl rfl rfl ?_
        refine sa trivial rfl rfl ?_
        refine St.nil fun a36 h36 => ?_
        refine hKL _ _ (x.code.length - (q + 1)) (by omega) ⟨q + 1, by omega, rfl, ?_, (h36.keep (h36.keep (h36.keep (h36.keep (h36.keep (h36.keep h36.nil (t := 5) rfl) (t := 4) rfl) (t := 3) rfl) (t := 2) rfl) (t := 0) rfl) (t := 1) rfl), hW33⟩
        ·intro j hj
         by_cases e : j = q
         · subst e; rw [hx1.out, hx2.out, hel]
         · exact hall j (by omega)
     ·have hge : q = x.code.length := by have := of_decide_eq_false hb; omega
      clear hb
      refine wp_exit ?_
      refine hK23 _ _ ?_
      refine wp_seq_k ?_
      intro K37 hK37
      refine fr_region ?_
      intro ops hops
      have hg7 : (ops[7]?).bind (fun o : Oper => o.dst) = some 54 := hops 7
      have hg16 : (ops[16]?).bind (fun o : Oper => o.dst) = some 63 := hops 16
      have hg25 : (ops[25]?).bind (fun o : Oper => o.dst) = some 72 := hops 25
      have hg34 : (ops[34]?).bind (fun o : Oper => o.dst) = some 81 := hops 34
      clear hops
      refine St.go h29 ?_; clear h29 a29
      refine sfBlock3 trivial rfl rfl ?_
      refine sfEnd0 trivial rfl rfl ?_
      refine sbInt 1 hW26 trivial rfl rfl rfl rfl ?_
      refine sfBlock3 trivial rfl rfl ?_
      refine sfEnd0 trivial rfl rfl ?_
      refine sbInt 0 hW26 trivial rfl rfl rfl rfl ?_
      refine seq trivial rfl rfl rfl ?_
      refine sm trivial rfl rfl ?_
      intro a38 h38
      rcases Bool.eq_false_or_eq_true (x.fin.op == y.fin.op) with hb | hb
      ·rw [hb] at h38
       have h9 : x.fin.op = y.fin.op := eq_of_beq hb
       have hc39 : Hid (x.fin.op = y.fin.op) := h9
       clear h9
       clear hb
       refine St.go h38 ?_; clear h38 a38
       refine sfBlock3 ⟨_, hg7, rfl, rfl⟩ rfl rfl ?_
       refine sfEnd1 ⟨_, hg7, rfl, rfl⟩ rfl rfl ?_
       refine sbInt 1 hW26 ⟨_, hg7, rfl, rfl⟩ rfl rfl rfl rfl ?_
       refine sfBlock3 ⟨_, hg7, rfl, rfl⟩ rfl rfl ?_
       refine sfEnd1 ⟨_, hg7, rfl, rfl⟩ rfl rfl ?_
       refine sbInt 0 hW26 ⟨_, hg7, rfl, rfl⟩ rfl rfl rfl rfl ?_
       refine seq ⟨_, hg7, rfl, rfl⟩ rfl rfl rfl ?_
       refine sp trivial rfl rfl rfl ?_
       refine sm trivial rfl rfl ?_
       intro a40 h40
       rcases Bool.eq_false_or_eq_true (x.fin.a == y.fin.a) with hb | hb
       ·rw [hb] at h40
        have h9 : x.fin.a = y.fin.a := eq_of_beq hb
        have hc41 : Hid (x.fin.a = y.fin.a) := h9
        clear h9
        clear hb
        refine St.go h40 ?_; clear h40 a40
        refine sfBlock3 ⟨_, hg16, rfl, rfl⟩ rfl rfl ?_
        refine sfEnd2 ⟨_, hg16, rfl, rfl⟩ rfl rfl ?_
        refine sS 1 3 Try.underlying52 rfl infTo hW26 ⟨_, hg16, rfl, rfl⟩ rfl rfl rfl rfl ?_
        refine sfBlock3 ⟨_, hg16, rfl, rfl⟩ rfl rfl ?_
        refine sfEnd2 ⟨_, hg16, rfl, rfl⟩ rfl rfl ?_
        refine sS 0 3 Try.underlying52 rfl infTo hW26 ⟨_, hg16, rfl, rfl⟩ rfl rfl rfl rfl ?_
        refine sc_2 cf77 hW26 (sameTo_any (hx.out.fin.yes.below hW26.bel) (hy.out.fin.yes.below hW26.bel) hs.out.2.2.1.1) ⟨_, hg16, rfl, rfl⟩ rfl rfl rfl ?_
        clear hW26; intro w42 hW42
        refine sp trivial rfl rfl rfl ?_
        refine sm trivial rfl rfl ?_
        intro a43 h43
        rcases Bool.eq_false_or_eq_true (bdec (x.fin.yes = y.fin.yes)) with hb | hb
        ·rw [hb] at h43
         have hc44 : (x.fin.yes = y.fin.yes) := bdec_iff.1 hb
         clear hb
         refine St.go h43 ?_; clear h43 a43
         refine sfBlock3 ⟨_, hg25, rfl, rfl⟩ rfl rfl ?_
         refine sfEnd3 ⟨_, hg25, rfl, rfl⟩ rfl rfl ?_
         refine sS 1 3 Try.underlying52 rfl infTo hW42 ⟨_, hg25, rfl, rfl⟩ rfl rfl rfl rfl ?_
         refine sfBlock3 ⟨_, hg25, rfl, rfl⟩ rfl rfl ?_
         refine sfEnd3 ⟨_, hg25, rfl, rfl⟩ rfl rfl ?_
         refine sS 0 3 Try.underlying52 rfl infTo hW42 ⟨_, hg25, rfl, rfl⟩ rfl rfl rfl rfl ?_
         refine sc_2 cf77 hW42 (sameTo_any (hx.out.fin.no.below hW42.bel) (hy.out.fin.no.below hW42.bel) hs.out.2.2.1.2.1) ⟨_, hg25, rfl, rfl⟩ rfl rfl rfl ?_
         clear hW42; intro w45 hW45
         refine sp trivial rfl rfl rfl ?_
         refine sm trivial rfl rfl ?_
         intro a46 h46
         rcases Bool.eq_false_or_eq_true (bdec (x.fin.no = y.fin.no)) with hb | hb
         ·rw [hb] at h46
          have hc47 : (x.fin.no = y.fin.no) := bdec_iff.1 hb
          clear hb
          refine St.go h46 ?_; clear h46 a46
          refine sfBlock3 ⟨_, hg34, rfl, rfl⟩ rfl rfl ?_
          refine sfEnd4 ⟨_, hg34, rfl, rfl⟩ rfl rfl ?_
          refine sbInts 1 hW45 ⟨_, hg34, rfl, rfl⟩ rfl rfl rfl rfl ?_
          refine sfBlock3 ⟨_, hg34, rfl, rfl⟩ rfl rfl ?_
          refine sfEnd4 ⟨_, hg34, rfl, rfl⟩ rfl rfl ?_
          refine sbInts 0 hW45 ⟨_, hg34, rfl, rfl⟩ rfl rfl rfl rfl ?_
          refine sc_2 cf32 hW45 (sameInts_any x.fin.args y.fin.args b.e.pA d.e.pA b.e.cA d.e.cA w45 (Lay.below hx.out.fin.args hW45.bel) (Lay.below hy.out.fin.args hW45.bel) (by have := hs.out.2.2.1.2.2; omega)) ⟨_, hg34, rfl, rfl⟩ rfl rfl rfl ?_
          clear hW45; intro w48 hW48
          refine sp trivial rfl rfl rfl ?_
          refine sa trivial rfl rfl ?_
          refine St.nil fun a49 h49 => ?_
          refine hK37 _ _ ?_
          refine wp_ret ?_
          repeat (first | with_reducible refine of_then_ret ?_ | with_reducible refine of_block_ret ?_)
          have RC : x.code = y.code := by
            have := hlen.out
            refine List.ext_getElem? fun i => ?_
            by_cases hi : i < q
            · exact hall i hi
            · rw [List.getElem?_eq_none (by omega), List.getElem?_eq_none (by omega)]
          have R : x.fin.args = y.fin.args ↔ x = y := ⟨fun h => MBlock.eq_of hc12.out hc19 RC (MEnd.eq_of hc39.out hc41.out hc44 hc47 h), fun e => by rw [e]⟩
          exact ret_tmp (t := 4) h49 rfl rfl ⟨by rw [bdec_congr R], hW48.bel⟩
         ·rw [hb] at h46
          have hc50 : ¬ (x.fin.no = y.fin.no) := fun h => by rw [bdec_true h] at hb; cases hb
          clear hb
          refine St.go h46 ?_; clear h46 a46
          refine so hg34 rfl rfl rfl rfl ?_
          refine so hg34 rfl rfl rfl rfl ?_
          refine so hg34 rfl rfl rfl rfl ?_
          refine so hg34 rfl rfl rfl rfl ?_
          refine so hg34 rfl rfl rfl rfl ?_
          refine so hg34 rfl rfl rfl rfl ?_
          refine so hg34 rfl rfl rfl rfl ?_
          refine spf trivial rfl rfl rfl ?_
          refine sa trivial rfl rfl ?_
          refine St.nil fun a51 h51 => ?_
          refine hK37 _ _ ?_
          refine wp_ret ?_
          repeat (first | with_reducible refine of_then_ret ?_ | with_reducible refine of_block_ret ?_)
          have R : ¬ x = y := fun e => hc50 (by rw [e])
          exact ret_tmp (t := 4) h51 rfl rfl ⟨by rw [bdec_false R], hW45.bel⟩
        ·rw [hb] at h43
         have hc52 : ¬ (x.fin.yes = y.fin.yes) := fun h => by rw [bdec_true h] at hb; cases hb
         clear hb
         refine St.go h43 ?_; clear h43 a43
         refine so hg25 rfl rfl rfl rfl ?_
         refine so hg25 rfl rfl rfl rfl ?_
         refine so hg25 rfl rfl rfl rfl ?_
         refine so hg25 rfl rfl rfl rfl ?_
         refine so hg25 rfl rfl rfl rfl ?_
         refine so hg25 rfl rfl rfl rfl ?_
         refine so hg25 rfl rfl rfl rfl ?_
         refine spf trivial rfl rfl rfl ?_
         refine sm trivial rfl rfl ?_
         refine so hg34 rfl rfl rfl rfl ?_
         refine so hg34 rfl rfl rfl rfl ?_
         refine so hg34 rfl rfl rfl rfl ?_
         refine so hg34 rfl rfl rfl rfl ?_
         refine so hg34 rfl rfl rfl rfl ?_
         refine so hg34 rfl rfl rfl rfl ?_
         refine so hg34 rfl rfl rfl rfl ?_
         refine spf trivial rfl rfl rfl ?_
         refine sa trivial rfl rfl ?_
         refine St.nil fun a53 h53 => ?_
         refine hK37 _ _ ?_
         refine wp_ret ?_
         repeat (first | with_reducible refine of_then_ret ?_ | with_reducible refine of_block_ret ?_)
         have R : ¬ x = y := fun e => hc52 (by rw [e])
         exact ret_tmp (t := 4) h53 rfl rfl ⟨by rw [bdec_false R], hW42.bel⟩
       ·rw [hb] at h40
        have h9 : ¬ x.fin.a = y.fin.a := ne_of_beq_false hb
        have hc54 : ¬ x.fin.a = y.fin.a := h9
        clear h9
        clear hb
        refine St.go h40 ?_; clear h40 a40
        refine so hg16 rfl rfl rfl rfl ?_
        refine so hg16 rfl rfl rfl rfl ?_
        refine so hg16 rfl rfl rfl rfl ?_
        refine so hg16 rfl rfl rfl rfl ?_
        refine so hg16 rfl rfl rfl rfl ?_
        refine so hg16 rfl rfl rfl rfl ?_
        refine so hg16 rfl rfl rfl rfl ?_
        refine spf trivial rfl rfl rfl ?_
        refine sm trivial rfl rfl ?_
        refine so hg25 rfl rfl rfl rfl ?_
        refine so hg25 rfl rfl rfl rfl ?_
        refine so hg25 rfl rfl rfl rfl ?_
        refine so hg25 rfl rfl rfl rfl ?_
        refine so hg25 rfl rfl rfl rfl ?_
        refine so hg25 rfl rfl rfl rfl ?_
        refine so hg25 rfl rfl rfl rfl ?_
        refine spf trivial rfl rfl rfl ?_
        refine sm trivial rfl rfl ?_
        refine so hg34 rfl rfl rfl rfl ?_
        refine so hg34 rfl rfl rfl rfl ?_
        refine so hg34 rfl rfl rfl rfl ?_
        refine so hg34 rfl rfl rfl rfl ?_
        refine so hg34 rfl rfl rfl rfl ?_
        refine so hg34 rfl rfl rfl rfl ?_
        refine so hg34 rfl rfl rfl rfl ?_
        refine spf trivial rfl rfl rfl ?_
        refine sa trivial rfl rfl ?_
        refine St.nil fun a55 h55 => ?_
        refine hK37 _ _ ?_
        refine wp_ret ?_
        repeat (first | with_reducible refine of_then_ret ?_ | with_reducible refine of_block_ret ?_)
        have R : ¬ x = y := fun e => hc54 (by rw [e])
        exact ret_tmp (t := 4) h55 rfl rfl ⟨by rw [bdec_false R], hW26.bel⟩
      ·rw [hb] at h38
       have h9 : ¬ x.fin.op = y.fin.op := ne_of_beq_false hb
       have hc56 : ¬ x.fin.op = y.fin.op := h9
       clear h9
       clear hb
       refine St.go h38 ?_; clear h38 a38
       refine so hg7 rfl rfl rfl rfl ?_
       refine so hg7 rfl rfl rfl rfl ?_
       refine so hg7 rfl rfl rfl rfl ?_
       refine so hg7 rfl rfl rfl rfl ?_
       refine so hg7 rfl rfl rfl rfl ?_
       refine so hg7 rfl rfl rfl rfl ?_
       refine so hg7 rfl rfl rfl rfl ?_
       refine spf trivial rfl rfl rfl ?_
       refine sm trivial rfl rfl ?_
       refine so hg16 rfl rfl rfl rfl ?_
       refine so hg16 rfl rfl rfl rfl ?_
       refine so hg16 rfl rfl rfl rfl ?_
       refine so hg16 rfl rfl rfl rfl ?_
       refine so hg16 rfl rfl rfl rfl ?_
       refine so hg16 rfl rfl rfl rfl ?_
       refine so hg16 rfl rfl rfl rfl ?_
       refine spf trivial rfl rfl rfl ?_
       refine sm trivial rfl rfl ?_
       refine so hg25 rfl rfl rfl rfl ?_
       refine so hg25 rfl rfl rfl rfl ?_
       refine so hg25 rfl rfl rfl rfl ?_
       refine so hg25 rfl rfl rfl rfl ?_
       refine so hg25 rfl rfl rfl rfl ?_
       refine so hg25 rfl rfl rfl rfl ?_
       refine so hg25 rfl rfl rfl rfl ?_
       refine spf trivial rfl rfl rfl ?_
       refine sm trivial rfl rfl ?_
       refine so hg34 rfl rfl rfl rfl ?_
       refine so hg34 rfl rfl rfl rfl ?_
       refine so hg34 rfl rfl rfl rfl ?_
       refine so hg34 rfl rfl rfl rfl ?_
       refine so hg34 rfl rfl rfl rfl ?_
       refine so hg34 rfl rfl rfl rfl ?_
       refine so hg34 rfl rfl rfl rfl ?_
       refine spf trivial rfl rfl rfl ?_
       refine sa trivial rfl rfl ?_
       refine St.nil fun a57 h57 => ?_
       refine hK37 _ _ ?_
       refine wp_ret ?_
       repeat (first | with_reducible refine of_then_ret ?_ | with_reducible refine of_block_ret ?_)
       have R : ¬ x = y := fun e => hc56 (by rw [e])
       exact ret_tmp (t := 4) h57 rfl rfl ⟨by rw [bdec_false R], hW26.bel⟩
end Go.Proofs.Ytmnmnokkojcodab
