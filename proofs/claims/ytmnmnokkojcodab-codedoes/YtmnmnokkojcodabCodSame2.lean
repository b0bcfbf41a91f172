/-
  Same: blocks, functions, modules (package code).
-/
import Derived.Test.YtmnmnokkojcodabCodSame
namespace Go.Proofs.Ytmnmnokkojcodab
open Go.ChangeShapes Go.WideShapes Go.ChangeAt Go.RowKit
set_option linter.unusedVariables false
set_option linter.unusedSimpArgs false

set_option maxHeartbeats 4000000 in
set_option maxRecDepth 100000 in
theorem cSameBlock_any {n : Nat} {x y : MBlock n} {b d : BP} {w : World} (hx0 : BIn w All x b) (hy0 : BIn w All y d) (hs0 : x.small) :
    Rd Try.prog 85 #[.agg #[.int .i64 x.regs, .slice b.pP x.params.length b.cP, .slice b.pC x.code.length b.cC, .int .i64 x.fin.op, .int .i64 x.fin.a, .int .i64 x.fin.yes.block, .slice b.e.pYR x.fin.yes.regs.length b.e.cYR, .slice b.e.pYA x.fin.yes.args.length b.e.cYA, .int .i64 x.fin.no.block, .slice b.e.pNR x.fin.no.regs.length b.e.cNR, .slice b.e.pNA x.fin.no.args.length b.e.cNA, .slice b.e.pA x.fin.args.length b.e.cA], .agg #[.int .i64 y.regs, .slice d.pP y.params.length d.cP, .slice d.pC y.code.length d.cC, .int .i64 y.fin.op, .int .i64 y.fin.a, .int .i64 y.fin.yes.block, .slice d.e.pYR y.fin.yes.regs.length d.e.cYR, .slice d.e.pYA y.fin.yes.args.length d.e.cYA, .int .i64 y.fin.no.block, .slice d.e.pNR y.fin.no.regs.length d.e.cNR, .slice d.e.pNA y.fin.no.args.length d.e.cNA, .slice d.e.pA y.fin.args.length d.e.cA]] w (.bool (bdec (x = y))) := by
  have hx : Hid _ := hx0
  have hy : Hid _ := hy0
  have hs : Hid _ := hs0
  clear hx0 hy0 hs0
  refine fr_enter (n := 31) Try.func85 rfl rfl rfl ?_
  intro a hF
  have hW := Wd.start w
  replace hF : Fr 31 a [(0, .agg #[.int .i64 x.regs, .slice b.pP x.params.length b.cP, .slice b.pC x.code.length b.cC, .int .i64 x.fin.op, .int .i64 x.fin.a, .int .i64 x.fin.yes.block, .slice b.e.pYR x.fin.yes.regs.length b.e.cYR, .slice b.e.pYA x.fin.yes.args.length b.e.cYA, .int .i64 x.fin.no.block, .slice b.e.pNR x.fin.no.regs.length b.e.cNR, .slice b.e.pNA x.fin.no.args.length b.e.cNA, .slice b.e.pA x.fin.args.length b.e.cA]), (1, .agg #[.int .i64 y.regs, .slice d.pP y.params.length d.cP, .slice d.pC y.code.length d.cC, .int .i64 y.fin.op, .int .i64 y.fin.a, .int .i64 y.fin.yes.block, .slice d.e.pYR y.fin.yes.regs.length d.e.cYR, .slice d.e.pYA y.fin.yes.args.length d.e.cYA, .int .i64 y.fin.no.block, .slice d.e.pNR y.fin.no.regs.length d.e.cNR, .slice d.e.pNA y.fin.no.args.length d.e.cNA, .slice d.e.pA y.fin.args.length d.e.cA])] := hF
  refine wp_seq_k ?_
  intro K1 hK1
  refine fr_region ?_
  intro ops hops
  clear hops
  refine St.go hF ?_; clear hF a
  refine sB hW trivial rfl rfl ?_
  clear hW; intro w2 B2 hW2 hN; clear hN
  refine sB hW2 trivial rfl rfl ?_
  clear hW2; intro w3 B3 hW3 hN; clear hN
  refine sa trivial rfl rfl ?_
  refine St.nil fun a4 h4 => ?_
  refine hK1 _ _ ?_
  refine wp_seq_k ?_
  intro K5 hK5
  refine fr_region ?_
  intro ops hops
  have hg5 : (ops[5]?).bind (fun o : Oper => o.dst) = some 10 := hops 5
  have hg12 : (ops[12]?).bind (fun o : Oper => o.dst) = some 17 := hops 12
  have hg19 : (ops[19]?).bind (fun o : Oper => o.dst) = some 24 := hops 19
  clear hops
  refine St.go h4 ?_; clear h4 a4
  refine sfBlock0 trivial rfl rfl ?_
  refine sbInt 1 hW3 trivial rfl rfl rfl rfl ?_
  refine sfBlock0 trivial rfl rfl ?_
  refine sbInt 0 hW3 trivial rfl rfl rfl rfl ?_
  refine seq trivial rfl rfl rfl ?_
  refine sm trivial rfl rfl ?_
  intro a6 h6
  rcases Bool.eq_false_or_eq_true (x.regs == y.regs) with hb | hb
  ·rw [hb] at h6
   have h9 : x.regs = y.regs := eq_of_beq hb
   have hc7 : Hid (x.regs = y.regs) := h9
   clear h9
   clear hb
   refine St.go h6 ?_; clear h6 a6
   refine sfBlock1 ⟨_, hg5, rfl, rfl⟩ rfl rfl ?_
   refine sbTypes 1 hW3 ⟨_, hg5, rfl, rfl⟩ rfl rfl rfl rfl ?_
   refine sfBlock1 ⟨_, hg5, rfl, rfl⟩ rfl rfl ?_
   refine sbTypes 0 hW3 ⟨_, hg5, rfl, rfl⟩ rfl rfl rfl rfl ?_
   refine sc_3 cf82 hW3 (eqTypes_any (Lay.below hx.out.params hW3.bel) (Lay.below hy.out.params hW3.bel) hs.out.2.1) ⟨_, hg5, rfl, rfl⟩ rfl rfl rfl rfl ?_
   clear hW3; intro w8 hW8
   refine sp trivial rfl rfl rfl ?_
   refine sm trivial rfl rfl ?_
   intro a9 h9
   rcases Bool.eq_false_or_eq_true (bdec (x.params = y.params)) with hb | hb
   ·rw [hb] at h9
    have hc10 : (x.params = y.params) := bdec_iff.1 hb
    clear hb
    refine St.go h9 ?_; clear h9 a9
    refine sfBlock2 ⟨_, hg12, rfl, rfl⟩ rfl rfl ?_
    refine sbInss 1 hW8 ⟨_, hg12, rfl, rfl⟩ rfl rfl rfl rfl ?_
    refine sfBlock2 ⟨_, hg12, rfl, rfl⟩ rfl rfl ?_
    refine sbInss 0 hW8 ⟨_, hg12, rfl, rfl⟩ rfl rfl rfl rfl ?_
    refine sc_3 cf103 hW8 (eqIns_any (Lay.below hx.out.code hW8.bel) (Lay.below hy.out.code hW8.bel) ⟨hs.out.1, hs.out.2.2.2⟩) ⟨_, hg12, rfl, rfl⟩ rfl rfl rfl rfl ?_
    clear hW8; intro w11 hW11
    refine sp trivial rfl rfl rfl ?_
    refine sm trivial rfl rfl ?_
    intro a12 h12
    rcases Bool.eq_false_or_eq_true (bdec (x.code = y.code)) with hb | hb
    ·rw [hb] at h12
     have hc13 : (x.code = y.code) := bdec_iff.1 hb
     clear hb
     refine St.go h12 ?_; clear h12 a12
     refine sfBlock3 ⟨_, hg19, rfl, rfl⟩ rfl rfl ?_
     refine sS 1 9 Try.underlying54 rfl infEnd hW11 ⟨_, hg19, rfl, rfl⟩ rfl rfl rfl rfl ?_
     refine sfBlock3 ⟨_, hg19, rfl, rfl⟩ rfl rfl ?_
     refine sS 0 9 Try.underlying54 rfl infEnd hW11 ⟨_, hg19, rfl, rfl⟩ rfl rfl rfl rfl ?_
     refine sc_2 cf105 hW11 (cSameEnd_any (hx.out.fin.below hW11.bel) (hy.out.fin.below hW11.bel) hs.out.2.2.1) ⟨_, hg19, rfl, rfl⟩ rfl rfl rfl ?_
     clear hW11; intro w14 hW14
     refine sp trivial rfl rfl rfl ?_
     refine sa trivial rfl rfl ?_
     refine St.nil fun a15 h15 => ?_
     refine hK5 _ _ ?_
     refine wp_ret ?_
     repeat (first | with_reducible refine of_then_ret ?_ | with_reducible refine of_block_ret ?_)
     have R : x.fin = y.fin ↔ x = y := ⟨fun h => MBlock.eq_of hc7.out hc10 hc13 h, fun e => by rw [e]⟩
     exact ret_tmp (t := 4) h15 rfl rfl ⟨by rw [bdec_congr R], hW14.bel⟩
    ·rw [hb] at h12
     have hc16 : ¬ (x.code = y.code) := fun h => by rw [bdec_true h] at hb; cases hb
     clear hb
     refine St.go h12 ?_; clear h12 a12
     refine so hg19 rfl rfl rfl rfl ?_
     refine so hg19 rfl rfl rfl rfl ?_
     refine so hg19 rfl rfl rfl rfl ?_
     refine so hg19 rfl rfl rfl rfl ?_
     refine so hg19 rfl rfl rfl rfl ?_
     refine spf trivial rfl rfl rfl ?_
     refine sa trivial rfl rfl ?_
     refine St.nil fun a17 h17 => ?_
     refine hK5 _ _ ?_
     refine wp_ret ?_
     repeat (first | with_reducible refine of_then_ret ?_ | with_reducible refine of_block_ret ?_)
     have R : ¬ x = y := fun e => hc16 (by rw [e])
     exact ret_tmp (t := 4) h17 rfl rfl ⟨by rw [bdec_false R], hW11.bel⟩
   ·rw [hb] at h9
    have hc18 : ¬ (x.params = y.params) := fun h => by rw [bdec_true h] at hb; cases hb
    clear hb
    refine St.go h9 ?_; clear h9 a9
    refine so hg12 rfl rfl rfl rfl ?_
    refine so hg12 rfl rfl rfl rfl ?_
    refine so hg12 rfl rfl rfl rfl ?_
    refine so hg12 rfl rfl rfl rfl ?_
    refine so hg12 rfl rfl rfl rfl ?_
    refine spf trivial rfl rfl rfl ?_
    refine sm trivial rfl rfl ?_
    refine so hg19 rfl rfl rfl rfl ?_
    refine so hg19 rfl rfl rfl rfl ?_
    refine so hg19 rfl rfl rfl rfl ?_
    refine so hg19 rfl rfl rfl rfl ?_
    refine so hg19 rfl rfl rfl rfl ?_
    refine spf trivial rfl rfl rfl ?_
    refine sa trivial rfl rfl ?_
    refine St.nil fun a19 h19 => ?_
    refine hK5 _ _ ?_
    refine wp_ret ?_
    repeat (first | with_reducible refine of_then_ret ?_ | with_reducible refine of_block_ret ?_)
    have R : ¬ x = y := fun e => hc18 (by rw [e])
    exact ret_tmp (t := 4) h19 rfl rfl ⟨by rw [bdec_false R], hW8.bel⟩
  ·rw [hb] at h6
   have h9 : ¬ x.regs = y.regs := ne_of_beq_false hb
   have hc20 : ¬ x.regs = y.regs := h9
   clear h9
   clear hb
   refine St.go h6 ?_; clear h6 a6
   refine so hg5 rfl rfl rfl rfl ?_
   refine so hg5 rfl rfl rfl rfl ?_
   refine so hg5 rfl rfl rfl rfl ?_
   refine so hg5 rfl rfl rfl rfl ?_
   refine so hg5 rfl rfl rfl rfl ?_
   refine spf trivial rfl rfl rfl ?_
   refine sm trivial rfl rfl ?_
   refine so hg12 rfl rfl rfl rfl ?_
   refine so hg12 rfl rfl rfl rfl ?_
   refine so hg12 rfl rfl rfl rfl ?_
   refine so hg12 rfl rfl rfl rfl ?_
   refine so hg12 rfl rfl rfl rfl ?_
   refine spf trivial rfl rfl rfl ?_
   refine sm trivial rfl rfl ?_
   refine so hg19 rfl rfl rfl rfl ?_
   refine so hg19 rfl rfl rfl rfl ?_
   refine so hg19 rfl rfl rfl rfl ?_
   refine so hg19 rfl rfl rfl rfl ?_
   refine so hg19 rfl rfl rfl rfl ?_
   refine spf trivial rfl rfl rfl ?_
   refine sa trivial rfl rfl ?_
   refine St.nil fun a21 h21 => ?_
   refine hK5 _ _ ?_
   refine wp_ret ?_
   repeat (first | with_reducible refine of_then_ret ?_ | with_reducible refine of_block_ret ?_)
   have R : ¬ x = y := fun e => hc20 (by rw [e])
   exact ret_tmp (t := 4) h21 rfl rfl ⟨by rw [bdec_false R], hW3.bel⟩

set_option maxHeartbeats 4000000 in
set_option maxRecDepth 100000 in
theorem eqBlock_any {n : Nat} {l m : List (MBlock n)} {p p2 : Option Addr} {c d : Nat} {w : World} (hl0 : (blockL n).list.In w All l [.slice p l.length c]) (hm0 : (blockL n).list.In w All m [.slice p2 m.length d]) (hs0 : l.length ≤ 200 ∧ ∀ x ∈ l, x.small) :
    Rd Try.prog 84 #[.slice p l.length c, .slice p2 m.length d, .func (.func 85) #[] #[]] w (.bool (bdec (l = m))) := by
  have hlb := hs0.1
  have hl : Hid _ := hl0
  have hm : Hid _ := hm0
  have hs : Hid _ := hs0.2
  clear hl0 hm0 hs0
  refine fr_enter (n := 32) Try.func84 rfl rfl rfl ?_
  intro a hF
  have hW := Wd.start w
  replace hF : Fr 32 a [(0, .slice p l.length c), (1, .slice p2 m.length d), (2, .func (.func 85) #[] #[])] := hF
  refine wp_seq_k ?_
  intro K1 hK1
  refine fr_region ?_
  intro ops hops
  clear hops
  refine St.go hF ?_; clear hF a
  refine sa trivial rfl rfl ?_
  refine St.nil fun a2 h2 => ?_
  refine hK1 _ _ ?_
  refine wp_seq_k ?_
  intro K3 hK3
  refine wp_seq_k ?_
  intro K4 hK4
  refine fr_region ?_
  intro ops hops
  clear hops
  refine St.go h2 ?_; clear h2 a2
  refine sm trivial rfl rfl ?_
  refine slBlocks trivial rfl rfl ?_
  refine sm trivial rfl rfl ?_
  refine slBlocks trivial rfl rfl ?_
  refine sne trivial rfl rfl rfl ?_
  refine St.nil fun a5 h5 => ?_
  refine hK4 _ _ ?_
  refine fr_cond (t := 14) h5 rfl (fun hb => ?_) (fun hb => ?_)
  ·have h9 : ¬ l.length = m.length := by have h8 := bne_iff_ne.1 hb; omega
   have hlen : ¬ l.length = m.length := h9
   clear h9
   clear hb
   refine wp_seq_k ?_
   intro K6 hK6
   refine fr_region ?_
   intro ops hops
   clear hops
   refine St.go h5 ?_; clear h5 a5
   refine sa trivial rfl rfl ?_
   refine St.nil fun a7 h7 => ?_
   refine hK6 _ _ ?_
   refine wp_ret ?_
   repeat (first | with_reducible refine of_then_ret ?_ | with_reducible refine of_block_ret ?_)
   have R : ¬ l = m := fun e => hlen (by rw [e])
   exact ret_tmp (t := 6) h7 rfl rfl ⟨by rw [bdec_false R], hW.bel⟩
  ·have h9 : l.length = m.length := by have h8 := bne_eq_false_iff_eq.1 hb; omega
   have hlen : Hid (l.length = m.length) := h9
   clear h9
   clear hb
   refine wp_skip ?_
   refine hK3 _ _ ?_
   refine wp_seq_k ?_
   intro K8 hK8
   refine wp_seq_k ?_
   intro K9 hK9
   refine fr_region ?_
   intro ops hops
   clear hops
   refine St.go h5 ?_; clear h5 a5
   refine sm trivial rfl rfl ?_
   refine slBlocks trivial rfl rfl ?_
   refine sm trivial rfl rfl ?_
   refine St.nil fun a10 h10 => ?_
   refine hK9 _ _ ?_
   refine wp_block ?_
   refine fr_loop (fun r a w' => ∃ q : Nat, q ≤ l.length ∧ r = l.length - q ∧ (∀ j, j < q → l[j]? = m[j]?) ∧ Fr 32 a [(2, .func (.func 85) #[] #[]), (1, .slice p2 m.length d), (0, .slice p l.length c), (6, .bool false), (15, .slice p l.length c), (16, .int .i64 (l.length : Int)), (17, .int .i64 (q : Int))] ∧ Wd w w' []) (l.length) ⟨0, Nat.zero_le _, rfl, (fun j hj => by omega), (h10.keep (h10.keep (h10.keep (h10.keep (h10.keep (h10.keep (h10.keep h10.nil (t := 17) rfl) (t := 16) rfl) (t := 15) rfl) (t := 6) rfl) (t := 0) rfl) (t := 1) rfl) (t := 2) rfl), hW⟩ ?_
   clear h10 hW
   rintro r a11 w11 ⟨q, hq, hr, hall, hF11, hW11⟩ KL hKL
   refine wp_seq_k ?_
   intro K12 hK12
   refine fr_region ?_
   intro ops hops
   clear hops
   refine St.go hF11 ?_; clear hF11 a11
   refine slt trivial rfl rfl rfl ?_
   refine St.nil fun a13 h13 => ?_
   refine hK12 _ _ ?_
   refine wp_seq_k ?_
   intro K14 hK14
   refine fr_cond (t := 18) h13 rfl (fun hb => ?_) (fun hb => ?_)
   ·have hlt1 : q < l.length := by have := of_decide_eq_true hb; omega
    have hlt2 : q < m.length := by have := hlen.out; omega
    clear hb
    obtain ⟨x, hx1⟩ : ∃ v9, (l)[q]? = some v9 := ⟨_, List.getElem?_eq_getElem hlt1⟩
    obtain ⟨g1, o1, b1, hp1, E1, In1⟩ := block_at hl.out hx1
    replace In1 : Hid _ := In1
    replace hp1 : Hid _ := hp1
    replace hx1 : Hid _ := hx1
    replace E1 : Hid _ := E1
    obtain ⟨y, hx2⟩ : ∃ v9, (m)[q]? = some v9 := ⟨_, List.getElem?_eq_getElem hlt2⟩
    obtain ⟨g2, o2, b2, hp2, E2, In2⟩ := block_at hm.out hx2
    replace In2 : Hid _ := In2
    replace hp2 : Hid _ := hp2
    replace hx2 : Hid _ := hx2
    replace E2 : Hid _ := E2
    refine wp_skip ?_
    refine hK14 _ _ ?_
    refine wp_seq_k ?_
    intro K15 hK15
    refine wp_block ?_
    refine wp_seq_k ?_
    intro K16 hK16
    refine fr_region ?_
    intro ops hops
    clear hops
    refine St.go h13 ?_; clear h13 a13
    refine sm trivial rfl rfl ?_
    refine siBlocks hp1.out hlt1 trivial rfl rfl rfl ?_
    refine sSE Try.underlying77 rfl (rangeAt_bel E1.out hW11.bel) infBlock trivial rfl rfl ?_
    refine sABlock hW11 trivial rfl ?_
    clear hW11; intro w17 B17 hW17 hN; clear hN
    refine sa trivial rfl rfl ?_
    refine sT 0 hW17 rfl rfl infBlock rfl rfl rfl ?_
    clear hW17; intro w18 hW18
    refine St.nil fun a19 h19 => ?_
    refine hK16 _ _ ?_
    refine wp_seq_k ?_
    intro K20 hK20
    refine fr_region ?_
    intro ops hops
    clear hops
    refine St.go h19 ?_; clear h19 a19
    refine sm trivial rfl rfl ?_
    refine sm trivial rfl rfl ?_
    refine siBlocks hp2.out hlt2 trivial rfl rfl rfl ?_
    refine sSE Try.underlying77 rfl (rangeAt_bel E2.out hW18.bel) infBlock trivial rfl rfl ?_
    refine sABlock hW18 trivial rfl ?_
    clear hW18; intro w21 B21 hW21 hN; clear hN
    refine sT 0 hW21 rfl rfl infBlock rfl rfl rfl ?_
    clear hW21; intro w22 hW22
    refine St.nil fun a23 h23 => ?_
    refine hK20 _ _ ?_
    refine wp_seq_k ?_
    intro K24 hK24
    refine fr_region ?_
    intro ops hops
    clear hops
    refine St.go h23 ?_; clear h23 a23
    refine sm trivial rfl rfl ?_
    refine sS 1 12 Try.underlying77 rfl infBlock hW22 trivial rfl rfl rfl rfl ?_
    refine sS 0 12 Try.underlying77 rfl infBlock hW22 trivial rfl rfl rfl rfl ?_
    refine sv_20 cf85 hW22 (cSameBlock_any (In1.out.below hW22.bel) (In2.out.below hW22.bel) (hs.out _ (List.mem_of_getElem? hx1.out))) trivial rfl rfl rfl rfl ?_
    clear hW22; intro w25 hW25
    refine sn trivial rfl rfl ?_
    refine St.nil fun a26 h26 => ?_
    refine hK24 _ _ ?_
    refine fr_cond (t := 30) h26 rfl (fun hb => ?_) (fun hb => ?_)
    ·have hb : (bdec (x = y)) = false := by simpa using hb
     have hel : ¬ (x = y) := fun h => by rw [bdec_true h] at hb; cases hb
     clear hb
     refine wp_seq_k ?_
     intro K27 hK27
     refine fr_region ?_
     intro ops hops
     clear hops
     refine St.go h26 ?_; clear h26 a26
     refine sa trivial rfl rfl ?_
     refine St.nil fun a28 h28 => ?_
     refine hK27 _ _ ?_
     refine wp_ret ?_
     repeat (first | with_reducible refine of_then_ret ?_ | with_reducible refine of_block_ret ?_)
     have R : ¬ l = m := by
       intro e
       have h1 := hx1.out
       rw [e, hx2.out] at h1
       exact hel (Option.some.inj h1).symm
     exact ret_tmp (t := 6) h28 rfl rfl ⟨by rw [bdec_false R], hW25.bel⟩
    ·have hb : (bdec (x = y)) = true := by simpa using hb
     have hel : (x = y) := bdec_iff.1 hb
     clear hb
     refine wp_skip ?_
     refine hK15 _ _ ?_
     refine fr_region ?_
     intro ops hops
     clear hops
     refine St.go h26 ?_; clear h26 a26
     refine sad (by omega) trivial rfl rfl rfl ?_
     refine sm trivial rfl rfl ?_
     refine St.nil fun a29 h29 => ?_
     refine hKL _ _ (l.length - (q + 1)) (by omega) ⟨q + 1, by omega, rfl, ?_, (h29.keep (h29.keep (h29.keep (h29.keep (h29.keep (h29.keep (h29.keep h29.nil (t := 17) rfl) (t := 16) rfl) (t := 15) rfl) (t := 6) rfl) (t := 0) rfl) (t := 1) rfl) (t := 2) rfl), hW25.tail.tail⟩
     ·intro j hj
      by_cases e : j = q
      · subst e; rw [hx1.out, hx2.out, hel]
      · exact hall j (by omega)
   ·have hge : q = l.length := by have := of_decide_eq_false hb; omega
    clear hb
    refine wp_exit ?_
    refine hK8 _ _ ?_
    refine wp_seq_k ?_
    intro K30 hK30
    refine fr_region ?_
    intro ops hops
    clear hops
    refine St.go h13 ?_; clear h13 a13
    refine sa trivial rfl rfl ?_
    refine St.nil fun a31 h31 => ?_
    refine hK30 _ _ ?_
    refine wp_ret ?_
    repeat (first | with_reducible refine of_then_ret ?_ | with_reducible refine of_block_ret ?_)
    have R : l = m := by
      have := hlen.out
      refine List.ext_getElem? fun i => ?_
      by_cases hi : i < q
      · exact hall i hi
      · rw [List.getElem?_eq_none (by omega), List.getElem?_eq_none (by omega)]
    exact ret_tmp (t := 6) h31 rfl rfl ⟨by rw [bdec_true R], hW11.bel⟩

set_option maxHeartbeats 4000000 in
set_option maxRecDepth 100000 in
theorem cSameFunc_any {n : Nat} {x y : MFunc n} {f d : FP} {w : World} (hx0 : FIn w All x f) (hy0 : FIn w All y d) (hs0 : x.small) :
    Rd Try.prog 56 #[.agg #[.int .i64 x.regs, .slice f.pP x.params.length f.cP, .slice f.pR x.results.length f.cR, .slice f.pB x.blocks.length f.cB], .agg #[.int .i64 y.regs, .slice d.pP y.params.length d.cP, .slice d.pR y.results.length d.cR, .slice d.pB y.blocks.length d.cB]] w (.bool (bdec (x = y))) := by
  have hx : Hid _ := hx0
  have hy : Hid _ := hy0
  have hs : Hid _ := hs0
  clear hx0 hy0 hs0
  refine fr_enter (n := 31) Try.func56 rfl rfl rfl ?_
  intro a hF
  have hW := Wd.start w
  replace hF : Fr 31 a [(0, .agg #[.int .i64 x.regs, .slice f.pP x.params.length f.cP, .slice f.pR x.results.length f.cR, .slice f.pB x.blocks.length f.cB]), (1, .agg #[.int .i64 y.regs, .slice d.pP y.params.length d.cP, .slice d.pR y.results.length d.cR, .slice d.pB y.blocks.length d.cB])] := hF
  refine wp_seq_k ?_
  intro K1 hK1
  refine fr_region ?_
  intro ops hops
  clear hops
  refine St.go hF ?_; clear hF a
  refine sB hW trivial rfl rfl ?_
  clear hW; intro w2 B2 hW2 hN; clear hN
  refine sB hW2 trivial rfl rfl ?_
  clear hW2; intro w3 B3 hW3 hN; clear hN
  refine sa trivial rfl rfl ?_
  refine St.nil fun a4 h4 => ?_
  refine hK1 _ _ ?_
  refine wp_seq_k ?_
  intro K5 hK5
  refine fr_region ?_
  intro ops hops
  have hg5 : (ops[5]?).bind (fun o : Oper => o.dst) = some 10 := hops 5
  have hg12 : (ops[12]?).bind (fun o : Oper => o.dst) = some 17 := hops 12
  have hg19 : (ops[19]?).bind (fun o : Oper => o.dst) = some 24 := hops 19
  clear hops
  refine St.go h4 ?_; clear h4 a4
  refine sfFunc0 trivial rfl rfl ?_
  refine sbInt 1 hW3 trivial rfl rfl rfl rfl ?_
  refine sfFunc0 trivial rfl rfl ?_
  refine sbInt 0 hW3 trivial rfl rfl rfl rfl ?_
  refine seq trivial rfl rfl rfl ?_
  refine sm trivial rfl rfl ?_
  intro a6 h6
  rcases Bool.eq_false_or_eq_true (x.regs == y.regs) with hb | hb
  ·rw [hb] at h6
   have h9 : x.regs = y.regs := eq_of_beq hb
   have hc7 : Hid (x.regs = y.regs) := h9
   clear h9
   clear hb
   refine St.go h6 ?_; clear h6 a6
   refine sfFunc1 ⟨_, hg5, rfl, rfl⟩ rfl rfl ?_
   refine sbTypes 1 hW3 ⟨_, hg5, rfl, rfl⟩ rfl rfl rfl rfl ?_
   refine sfFunc1 ⟨_, hg5, rfl, rfl⟩ rfl rfl ?_
   refine sbTypes 0 hW3 ⟨_, hg5, rfl, rfl⟩ rfl rfl rfl rfl ?_
   refine sc_3 cf82 hW3 (eqTypes_any (Lay.below hx.out.params hW3.bel) (Lay.below hy.out.params hW3.bel) hs.out.2.1) ⟨_, hg5, rfl, rfl⟩ rfl rfl rfl rfl ?_
   clear hW3; intro w8 hW8
   refine sp trivial rfl rfl rfl ?_
   refine sm trivial rfl rfl ?_
   intro a9 h9
   rcases Bool.eq_false_or_eq_true (bdec (x.params = y.params)) with hb | hb
   ·rw [hb] at h9
    have hc10 : (x.params = y.params) := bdec_iff.1 hb
    clear hb
    refine St.go h9 ?_; clear h9 a9
    refine sfFunc2 ⟨_, hg12, rfl, rfl⟩ rfl rfl ?_
    refine sbTypes 1 hW8 ⟨_, hg12, rfl, rfl⟩ rfl rfl rfl rfl ?_
    refine sfFunc2 ⟨_, hg12, rfl, rfl⟩ rfl rfl ?_
    refine sbTypes 0 hW8 ⟨_, hg12, rfl, rfl⟩ rfl rfl rfl rfl ?_
    refine sc_3 cf82 hW8 (eqTypes_any (Lay.below hx.out.results hW8.bel) (Lay.below hy.out.results hW8.bel) hs.out.2.2.1) ⟨_, hg12, rfl, rfl⟩ rfl rfl rfl rfl ?_
    clear hW8; intro w11 hW11
    refine sp trivial rfl rfl rfl ?_
    refine sm trivial rfl rfl ?_
    intro a12 h12
    rcases Bool.eq_false_or_eq_true (bdec (x.results = y.results)) with hb | hb
    ·rw [hb] at h12
     have hc13 : (x.results = y.results) := bdec_iff.1 hb
     clear hb
     refine St.go h12 ?_; clear h12 a12
     refine sfFunc3 ⟨_, hg19, rfl, rfl⟩ rfl rfl ?_
     refine sbBlocks 1 hW11 ⟨_, hg19, rfl, rfl⟩ rfl rfl rfl rfl ?_
     refine sfFunc3 ⟨_, hg19, rfl, rfl⟩ rfl rfl ?_
     refine sbBlocks 0 hW11 ⟨_, hg19, rfl, rfl⟩ rfl rfl rfl rfl ?_
     refine sc_3 cf84 hW11 (eqBlock_any (Lay.below hx.out.blocks hW11.bel) (Lay.below hy.out.blocks hW11.bel) ⟨by have := hs.out.1; omega, hs.out.2.2.2⟩) ⟨_, hg19, rfl, rfl⟩ rfl rfl rfl rfl ?_
     clear hW11; intro w14 hW14
     refine sp trivial rfl rfl rfl ?_
     refine sa trivial rfl rfl ?_
     refine St.nil fun a15 h15 => ?_
     refine hK5 _ _ ?_
     refine wp_ret ?_
     repeat (first | with_reducible refine of_then_ret ?_ | with_reducible refine of_block_ret ?_)
     have R : x.blocks = y.blocks ↔ x = y := ⟨fun h => MFunc.eq_of hc7.out hc10 hc13 h, fun e => by rw [e]⟩
     exact ret_tmp (t := 4) h15 rfl rfl ⟨by rw [bdec_congr R], hW14.bel⟩
    ·rw [hb] at h12
     have hc16 : ¬ (x.results = y.results) := fun h => by rw [bdec_true h] at hb; cases hb
     clear hb
     refine St.go h12 ?_; clear h12 a12
     refine so hg19 rfl rfl rfl rfl ?_
     refine so hg19 rfl rfl rfl rfl ?_
     refine so hg19 rfl rfl rfl rfl ?_
     refine so hg19 rfl rfl rfl rfl ?_
     refine so hg19 rfl rfl rfl rfl ?_
     refine spf trivial rfl rfl rfl ?_
     refine sa trivial rfl rfl ?_
     refine St.nil fun a17 h17 => ?_
     refine hK5 _ _ ?_
     refine wp_ret ?_
     repeat (first | with_reducible refine of_then_ret ?_ | with_reducible refine of_block_ret ?_)
     have R : ¬ x = y := fun e => hc16 (by rw [e])
     exact ret_tmp (t := 4) h17 rfl rfl ⟨by rw [bdec_false R], hW11.bel⟩
   ·rw [hb] at h9
    have hc18 : ¬ (x.params = y.params) := fun h => by rw [bdec_true h] at hb; cases hb
    clear hb
    refine St.go h9 ?_; clear h9 a9
    refine so hg12 rfl rfl rfl rfl ?_
    refine so hg12 rfl rfl rfl rfl ?_
    refine so hg12 rfl rfl rfl rfl ?_
    refine so hg12 rfl rfl rfl rfl ?_
    refine so hg12 rfl rfl rfl rfl ?_
    refine spf trivial rfl rfl rfl ?_
    refine sm trivial rfl rfl ?_
    refine so hg19 rfl rfl rfl rfl ?_
    refine so hg19 rfl rfl rfl rfl ?_
    refine so hg19 rfl rfl rfl rfl ?_
    refine so hg19 rfl rfl rfl rfl ?_
    refine so hg19 rfl rfl rfl rfl ?_
    refine spf trivial rfl rfl rfl ?_
    refine sa trivial rfl rfl ?_
    refine St.nil fun a19 h19 => ?_
    refine hK5 _ _ ?_
    refine wp_ret ?_
    repeat (first | with_reducible refine of_then_ret ?_ | with_reducible refine of_block_ret ?_)
    have R : ¬ x = y := fun e => hc18 (by rw [e])
    exact ret_tmp (t := 4) h19 rfl rfl ⟨by rw [bdec_false R], hW8.bel⟩
  ·rw [hb] at h6
   have h9 : ¬ x.regs = y.regs := ne_of_beq_false hb
   have hc20 : ¬ x.regs = y.regs := h9
   clear h9
   clear hb
   refine St.go h6 ?_; clear h6 a6
   refine so hg5 rfl rfl rfl rfl ?_
   refine so hg5 rfl rfl rfl rfl ?_
   refine so hg5 rfl rfl rfl rfl ?_
   refine so hg5 rfl rfl rfl rfl ?_
   refine so hg5 rfl rfl rfl rfl ?_
   refine spf trivial rfl rfl rfl ?_
   refine sm trivial rfl rfl ?_
   refine so hg12 rfl rfl rfl rfl ?_
   refine so hg12 rfl rfl rfl rfl ?_
   refine so hg12 rfl rfl rfl rfl ?_
   refine so hg12 rfl rfl rfl rfl ?_
   refine so hg12 rfl rfl rfl rfl ?_
   refine spf trivial rfl rfl rfl ?_
   refine sm trivial rfl rfl ?_
   refine so hg19 rfl rfl rfl rfl ?_
   refine so hg19 rfl rfl rfl rfl ?_
   refine so hg19 rfl rfl rfl rfl ?_
   refine so hg19 rfl rfl rfl rfl ?_
   refine so hg19 rfl rfl rfl rfl ?_
   refine spf trivial rfl rfl rfl ?_
   refine sa trivial rfl rfl ?_
   refine St.nil fun a21 h21 => ?_
   refine hK5 _ _ ?_
   refine wp_ret ?_
   repeat (first | with_reducible refine of_then_ret ?_ | with_reducible refine of_block_ret ?_)
   have R : ¬ x = y := fun e => hc20 (by rw [e])
   exact ret_tmp (t := 4) h21 rfl rfl ⟨by rw [bdec_false R], hW3.bel⟩

set_option maxHeartbeats 4000000 in
set_option maxRecDepth 100000 in
theorem eqFunc_any {n : Nat} {l m : List (MFunc n)} {p p2 : Option Addr} {c d : Nat} {w : World} (hl0 : (modL n).In w All l [.slice p l.length c]) (hm0 : (modL n).In w All m [.slice p2 m.length d]) (hs0 : l.length ≤ 200 ∧ ∀ x ∈ l, x.small) :
    Rd Try.prog 55 #[.slice p l.length c, .slice p2 m.length d, .func (.func 56) #[] #[]] w (.bool (bdec (l = m))) := by
  have hlb := hs0.1
  have hl : Hid _ := hl0
  have hm : Hid _ := hm0
  have hs : Hid _ := hs0.2
  clear hl0 hm0 hs0
  refine fr_enter (n := 32) Try.func55 rfl rfl rfl ?_
  intro a hF
  have hW := Wd.start w
  replace hF : Fr 32 a [(0, .slice p l.length c), (1, .slice p2 m.length d), (2, .func (.func 56) #[] #[])] := hF
  refine wp_seq_k ?_
  intro K1 hK1
  refine fr_region ?_
  intro ops hops
  clear hops
  refine St.go hF ?_; clear hF a
  refine sa trivial rfl rfl ?_
  refine St.nil fun a2 h2 => ?_
  refine hK1 _ _ ?_
  refine wp_seq_k ?_
  intro K3 hK3
  refine wp_seq_k ?_
  intro K4 hK4
  refine fr_region ?_
  intro ops hops
  clear hops
  refine St.go h2 ?_; clear h2 a2
  refine sm trivial rfl rfl ?_
  refine slFuncs trivial rfl rfl ?_
  refine sm trivial rfl rfl ?_
  refine slFuncs trivial rfl rfl ?_
  refine sne trivial rfl rfl rfl ?_
  refine St.nil fun a5 h5 => ?_
  refine hK4 _ _ ?_
  refine fr_cond (t := 14) h5 rfl (fun hb => ?_) (fun hb => ?_)
  ·have h9 : ¬ l.length = m.length := by have h8 := bne_iff_ne.1 hb; omega
   have hlen : ¬ l.length = m.length := h9
   clear h9
   clear hb
   refine wp_seq_k ?_
   intro K6 hK6
   refine fr_region ?_
   intro ops hops
   clear hops
   refine St.go h5 ?_; clear h5 a5
   refine sa trivial rfl rfl ?_
   refine St.nil fun a7 h7 => ?_
   refine hK6 _ _ ?_
   refine wp_ret ?_
   repeat (first | with_reducible refine of_then_ret ?_ | with_reducible refine of_block_ret ?_)
   have R : ¬ l = m := fun e => hlen (by rw [e])
   exact ret_tmp (t := 6) h7 rfl rfl ⟨by rw [bdec_false R], hW.bel⟩
  ·have h9 : l.length = m.length := by have h8 := bne_eq_false_iff_eq.1 hb; omega
   have hlen : Hid (l.length = m.length) := h9
   clear h9
   clear hb
   refine wp_skip ?_
   refine hK3 _ _ ?_
   refine wp_seq_k ?_
   intro K8 hK8
   refine wp_seq_k ?_
   intro K9 hK9
   refine fr_region ?_
   intro ops hops
   clear hops
   refine St.go h5 ?_; clear h5 a5
   refine sm trivial rfl rfl ?_
   refine slFuncs trivial rfl rfl ?_
   refine sm trivial rfl rfl ?_
   refine St.nil fun a10 h10 => ?_
   refine hK9 _ _ ?_
   refine wp_block ?_
   refine fr_loop (fun r a w' => ∃ q : Nat, q ≤ l.length ∧ r = l.length - q ∧ (∀ j, j < q → l[j]? = m[j]?) ∧ Fr 32 a [(2, .func (.func 56) #[] #[]), (1, .slice p2 m.length d), (0, .slice p l.length c), (6, .bool false), (15, .slice p l.length c), (16, .int .i64 (l.length : Int)), (17, .int .i64 (q : Int))] ∧ Wd w w' []) (l.length) ⟨0, Nat.zero_le _, rfl, (fun j hj => by omega), (h10.keep (h10.keep (h10.keep (h10.keep (h10.keep (h10.keep (h10.keep h10.nil (t := 17) rfl) (t := 16) rfl) (t := 15) rfl) (t := 6) rfl) (t := 0) rfl) (t := 1) rfl) (t := 2) rfl), hW⟩ ?_
   clear h10 hW
   rintro r a11 w11 ⟨q, hq, hr, hall, hF11, hW11⟩ KL hKL
   refine wp_seq_k ?_
   intro K12 hK12
   refine fr_region ?_
   intro ops hops
   clear hops
   refine St.go hF11 ?_; clear hF11 a11
   refine slt trivial rfl rfl rfl ?_
   refine St.nil fun a13 h13 => ?_
   refine hK12 _ _ ?_
   refine wp_seq_k ?_
   intro K14 hK14
   refine fr_cond (t := 18) h13 rfl (fun hb => ?_) (fun hb => ?_)
   ·have hlt1 : q < l.length := by have := of_decide_eq_true hb; omega
    have hlt2 : q < m.length := by have := hlen.out; omega
    clear hb
    obtain ⟨x, hx1⟩ : ∃ v9, (l)[q]? = some v9 := ⟨_, List.getElem?_eq_getElem hlt1⟩
    obtain ⟨g1, o1, f1, hp1, E1, In1⟩ := func_at hl.out hx1
    replace In1 : Hid _ := In1
    replace hp1 : Hid _ := hp1
    replace hx1 : Hid _ := hx1
    replace E1 : Hid _ := E1
    obtain ⟨y, hx2⟩ : ∃ v9, (m)[q]? = some v9 := ⟨_, List.getElem?_eq_getElem hlt2⟩
    obtain ⟨g2, o2, f2, hp2, E2, In2⟩ := func_at hm.out hx2
    replace In2 : Hid _ := In2
    replace hp2 : Hid _ := hp2
    replace hx2 : Hid _ := hx2
    replace E2 : Hid _ := E2
    refine wp_skip ?_
    refine hK14 _ _ ?_
    refine wp_seq_k ?_
    intro K15 hK15
    refine wp_block ?_
    refine wp_seq_k ?_
    intro K16 hK16
    refine fr_region ?_
    intro ops hops
    clear hops
    refine St.go h13 ?_; clear h13 a13
    refine sm trivial rfl rfl ?_
    refine siFuncs hp1.out hlt1 trivial rfl rfl rfl ?_
    refine sSE Try.underlying50 rfl (rangeAt_bel E1.out hW11.bel) infFunc trivial rfl rfl ?_
    refine sAFunc hW11 trivial rfl ?_
    clear hW11; intro w17 B17 hW17 hN; clear hN
    refine sa trivial rfl rfl ?_
    refine sT 0 hW17 rfl rfl infFunc rfl rfl rfl ?_
    clear hW17; intro w18 hW18
    refine St.nil fun a19 h19 => ?_
    refine hK16 _ _ ?_
    refine wp_seq_k ?_
    intro K20 hK20
    refine fr_region ?_
    intro ops hops
    clear hops
    refine St.go h19 ?_; clear h19 a19
    refine sm trivial rfl rfl ?_
    refine sm trivial rfl rfl ?_
    refine siFuncs hp2.out hlt2 trivial rfl rfl rfl ?_
    refine sSE Try.underlying50 rfl (rangeAt_bel E2.out hW18.bel) infFunc trivial rfl rfl ?_
    refine sAFunc hW18 trivial rfl ?_
    clear hW18; intro w21 B21 hW21 hN; clear hN
    refine sT 0 hW21 rfl rfl infFunc rfl rfl rfl ?_
    clear hW21; intro w22 hW22
    refine St.nil fun a23 h23 => ?_
    refine hK20 _ _ ?_
    refine wp_seq_k ?_
    intro K24 hK24
    refine fr_region ?_
    intro ops hops
    clear hops
    refine St.go h23 ?_; clear h23 a23
    refine sm trivial rfl rfl ?_
    refine sS 1 4 Try.underlying50 rfl infFunc hW22 trivial rfl rfl rfl rfl ?_
    refine sS 0 4 Try.underlying50 rfl infFunc hW22 trivial rfl rfl rfl rfl ?_
    refine sv_20 cf56 hW22 (cSameFunc_any (In1.out.below hW22.bel) (In2.out.below hW22.bel) (hs.out _ (List.mem_of_getElem? hx1.out))) trivial rfl rfl rfl rfl ?_
    clear hW22; intro w25 hW25
    refine sn trivial rfl rfl ?_
    refine St.nil fun a26 h26 => ?_
    refine hK24 _ _ ?_
    refine fr_cond (t := 30) h26 rfl (fun hb => ?_) (fun hb => ?_)
    ·have hb : (bdec (x = y)) = false := by simpa using hb
     have hel : ¬ (x = y) := fun h => by rw [bdec_true h] at hb; cases hb
     clear hb
     refine wp_seq_k ?_
     intro K27 hK27
     refine fr_region ?_
     intro ops hops
     clear hops
     refine St.go h26 ?_; clear h26 a26
     refine sa trivial rfl rfl ?_
     refine St.nil fun a28 h28 => ?_
     refine hK27 _ _ ?_
     refine wp_ret ?_
     repeat (first | with_reducible refine of_then_ret ?_ | with_reducible refine of_block_ret ?_)
     have R : ¬ l = m := by
       intro e
       have h1 := hx1.out
       rw [e, hx2.out] at h1
       exact hel (Option.some.inj h1).symm
     exact ret_tmp (t := 6) h28 rfl rfl ⟨by rw [bdec_false R], hW25.bel⟩
    ·have hb : (bdec (x = y)) = true := by simpa using hb
     have hel : (x = y) := bdec_iff.1 hb
     clear hb
     refine wp_skip ?_
     refine hK15 _ _ ?_
     refine fr_region ?_
     intro ops hops
     clear hops
     refine St.go h26 ?_; clear h26 a26
     refine sad (by omega) trivial rfl rfl rfl ?_
     refine sm trivial rfl rfl ?_
     refine St.nil fun a29 h29 => ?_
     refine hKL _ _ (l.length - (q + 1)) (by omega) ⟨q + 1, by omega, rfl, ?_, (h29.keep (h29.keep (h29.keep (h29.keep (h29.keep (h29.keep (h29.keep h29.nil (t := 17) rfl) (t := 16) rfl) (t := 15) rfl) (t := 6) rfl) (t := 0) rfl) (t := 1) rfl) (t := 2) rfl), hW25.tail.tail⟩
     ·intro j hj
      by_cases e : j = q
      · subst e; rw [hx1.out, hx2.out, hel]
      · exact hall j (by omega)
   ·have hge : q = l.length := by have := of_decide_eq_false hb; omega
    clear hb
    refine wp_exit ?_
    refine hK8 _ _ ?_
    refine wp_seq_k ?_
    intro K30 hK30
    refine fr_region ?_
    intro ops hops
    clear hops
    refine St.go h13 ?_; clear h13 a13
    refine sa trivial rfl rfl ?_
    refine St.nil fun a31 h31 => ?_
    refine hK30 _ _ ?_
    refine wp_ret ?_
    repeat (first | with_reducible refine of_then_ret ?_ | with_reducible refine of_block_ret ?_)
    have R : l = m := by
      have := hlen.out
      refine List.ext_getElem? fun i => ?_
      by_cases hi : i < q
      · exact hall i hi
      · rw [List.getElem?_eq_none (by omega), List.getElem?_eq_none (by omega)]
    exact ret_tmp (t := 6) h31 rfl rfl ⟨by rw [bdec_true R], hW11.bel⟩

set_option maxHeartbeats 4000000 in
set_option maxRecDepth 100000 in
theorem cSame_any {n : Nat} {m k : List (MFunc n)} {p q : Option Addr} {c d : Nat} {w : World} (hx0 : (modL n).In w All m [.slice p m.length c]) (hy0 : (modL n).In w All k [.slice q k.length d]) (hs0 : msmall m) :
    Rd Try.prog 19 #[.agg #[.slice p m.length c], .agg #[.slice q k.length d]] w (.bool (bdec (m = k))) := by
  have hx : Hid _ := hx0
  have hy : Hid _ := hy0
  have hs : Hid _ := hs0
  clear hx0 hy0 hs0
  refine fr_enter (n := 10) Try.func19 rfl rfl rfl ?_
  intro a hF
  have hW := Wd.start w
  replace hF : Fr 10 a [(0, .agg #[.slice p m.length c]), (1, .agg #[.slice q k.length d])] := hF
  refine wp_seq_k ?_
  intro K1 hK1
  refine fr_region ?_
  intro ops hops
  clear hops
  refine St.go hF ?_; clear hF a
  refine sB hW trivial rfl rfl ?_
  clear hW; intro w2 B2 hW2 hN; clear hN
  refine sB hW2 trivial rfl rfl ?_
  clear hW2; intro w3 B3 hW3 hN; clear hN
  refine sa trivial rfl rfl ?_
  refine St.nil fun a4 h4 => ?_
  refine hK1 _ _ ?_
  refine wp_seq_k ?_
  intro K5 hK5
  refine fr_region ?_
  intro ops hops
  clear hops
  refine St.go h4 ?_; clear h4 a4
  refine sfModule0 trivial rfl rfl ?_
  refine sbFuncs 1 hW3 trivial rfl rfl rfl rfl ?_
  refine sfModule0 trivial rfl rfl ?_
  refine sbFuncs 0 hW3 trivial rfl rfl rfl rfl ?_
  refine sc_3 cf55 hW3 (eqFunc_any (Lay.below hx.out hW3.bel) (Lay.below hy.out hW3.bel) ⟨by have := hs.out.1; omega, hs.out.2⟩) trivial rfl rfl rfl rfl ?_
  clear hW3; intro w6 hW6
  refine sa trivial rfl rfl ?_
  refine St.nil fun a7 h7 => ?_
  refine hK5 _ _ ?_
  refine wp_ret ?_
  repeat (first | with_reducible refine of_then_ret ?_ | with_reducible refine of_block_ret ?_)
  exact ret_tmp (t := 4) h7 rfl rfl ⟨rfl, hW6.bel⟩
end Go.Proofs.Ytmnmnokkojcodab
