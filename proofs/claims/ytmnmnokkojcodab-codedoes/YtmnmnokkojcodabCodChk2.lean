/-
  Check: the codes of a function and of a block (package code).
-/
import Derived.Test.YtmnmnokkojcodabCodChk
namespace Go.Proofs.Ytmnmnokkojcodab
open Go.ChangeShapes Go.WideShapes Go.ChangeAt Go.RowKit
set_option linter.unusedVariables false
set_option linter.unusedSimpArgs false

/-- Where a module begins. -/
def MFunc.begins {n : Nat} (x : MFunc n) : Prop := x.regs = 0 ∧ x.params.length = 0 ∧ x.results.all (fun t => t.kind == 1) = true
def MBlock.takes {n : Nat} (fn : MFunc n) (x : MBlock n) : Prop := x.regs = fn.regs ∧ x.params = fn.params
theorem takes_no {n : Nat} {fn : MFunc n} {x : MBlock n} (h : ¬ x.takes fn) : x.regs ≠ fn.regs ∨ sameL x.params fn.params = false := by
  by_cases h1 : x.regs = fn.regs
  · refine .inr ?_
    cases e : sameL x.params fn.params with
    | false => rfl
    | true => exact absurd ⟨h1, sameL_iff.1 e⟩ h
  · exact .inl h1
theorem takes_yes {n : Nat} {fn : MFunc n} {x : MBlock n} (h : x.takes fn) : ¬ (x.regs ≠ fn.regs ∨ sameL x.params fn.params = false) := by
  rintro (h1 | h1)
  · exact h1 h.1
  · rw [sameL_iff.2 h.2] at h1; cases h1

set_option maxHeartbeats 4000000 in
set_option maxRecDepth 100000 in
theorem canBegin_any {n : Nat} {m : List (MFunc n)} {p : Option Addr} {c : Nat} {x : MFunc n} {fp : FP} {fi : Nat} {w : World} (hx0 : FIn w All x fp) (hs0 : x.small) :
    Rd Try.prog 94 #[.agg #[.slice p m.length c, .int .i64 x.regs, .slice fp.pP x.params.length fp.cP, .slice fp.pR x.results.length fp.cR, .slice fp.pB x.blocks.length fp.cB, .int .i64 (fi : Int)]] w (.bool (bdec x.begins)) := by
  have hx : Hid _ := hx0
  have hs : Hid _ := hs0
  clear hx0 hs0
  refine fr_enter (n := 21) Try.func94 rfl rfl rfl ?_
  intro a hF
  have hW := Wd.start w
  replace hF : Fr 21 a [(0, .agg #[.slice p m.length c, .int .i64 x.regs, .slice fp.pP x.params.length fp.cP, .slice fp.pR x.results.length fp.cR, .slice fp.pB x.blocks.length fp.cB, .int .i64 (fi : Int)])] := hF
  refine wp_seq_k ?_
  intro K1 hK1
  refine fr_region ?_
  intro ops hops
  clear hops
  refine St.go hF ?_; clear hF a
  refine sB hW trivial rfl rfl ?_
  clear hW; intro w2 B2 hW2 hN; clear hN
  refine sa trivial rfl rfl ?_
  refine St.nil fun a3 h3 => ?_
  refine hK1 _ _ ?_
  refine wp_seq_k ?_
  intro K4 hK4
  refine fr_region ?_
  intro ops hops
  have hg4 : (ops[4]?).bind (fun o : Oper => o.dst) = some 7 := hops 4
  have hg11 : (ops[11]?).bind (fun o : Oper => o.dst) = some 14 := hops 11
  clear hops
  refine St.go h3 ?_; clear h3 a3
  refine sffuncLook1 trivial rfl rfl ?_
  refine sfFunc0 trivial rfl rfl ?_
  refine sbInt 0 hW2 trivial rfl rfl rfl rfl ?_
  refine seq trivial rfl rfl rfl ?_
  refine sm trivial rfl rfl ?_
  intro a5 h5
  rcases Bool.eq_false_or_eq_true (x.regs == 0) with hb | hb
  ·rw [hb] at h5
   have h9 : x.regs = 0 := eq_of_beq hb
   have hc6 : Hid (x.regs = 0) := h9
   clear h9
   clear hb
   refine St.go h5 ?_; clear h5 a5
   refine sffuncLook1 ⟨_, hg4, rfl, rfl⟩ rfl rfl ?_
   refine sfFunc1 ⟨_, hg4, rfl, rfl⟩ rfl rfl ?_
   refine sbTypes 0 hW2 ⟨_, hg4, rfl, rfl⟩ rfl rfl rfl rfl ?_
   refine slTypes ⟨_, hg4, rfl, rfl⟩ rfl rfl ?_
   refine seq ⟨_, hg4, rfl, rfl⟩ rfl rfl rfl ?_
   refine sp trivial rfl rfl rfl ?_
   refine sm trivial rfl rfl ?_
   intro a7 h7
   rcases Bool.eq_false_or_eq_true ((x.params.length : Int) == 0) with hb | hb
   ·rw [hb] at h7
    have h9 : x.params.length = 0 := by have h8 := eq_of_beq hb; omega
    have hc8 : Hid (x.params.length = 0) := h9
    clear h9
    clear hb
    refine St.go h7 ?_; clear h7 a7
    refine sffuncLook1 ⟨_, hg11, rfl, rfl⟩ rfl rfl ?_
    refine sfFunc2 ⟨_, hg11, rfl, rfl⟩ rfl rfl ?_
    refine sbTypes 0 hW2 ⟨_, hg11, rfl, rfl⟩ rfl rfl rfl rfl ?_
    refine sc_2 cf108 hW2 (containsF_any (Lay.below hx.out.results hW2.bel) (by have := hs.out.2.2.1.1; omega)) ⟨_, hg11, rfl, rfl⟩ rfl rfl rfl ?_
    clear hW2; intro w9 hW9
    refine sn ⟨_, hg11, rfl, rfl⟩ rfl rfl ?_
    refine sp trivial rfl rfl rfl ?_
    refine sa trivial rfl rfl ?_
    refine St.nil fun a10 h10 => ?_
    refine hK4 _ _ ?_
    refine wp_ret ?_
    repeat (first | with_reducible refine of_then_ret ?_ | with_reducible refine of_block_ret ?_)
    have R : (!(decide (0 ≤ idxK 0 x.results))) = true ↔ x.begins := by
      have e1 := hc6.out
      have e2 := hc8.out
      have e3 := idxK_iff x.results 0
      by_cases hz : 0 ≤ idxK 0 x.results
      · simp only [hz, decide_true, Bool.not_true, Bool.false_eq_true, false_iff]
        exact fun h => e3.1 hz h.2.2
      · simp only [hz, decide_false, Bool.not_false, true_iff]
        refine ⟨e1, e2, ?_⟩
        cases e : x.results.all (fun t => t.kind == 1) with
        | true => rfl
        | false => exact absurd (e3.2 (by rw [e]; decide)) hz
    exact ret_tmp (t := 2) h10 rfl rfl ⟨by rw [← bdec_of R], hW9.bel⟩
   ·rw [hb] at h7
    have h9 : ¬ x.params.length = 0 := by have h8 := ne_of_beq_false hb; omega
    have hc11 : ¬ x.params.length = 0 := h9
    clear h9
    clear hb
    refine St.go h7 ?_; clear h7 a7
    refine so hg11 rfl rfl rfl rfl ?_
    refine so hg11 rfl rfl rfl rfl ?_
    refine so hg11 rfl rfl rfl rfl ?_
    refine so hg11 rfl rfl rfl rfl ?_
    refine so hg11 rfl rfl rfl rfl ?_
    refine spf trivial rfl rfl rfl ?_
    refine sa trivial rfl rfl ?_
    refine St.nil fun a12 h12 => ?_
    refine hK4 _ _ ?_
    refine wp_ret ?_
    repeat (first | with_reducible refine of_then_ret ?_ | with_reducible refine of_block_ret ?_)
    have R : ¬ x.begins := fun h => hc11 h.2.1
    exact ret_tmp (t := 2) h12 rfl rfl ⟨by rw [bdec_false R], hW2.bel⟩
  ·rw [hb] at h5
   have h9 : ¬ x.regs = 0 := ne_of_beq_false hb
   have hc13 : ¬ x.regs = 0 := h9
   clear h9
   clear hb
   refine St.go h5 ?_; clear h5 a5
   refine so hg4 rfl rfl rfl rfl ?_
   refine so hg4 rfl rfl rfl rfl ?_
   refine so hg4 rfl rfl rfl rfl ?_
   refine so hg4 rfl rfl rfl rfl ?_
   refine so hg4 rfl rfl rfl rfl ?_
   refine spf trivial rfl rfl rfl ?_
   refine sm trivial rfl rfl ?_
   refine so hg11 rfl rfl rfl rfl ?_
   refine so hg11 rfl rfl rfl rfl ?_
   refine so hg11 rfl rfl rfl rfl ?_
   refine so hg11 rfl rfl rfl rfl ?_
   refine so hg11 rfl rfl rfl rfl ?_
   refine spf trivial rfl rfl rfl ?_
   refine sa trivial rfl rfl ?_
   refine St.nil fun a14 h14 => ?_
   refine hK4 _ _ ?_
   refine wp_ret ?_
   repeat (first | with_reducible refine of_then_ret ?_ | with_reducible refine of_block_ret ?_)
   have R : ¬ x.begins := fun h => hc13 h.1
   exact ret_tmp (t := 2) h14 rfl rfl ⟨by rw [bdec_false R], hW2.bel⟩

set_option maxHeartbeats 4000000 in
set_option maxRecDepth 100000 in
theorem takes_any {n : Nat} {m : List (MFunc n)} {p : Option Addr} {c : Nat} {x : MFunc n} {fp : FP} {fi : Nat} {y : MBlock n} {bp : BP} {bi : Nat} {w : World} (hx0 : FIn w All x fp) (hs0 : x.small) (hy0 : BIn w All y bp) (ht0 : y.small) :
    Rd Try.prog 110 #[.agg #[.slice p m.length c, .int .i64 x.regs, .slice fp.pP x.params.length fp.cP, .slice fp.pR x.results.length fp.cR, .slice fp.pB x.blocks.length fp.cB, .int .i64 (fi : Int), .int .i64 y.regs, .slice bp.pP y.params.length bp.cP, .slice bp.pC y.code.length bp.cC, .int .i64 y.fin.op, .int .i64 y.fin.a, .int .i64 y.fin.yes.block, .slice bp.e.pYR y.fin.yes.regs.length bp.e.cYR, .slice bp.e.pYA y.fin.yes.args.length bp.e.cYA, .int .i64 y.fin.no.block, .slice bp.e.pNR y.fin.no.regs.length bp.e.cNR, .slice bp.e.pNA y.fin.no.args.length bp.e.cNA, .slice bp.e.pA y.fin.args.length bp.e.cA, .int .i64 (bi : Int)]] w (.bool (bdec (y.takes x))) := by
  have hx : Hid _ := hx0
  have hs : Hid _ := hs0
  have hy : Hid _ := hy0
  have ht : Hid _ := ht0
  clear hx0 hs0 hy0 ht0
  refine fr_enter (n := 21) Try.func110 rfl rfl rfl ?_
  intro a hF
  have hW := Wd.start w
  replace hF : Fr 21 a [(0, .agg #[.slice p m.length c, .int .i64 x.regs, .slice fp.pP x.params.length fp.cP, .slice fp.pR x.results.length fp.cR, .slice fp.pB x.blocks.length fp.cB, .int .i64 (fi : Int), .int .i64 y.regs, .slice bp.pP y.params.length bp.cP, .slice bp.pC y.code.length bp.cC, .int .i64 y.fin.op, .int .i64 y.fin.a, .int .i64 y.fin.yes.block, .slice bp.e.pYR y.fin.yes.regs.length bp.e.cYR, .slice bp.e.pYA y.fin.yes.args.length bp.e.cYA, .int .i64 y.fin.no.block, .slice bp.e.pNR y.fin.no.regs.length bp.e.cNR, .slice bp.e.pNA y.fin.no.args.length bp.e.cNA, .slice bp.e.pA y.fin.args.length bp.e.cA, .int .i64 (bi : Int)])] := hF
  refine wp_seq_k ?_
  intro K1 hK1
  refine fr_region ?_
  intro ops hops
  clear hops
  refine St.go hF ?_; clear hF a
  refine sB hW trivial rfl rfl ?_
  clear hW; intro w2 B2 hW2 hN; clear hN
  refine sa trivial rfl rfl ?_
  refine St.nil fun a3 h3 => ?_
  refine hK1 _ _ ?_
  refine wp_seq_k ?_
  intro K4 hK4
  refine fr_region ?_
  intro ops hops
  have hg8 : (ops[8]?).bind (fun o : Oper => o.dst) = some 11 := hops 8
  clear hops
  refine St.go h3 ?_; clear h3 a3
  refine sfblockLook1 trivial rfl rfl ?_
  refine sfBlock0 trivial rfl rfl ?_
  refine sbInt 0 hW2 trivial rfl rfl rfl rfl ?_
  refine sfblockLook0 trivial rfl rfl ?_
  refine sffuncLook1 trivial rfl rfl ?_
  refine sfFunc0 trivial rfl rfl ?_
  refine sbInt 0 hW2 trivial rfl rfl rfl rfl ?_
  refine seq trivial rfl rfl rfl ?_
  refine sm trivial rfl rfl ?_
  intro a5 h5
  rcases Bool.eq_false_or_eq_true (y.regs == x.regs) with hb | hb
  ·rw [hb] at h5
   have h9 : y.regs = x.regs := eq_of_beq hb
   have hc6 : Hid (y.regs = x.regs) := h9
   clear h9
   clear hb
   refine St.go h5 ?_; clear h5 a5
   refine sfblockLook1 ⟨_, hg8, rfl, rfl⟩ rfl rfl ?_
   refine sfBlock1 ⟨_, hg8, rfl, rfl⟩ rfl rfl ?_
   refine sbTypes 0 hW2 ⟨_, hg8, rfl, rfl⟩ rfl rfl rfl rfl ?_
   refine sfblockLook0 ⟨_, hg8, rfl, rfl⟩ rfl rfl ?_
   refine sffuncLook1 ⟨_, hg8, rfl, rfl⟩ rfl rfl ?_
   refine sfFunc1 ⟨_, hg8, rfl, rfl⟩ rfl rfl ?_
   refine sbTypes 0 hW2 ⟨_, hg8, rfl, rfl⟩ rfl rfl rfl rfl ?_
   refine sc_3 cf82 hW2 (eqTypes_any (Lay.below hy.out.params hW2.bel) (Lay.below hx.out.params hW2.bel) ht.out.2.1) ⟨_, hg8, rfl, rfl⟩ rfl rfl rfl rfl ?_
   clear hW2; intro w7 hW7
   refine sp trivial rfl rfl rfl ?_
   refine sa trivial rfl rfl ?_
   refine St.nil fun a8 h8 => ?_
   refine hK4 _ _ ?_
   refine wp_ret ?_
   repeat (first | with_reducible refine of_then_ret ?_ | with_reducible refine of_block_ret ?_)
   have R : y.params = x.params ↔ y.takes x := ⟨fun h => ⟨hc6.out, h⟩, fun h => h.2⟩
   exact ret_tmp (t := 2) h8 rfl rfl ⟨by rw [bdec_congr R], hW7.bel⟩
  ·rw [hb] at h5
   have h9 : ¬ y.regs = x.regs := ne_of_beq_false hb
   have hc9 : ¬ y.regs = x.regs := h9
   clear h9
   clear hb
   refine St.go h5 ?_; clear h5 a5
   refine so hg8 rfl rfl rfl rfl ?_
   refine so hg8 rfl rfl rfl rfl ?_
   refine so hg8 rfl rfl rfl rfl ?_
   refine so hg8 rfl rfl rfl rfl ?_
   refine so hg8 rfl rfl rfl rfl ?_
   refine so hg8 rfl rfl rfl rfl ?_
   refine so hg8 rfl rfl rfl rfl ?_
   refine so hg8 rfl rfl rfl rfl ?_
   refine spf trivial rfl rfl rfl ?_
   refine sa trivial rfl rfl ?_
   refine St.nil fun a10 h10 => ?_
   refine hK4 _ _ ?_
   refine wp_ret ?_
   repeat (first | with_reducible refine of_then_ret ?_ | with_reducible refine of_block_ret ?_)
   have R : ¬ y.takes x := fun h => hc9 h.1
   exact ret_tmp (t := 2) h10 rfl rfl ⟨by rw [bdec_false R], hW2.bel⟩

set_option maxHeartbeats 4000000 in
set_option maxRecDepth 100000 in
theorem funcCode_any {n : Nat} {m : List (MFunc n)} {p : Option Addr} {c : Nat} {x : MFunc n} {fp : FP} {fi : Nat} {w : World} (hx0 : FIn w All x fp) (hs0 : x.small) :
    Rd Try.prog 69 #[.agg #[.slice p m.length c, .int .i64 x.regs, .slice fp.pP x.params.length fp.cP, .slice fp.pR x.results.length fp.cR, .slice fp.pB x.blocks.length fp.cB, .int .i64 (fi : Int)]] w (.int .i64 (x.code fi)) := by
  have hx : Hid _ := hx0
  have hs : Hid _ := hs0
  clear hx0 hs0
  refine fr_enter (n := 55) Try.func69 rfl rfl rfl ?_
  intro a hF
  have hW := Wd.start w
  replace hF : Fr 55 a [(0, .agg #[.slice p m.length c, .int .i64 x.regs, .slice fp.pP x.params.length fp.cP, .slice fp.pR x.results.length fp.cR, .slice fp.pB x.blocks.length fp.cB, .int .i64 (fi : Int)])] := hF
  refine wp_seq_k ?_
  intro K1 hK1
  refine fr_region ?_
  intro ops hops
  clear hops
  refine St.go hF ?_; clear hF a
  refine sB hW trivial rfl rfl ?_
  clear hW; intro w2 B2 hW2 hN; clear hN
  refine sa trivial rfl rfl ?_
  refine St.nil fun a3 h3 => ?_
  refine hK1 _ _ ?_
  refine wp_seq_k ?_
  intro K4 hK4
  refine wp_seq_k ?_
  intro K5 hK5
  refine fr_region ?_
  intro ops hops
  have hg4 : (ops[4]?).bind (fun o : Oper => o.dst) = some 9 := hops 4
  clear hops
  refine St.go h3 ?_; clear h3 a3
  refine sffuncLook1 trivial rfl rfl ?_
  refine sfFunc0 trivial rfl rfl ?_
  refine sbInt 0 hW2 trivial rfl rfl rfl rfl ?_
  refine slt trivial rfl rfl rfl ?_
  refine sm trivial rfl rfl ?_
  intro a6 h6
  rcases Bool.eq_false_or_eq_true (decide (x.regs < 0)) with hb | hb
  ·rw [hb] at h6
   have hc7 : x.regs < 0 := of_decide_eq_true hb
   clear hb
   refine St.go h6 ?_; clear h6 a6
   refine so hg4 rfl rfl rfl rfl ?_
   refine so hg4 rfl rfl rfl rfl ?_
   refine so hg4 rfl rfl rfl rfl ?_
   refine so hg4 rfl rfl rfl rfl ?_
   refine sp trivial rfl rfl rfl ?_
   refine St.nil fun a8 h8 => ?_
   refine hK5 _ _ ?_
   refine fr_true (t := 14) h8 rfl ?_
   refine wp_seq_k ?_
   intro K9 hK9
   refine fr_region ?_
   intro ops hops
   clear hops
   refine St.go h8 ?_; clear h8 a8
   refine sa trivial rfl rfl ?_
   refine St.nil fun a10 h10 => ?_
   refine hK9 _ _ ?_
   refine wp_ret ?_
   repeat (first | with_reducible refine of_then_ret ?_ | with_reducible refine of_block_ret ?_)
   have R : x.code fi = 1 := if_pos (by omega)
   exact ret_tmp (t := 2) h10 rfl rfl ⟨by rw [R], hW2.bel⟩
  ·rw [hb] at h6
   have hc11 : ¬ (x.regs < 0) := of_decide_eq_false hb
   clear hb
   refine St.go h6 ?_; clear h6 a6
   refine sffuncLook1 ⟨_, hg4, rfl, rfl⟩ rfl rfl ?_
   refine sfFunc0 ⟨_, hg4, rfl, rfl⟩ rfl rfl ?_
   refine sbInt 0 hW2 ⟨_, hg4, rfl, rfl⟩ rfl rfl rfl rfl ?_
   refine sgt ⟨_, hg4, rfl, rfl⟩ rfl rfl rfl ?_
   refine spf trivial rfl rfl rfl ?_
   refine St.nil fun a12 h12 => ?_
   refine hK5 _ _ ?_
   refine fr_cond (t := 14) h12 rfl (fun hb => ?_) (fun hb => ?_)
   ·have hc13 : 6 < x.regs := of_decide_eq_true hb
    clear hb
    refine wp_seq_k ?_
    intro K14 hK14
    refine fr_region ?_
    intro ops hops
    clear hops
    refine St.go h12 ?_; clear h12 a12
    refine sa trivial rfl rfl ?_
    refine St.nil fun a15 h15 => ?_
    refine hK14 _ _ ?_
    refine wp_ret ?_
    repeat (first | with_reducible refine of_then_ret ?_ | with_reducible refine of_block_ret ?_)
    have R : x.code fi = 1 := if_pos (by omega)
    exact ret_tmp (t := 2) h15 rfl rfl ⟨by rw [R], hW2.bel⟩
   ·have hc16 : ¬ (6 < x.regs) := of_decide_eq_false hb
    clear hb
    refine wp_skip ?_
    refine hK4 _ _ ?_
    refine wp_seq_k ?_
    intro K17 hK17
    refine wp_seq_k ?_
    intro K18 hK18
    refine fr_region ?_
    intro ops hops
    clear hops
    refine St.go h12 ?_; clear h12 a12
    refine sffuncLook1 trivial rfl rfl ?_
    refine sfFunc1 trivial rfl rfl ?_
    refine sbTypes 0 hW2 trivial rfl rfl rfl rfl ?_
    refine sffuncLook1 trivial rfl rfl ?_
    refine sfFunc0 trivial rfl rfl ?_
    refine sbInt 0 hW2 trivial rfl rfl rfl rfl ?_
    refine sc_2 cf93 hW2 (typesCode_any (regs := x.regs) (Lay.below hx.out.params hW2.bel) hs.out.2.1) trivial rfl rfl rfl ?_
    clear hW2; intro w19 hW19
    refine sa trivial rfl rfl ?_
    refine St.nil fun a20 h20 => ?_
    refine hK18 _ _ ?_
    refine wp_seq_k ?_
    intro K21 hK21
    refine fr_region ?_
    intro ops hops
    clear hops
    refine St.go h20 ?_; clear h20 a20
    refine sm trivial rfl rfl ?_
    refine sne trivial rfl rfl rfl ?_
    refine St.nil fun a22 h22 => ?_
    refine hK21 _ _ ?_
    refine fr_cond (t := 23) h22 rfl (fun hb => ?_) (fun hb => ?_)
    ·have h9 : ¬ (listC x.regs x.params) = 0 := bne_iff_ne.1 hb
     have hc23 : ¬ (listC x.regs x.params) = 0 := h9
     clear h9
     clear hb
     refine wp_seq_k ?_
     intro K24 hK24
     refine fr_region ?_
     intro ops hops
     clear hops
     refine St.go h22 ?_; clear h22 a22
     refine sm trivial rfl rfl ?_
     refine sa trivial rfl rfl ?_
     refine St.nil fun a25 h25 => ?_
     refine hK24 _ _ ?_
     refine wp_ret ?_
     repeat (first | with_reducible refine of_then_ret ?_ | with_reducible refine of_block_ret ?_)
     have R : x.code fi = listC x.regs x.params := (if_neg (by omega)).trans (if_pos (by omega))
     exact ret_tmp (t := 2) h25 rfl rfl ⟨by rw [R], hW19.bel⟩
    ·have h9 : (listC x.regs x.params) = 0 := bne_eq_false_iff_eq.1 hb
     have hc26 : Hid ((listC x.regs x.params) = 0) := h9
     clear h9
     clear hb
     refine wp_skip ?_
     refine hK17 _ _ ?_
     refine wp_seq_k ?_
     intro K27 hK27
     refine wp_seq_k ?_
     intro K28 hK28
     refine fr_region ?_
     intro ops hops
     clear hops
     refine St.go h22 ?_; clear h22 a22
     refine sffuncLook1 trivial rfl rfl ?_
     refine sfFunc2 trivial rfl rfl ?_
     refine sbTypes 0 hW19 trivial rfl rfl rfl rfl ?_
     refine sffuncLook1 trivial rfl rfl ?_
     refine sfFunc0 trivial rfl rfl ?_
     refine sbInt 0 hW19 trivial rfl rfl rfl rfl ?_
     refine sc_2 cf93 hW19 (typesCode_any (regs := x.regs) (Lay.below hx.out.results hW19.bel) hs.out.2.2.1) trivial rfl rfl rfl ?_
     clear hW19; intro w29 hW29
     refine sa trivial rfl rfl ?_
     refine St.nil fun a30 h30 => ?_
     refine hK28 _ _ ?_
     refine wp_seq_k ?_
     intro K31 hK31
     refine fr_region ?_
     intro ops hops
     clear hops
     refine St.go h30 ?_; clear h30 a30
     refine sm trivial rfl rfl ?_
     refine sne trivial rfl rfl rfl ?_
     refine St.nil fun a32 h32 => ?_
     refine hK31 _ _ ?_
     refine fr_cond (t := 33) h32 rfl (fun hb => ?_) (fun hb => ?_)
     ·have h9 : ¬ (listC x.regs x.results) = 0 := bne_iff_ne.1 hb
      have hc33 : ¬ (listC x.regs x.results) = 0 := h9
      clear h9
      clear hb
      refine wp_seq_k ?_
      intro K34 hK34
      refine fr_region ?_
      intro ops hops
      clear hops
      refine St.go h32 ?_; clear h32 a32
      refine sm trivial rfl rfl ?_
      refine sa trivial rfl rfl ?_
      refine St.nil fun a35 h35 => ?_
      refine hK34 _ _ ?_
      refine wp_ret ?_
      repeat (first | with_reducible refine of_then_ret ?_ | with_reducible refine of_block_ret ?_)
      have := hc26.out
      have R : x.code fi = listC x.regs x.results := (if_neg (by omega)).trans ((if_neg (by omega)).trans (if_pos (by omega)))
      exact ret_tmp (t := 2) h35 rfl rfl ⟨by rw [R], hW29.bel⟩
     ·have h9 : (listC x.regs x.results) = 0 := bne_eq_false_iff_eq.1 hb
      have hc36 : Hid ((listC x.regs x.results) = 0) := h9
      clear h9
      clear hb
      refine wp_skip ?_
      refine hK27 _ _ ?_
      refine wp_seq_k ?_
      intro K37 hK37
      refine wp_seq_k ?_
      intro K38 hK38
      refine fr_region ?_
      intro ops hops
      have hg5 : (ops[5]?).bind (fun o : Oper => o.dst) = some 40 := hops 5
      clear hops
      refine St.go h32 ?_; clear h32 a32
      refine sffuncLook1 trivial rfl rfl ?_
      refine sfFunc3 trivial rfl rfl ?_
      refine sbBlocks 0 hW29 trivial rfl rfl rfl rfl ?_
      refine slBlocks trivial rfl rfl ?_
      refine slt trivial rfl rfl rfl ?_
      refine sm trivial rfl rfl ?_
      intro a39 h39
      rcases Bool.eq_false_or_eq_true (decide ((x.blocks.length : Int) < 1)) with hb | hb
      ·rw [hb] at h39
       have hc40 : x.blocks.length < 1 := by have := of_decide_eq_true hb; omega
       clear hb
       refine St.go h39 ?_; clear h39 a39
       refine so hg5 rfl rfl rfl rfl ?_
       refine so hg5 rfl rfl rfl rfl ?_
       refine so hg5 rfl rfl rfl rfl ?_
       refine so hg5 rfl rfl rfl rfl ?_
       refine so hg5 rfl rfl rfl rfl ?_
       refine sp trivial rfl rfl rfl ?_
       refine St.nil fun a41 h41 => ?_
       refine hK38 _ _ ?_
       refine fr_true (t := 46) h41 rfl ?_
       refine wp_seq_k ?_
       intro K42 hK42
       refine fr_region ?_
       intro ops hops
       clear hops
       refine St.go h41 ?_; clear h41 a41
       refine sa trivial rfl rfl ?_
       refine St.nil fun a43 h43 => ?_
       refine hK42 _ _ ?_
       refine wp_ret ?_
       repeat (first | with_reducible refine of_then_ret ?_ | with_reducible refine of_block_ret ?_)
       have := hc26.out
       have := hc36.out
       have R : x.code fi = 2 := (if_neg (by omega)).trans ((if_neg (by omega)).trans ((if_neg (by omega)).trans (if_pos (by omega))))
       exact ret_tmp (t := 2) h43 rfl rfl ⟨by rw [R], hW29.bel⟩
      ·rw [hb] at h39
       have hc44 : ¬ (x.blocks.length < 1) := by have := of_decide_eq_false hb; omega
       clear hb
       refine St.go h39 ?_; clear h39 a39
       refine sffuncLook1 ⟨_, hg5, rfl, rfl⟩ rfl rfl ?_
       refine sfFunc3 ⟨_, hg5, rfl, rfl⟩ rfl rfl ?_
       refine sbBlocks 0 hW29 ⟨_, hg5, rfl, rfl⟩ rfl rfl rfl rfl ?_
       refine slBlocks ⟨_, hg5, rfl, rfl⟩ rfl rfl ?_
       refine sgt ⟨_, hg5, rfl, rfl⟩ rfl rfl rfl ?_
       refine spf trivial rfl rfl rfl ?_
       refine St.nil fun a45 h45 => ?_
       refine hK38 _ _ ?_
       refine fr_cond (t := 46) h45 rfl (fun hb => ?_) (fun hb => ?_)
       ·have hc46 : 12 < x.blocks.length := by have := of_decide_eq_true hb; omega
        clear hb
        refine wp_seq_k ?_
        intro K47 hK47
        refine fr_region ?_
        intro ops hops
        clear hops
        refine St.go h45 ?_; clear h45 a45
        refine sa trivial rfl rfl ?_
        refine St.nil fun a48 h48 => ?_
        refine hK47 _ _ ?_
        refine wp_ret ?_
        repeat (first | with_reducible refine of_then_ret ?_ | with_reducible refine of_block_ret ?_)
        have := hc26.out
        have := hc36.out
        have R : x.code fi = 2 := (if_neg (by omega)).trans ((if_neg (by omega)).trans ((if_neg (by omega)).trans (if_pos (by omega))))
        exact ret_tmp (t := 2) h48 rfl rfl ⟨by rw [R], hW29.bel⟩
       ·have hc49 : ¬ (12 < x.blocks.length) := by have := of_decide_eq_false hb; omega
        clear hb
        refine wp_skip ?_
        refine hK37 _ _ ?_
        refine wp_seq_k ?_
        intro K50 hK50
        refine wp_seq_k ?_
        intro K51 hK51
        refine fr_region ?_
        intro ops hops
        have hg3 : (ops[3]?).bind (fun o : Oper => o.dst) = some 50 := hops 3
        clear hops
        refine St.go h45 ?_; clear h45 a45
        refine sffuncLook2 trivial rfl rfl ?_
        refine sbInt 0 hW29 trivial rfl rfl rfl rfl ?_
        refine seq trivial rfl rfl rfl ?_
        refine sm trivial rfl rfl ?_
        intro a52 h52
        rcases Bool.eq_false_or_eq_true ((fi : Int) == 0) with hb | hb
        ·rw [hb] at h52
         have h9 : fi = 0 := by have h8 := eq_of_beq hb; omega
         have hc53 : Hid (fi = 0) := h9
         clear h9
         clear hb
         refine St.go h52 ?_; clear h52 a52
         refine sS 0 6 Try.underlying84 rfl inffuncLook hW29 ⟨_, hg3, rfl, rfl⟩ rfl rfl rfl rfl ?_
         refine sc_1 cf94 hW29 (canBegin_any (m := m) (p := p) (c := c) (fi := fi) (hx.out.below hW29.bel) hs.out) ⟨_, hg3, rfl, rfl⟩ rfl rfl ?_
         clear hW29; intro w54 hW54
         refine sn ⟨_, hg3, rfl, rfl⟩ rfl rfl ?_
         refine sp trivial rfl rfl rfl ?_
         refine St.nil fun a55 h55 => ?_
         refine hK51 _ _ ?_
         refine fr_cond (t := 54) h55 rfl (fun hb => ?_) (fun hb => ?_)
         ·have hb : (bdec (x.begins)) = false := by simpa using hb
          have hc56 : ¬ (x.begins) := fun h => by rw [bdec_true h] at hb; cases hb
          clear hb
          refine wp_seq_k ?_
          intro K57 hK57
          refine fr_region ?_
          intro ops hops
          clear hops
          refine St.go h55 ?_; clear h55 a55
          refine sa trivial rfl rfl ?_
          refine St.nil fun a58 h58 => ?_
          refine hK57 _ _ ?_
          refine wp_ret ?_
          repeat (first | with_reducible refine of_then_ret ?_ | with_reducible refine of_block_ret ?_)
          have := hc26.out
          have := hc36.out
          have := hc53.out
          have R : x.code fi = 18 := (if_neg (by omega)).trans ((if_neg (by omega)).trans ((if_neg (by omega)).trans ((if_neg (by omega)).trans (if_pos (⟨by omega, hc56⟩)))))
          exact ret_tmp (t := 2) h58 rfl rfl ⟨by rw [R], hW54.bel⟩
         ·have hb : (bdec (x.begins)) = true := by simpa using hb
          have hc59 : (x.begins) := bdec_iff.1 hb
          clear hb
          refine wp_skip ?_
          refine hK50 _ _ ?_
          refine wp_seq_k ?_
          intro K60 hK60
          refine fr_region ?_
          intro ops hops
          clear hops
          refine St.go h55 ?_; clear h55 a55
          refine sa trivial rfl rfl ?_
          refine St.nil fun a61 h61 => ?_
          refine hK60 _ _ ?_
          refine wp_ret ?_
          repeat (first | with_reducible refine of_then_ret ?_ | with_reducible refine of_block_ret ?_)
          have := hc26.out
          have := hc36.out
          have := hc53.out
          have R : x.code fi = 0 := (if_neg (by omega)).trans ((if_neg (by omega)).trans ((if_neg (by omega)).trans ((if_neg (by omega)).trans ((if_neg (fun h => h.2 hc59)).trans (rfl)))))
          exact ret_tmp (t := 2) h61 rfl rfl ⟨by rw [R], hW54.bel⟩
        ·rw [hb] at h52
         have h9 : ¬ fi = 0 := by have h8 := ne_of_beq_false hb; omega
         have hc62 : ¬ fi = 0 := h9
         clear h9
         clear hb
         refine St.go h52 ?_; clear h52 a52
         refine so hg3 rfl rfl rfl rfl ?_
         refine so hg3 rfl rfl rfl rfl ?_
         refine so hg3 rfl rfl rfl rfl ?_
         refine spf trivial rfl rfl rfl ?_
         refine St.nil fun a63 h63 => ?_
         refine hK51 _ _ ?_
         refine fr_false (t := 54) h63 rfl ?_
         refine wp_skip ?_
         refine hK50 _ _ ?_
         refine wp_seq_k ?_
         intro K64 hK64
         refine fr_region ?_
         intro ops hops
         clear hops
         refine St.go h63 ?_; clear h63 a63
         refine sa trivial rfl rfl ?_
         refine St.nil fun a65 h65 => ?_
         refine hK64 _ _ ?_
         refine wp_ret ?_
         repeat (first | with_reducible refine of_then_ret ?_ | with_reducible refine of_block_ret ?_)
         have := hc26.out
         have := hc36.out
         have R : x.code fi = 0 := (if_neg (by omega)).trans ((if_neg (by omega)).trans ((if_neg (by omega)).trans ((if_neg (by omega)).trans ((if_neg (by omega)).trans (rfl)))))
         exact ret_tmp (t := 2) h65 rfl rfl ⟨by rw [R], hW29.bel⟩

set_option maxHeartbeats 4000000 in
set_option maxRecDepth 100000 in
theorem blockCode_any {n : Nat} {m : List (MFunc n)} {p : Option Addr} {c : Nat} {x : MFunc n} {fp : FP} {fi : Nat} {y : MBlock n} {bp : BP} {bi : Nat} {w : World} (hx0 : FIn w All x fp) (hs0 : x.small) (hy0 : BIn w All y bp) (ht0 : y.small) :
    Rd Try.prog 95 #[.agg #[.slice p m.length c, .int .i64 x.regs, .slice fp.pP x.params.length fp.cP, .slice fp.pR x.results.length fp.cR, .slice fp.pB x.blocks.length fp.cB, .int .i64 (fi : Int), .int .i64 y.regs, .slice bp.pP y.params.length bp.cP, .slice bp.pC y.code.length bp.cC, .int .i64 y.fin.op, .int .i64 y.fin.a, .int .i64 y.fin.yes.block, .slice bp.e.pYR y.fin.yes.regs.length bp.e.cYR, .slice bp.e.pYA y.fin.yes.args.length bp.e.cYA, .int .i64 y.fin.no.block, .slice bp.e.pNR y.fin.no.regs.length bp.e.cNR, .slice bp.e.pNA y.fin.no.args.length bp.e.cNA, .slice bp.e.pA y.fin.args.length bp.e.cA, .int .i64 (bi : Int)]] w (.int .i64 (y.code' x bi)) := by
  have hx : Hid _ := hx0
  have hs : Hid _ := hs0
  have hy : Hid _ := hy0
  have ht : Hid _ := ht0
  clear hx0 hs0 hy0 ht0
  refine fr_enter (n := 41) Try.func95 rfl rfl rfl ?_
  intro a hF
  have hW := Wd.start w
  replace hF : Fr 41 a [(0, .agg #[.slice p m.length c, .int .i64 x.regs, .slice fp.pP x.params.length fp.cP, .slice fp.pR x.results.length fp.cR, .slice fp.pB x.blocks.length fp.cB, .int .i64 (fi : Int), .int .i64 y.regs, .slice bp.pP y.params.length bp.cP, .slice bp.pC y.code.length bp.cC, .int .i64 y.fin.op, .int .i64 y.fin.a, .int .i64 y.fin.yes.block, .slice bp.e.pYR y.fin.yes.regs.length bp.e.cYR, .slice bp.e.pYA y.fin.yes.args.length bp.e.cYA, .int .i64 y.fin.no.block, .slice bp.e.pNR y.fin.no.regs.length bp.e.cNR, .slice bp.e.pNA y.fin.no.args.length bp.e.cNA, .slice bp.e.pA y.fin.args.length bp.e.cA, .int .i64 (bi : Int)])] := hF
  refine wp_seq_k ?_
  intro K1 hK1
  refine fr_region ?_
  intro ops hops
  clear hops
  refine St.go hF ?_; clear hF a
  refine sB hW trivial rfl rfl ?_
  clear hW; intro w2 B2 hW2 hN; clear hN
  refine sa trivial rfl rfl ?_
  refine St.nil fun a3 h3 => ?_
  refine hK1 _ _ ?_
  refine wp_seq_k ?_
  intro K4 hK4
  refine wp_seq_k ?_
  intro K5 hK5
  refine fr_region ?_
  intro ops hops
  have hg8 : (ops[8]?).bind (fun o : Oper => o.dst) = some 12 := hops 8
  clear hops
  refine St.go h3 ?_; clear h3 a3
  refine sfblockLook1 trivial rfl rfl ?_
  refine sfBlock0 trivial rfl rfl ?_
  refine sbInt 0 hW2 trivial rfl rfl rfl rfl ?_
  refine sfblockLook0 trivial rfl rfl ?_
  refine sffuncLook1 trivial rfl rfl ?_
  refine sfFunc0 trivial rfl rfl ?_
  refine sbInt 0 hW2 trivial rfl rfl rfl rfl ?_
  refine slt trivial rfl rfl rfl ?_
  refine sm trivial rfl rfl ?_
  intro a6 h6
  rcases Bool.eq_false_or_eq_true (decide (y.regs < x.regs)) with hb | hb
  ·rw [hb] at h6
   have hc7 : y.regs < x.regs := of_decide_eq_true hb
   clear hb
   refine St.go h6 ?_; clear h6 a6
   refine so hg8 rfl rfl rfl rfl ?_
   refine so hg8 rfl rfl rfl rfl ?_
   refine so hg8 rfl rfl rfl rfl ?_
   refine so hg8 rfl rfl rfl rfl ?_
   refine sp trivial rfl rfl rfl ?_
   refine St.nil fun a8 h8 => ?_
   refine hK5 _ _ ?_
   refine fr_true (t := 17) h8 rfl ?_
   refine wp_seq_k ?_
   intro K9 hK9
   refine fr_region ?_
   intro ops hops
   clear hops
   refine St.go h8 ?_; clear h8 a8
   refine sa trivial rfl rfl ?_
   refine St.nil fun a10 h10 => ?_
   refine hK9 _ _ ?_
   refine wp_ret ?_
   repeat (first | with_reducible refine of_then_ret ?_ | with_reducible refine of_block_ret ?_)
   have R : y.code' x bi = 1 := if_pos (by omega)
   exact ret_tmp (t := 2) h10 rfl rfl ⟨by rw [R], hW2.bel⟩
  ·rw [hb] at h6
   have hc11 : ¬ (y.regs < x.regs) := of_decide_eq_false hb
   clear hb
   refine St.go h6 ?_; clear h6 a6
   refine sfblockLook1 ⟨_, hg8, rfl, rfl⟩ rfl rfl ?_
   refine sfBlock0 ⟨_, hg8, rfl, rfl⟩ rfl rfl ?_
   refine sbInt 0 hW2 ⟨_, hg8, rfl, rfl⟩ rfl rfl rfl rfl ?_
   refine sgt ⟨_, hg8, rfl, rfl⟩ rfl rfl rfl ?_
   refine spf trivial rfl rfl rfl ?_
   refine St.nil fun a12 h12 => ?_
   refine hK5 _ _ ?_
   refine fr_cond (t := 17) h12 rfl (fun hb => ?_) (fun hb => ?_)
   ·have hc13 : 16 < y.regs := of_decide_eq_true hb
    clear hb
    refine wp_seq_k ?_
    intro K14 hK14
    refine fr_region ?_
    intro ops hops
    clear hops
    refine St.go h12 ?_; clear h12 a12
    refine sa trivial rfl rfl ?_
    refine St.nil fun a15 h15 => ?_
    refine hK14 _ _ ?_
    refine wp_ret ?_
    repeat (first | with_reducible refine of_then_ret ?_ | with_reducible refine of_block_ret ?_)
    have R : y.code' x bi = 1 := if_pos (by omega)
    exact ret_tmp (t := 2) h15 rfl rfl ⟨by rw [R], hW2.bel⟩
   ·have hc16 : ¬ (16 < y.regs) := of_decide_eq_false hb
    clear hb
    refine wp_skip ?_
    refine hK4 _ _ ?_
    refine wp_seq_k ?_
    intro K17 hK17
    refine wp_seq_k ?_
    intro K18 hK18
    refine fr_region ?_
    intro ops hops
    clear hops
    refine St.go h12 ?_; clear h12 a12
    refine sfblockLook1 trivial rfl rfl ?_
    refine sfBlock1 trivial rfl rfl ?_
    refine sbTypes 0 hW2 trivial rfl rfl rfl rfl ?_
    refine sfblockLook1 trivial rfl rfl ?_
    refine sfBlock0 trivial rfl rfl ?_
    refine sbInt 0 hW2 trivial rfl rfl rfl rfl ?_
    refine sc_2 cf93 hW2 (typesCode_any (regs := y.regs) (Lay.below hy.out.params hW2.bel) ht.out.2.1) trivial rfl rfl rfl ?_
    clear hW2; intro w19 hW19
    refine sa trivial rfl rfl ?_
    refine St.nil fun a20 h20 => ?_
    refine hK18 _ _ ?_
    refine wp_seq_k ?_
    intro K21 hK21
    refine fr_region ?_
    intro ops hops
    clear hops
    refine St.go h20 ?_; clear h20 a20
    refine sm trivial rfl rfl ?_
    refine sne trivial rfl rfl rfl ?_
    refine St.nil fun a22 h22 => ?_
    refine hK21 _ _ ?_
    refine fr_cond (t := 26) h22 rfl (fun hb => ?_) (fun hb => ?_)
    ·have h9 : ¬ (listC y.regs y.params) = 0 := bne_iff_ne.1 hb
     have hc23 : ¬ (listC y.regs y.params) = 0 := h9
     clear h9
     clear hb
     refine wp_seq_k ?_
     intro K24 hK24
     refine fr_region ?_
     intro ops hops
     clear hops
     refine St.go h22 ?_; clear h22 a22
     refine sm trivial rfl rfl ?_
     refine sa trivial rfl rfl ?_
     refine St.nil fun a25 h25 => ?_
     refine hK24 _ _ ?_
     refine wp_ret ?_
     repeat (first | with_reducible refine of_then_ret ?_ | with_reducible refine of_block_ret ?_)
     have R : y.code' x bi = listC y.regs y.params := (if_neg (by omega)).trans (if_pos (by omega))
     exact ret_tmp (t := 2) h25 rfl rfl ⟨by rw [R], hW19.bel⟩
    ·have h9 : (listC y.regs y.params) = 0 := bne_eq_false_iff_eq.1 hb
     have hc26 : Hid ((listC y.regs y.params) = 0) := h9
     clear h9
     clear hb
     refine wp_skip ?_
     refine hK17 _ _ ?_
     refine wp_seq_k ?_
     intro K27 hK27
     refine wp_seq_k ?_
     intro K28 hK28
     refine fr_region ?_
     intro ops hops
     have hg3 : (ops[3]?).bind (fun o : Oper => o.dst) = some 31 := hops 3
     clear hops
     refine St.go h22 ?_; clear h22 a22
     refine sfblockLook2 trivial rfl rfl ?_
     refine sbInt 0 hW19 trivial rfl rfl rfl rfl ?_
     refine seq trivial rfl rfl rfl ?_
     refine sm trivial rfl rfl ?_
     intro a29 h29
     rcases Bool.eq_false_or_eq_true ((bi : Int) == 0) with hb | hb
     ·rw [hb] at h29
      have h9 : bi = 0 := by have h8 := eq_of_beq hb; omega
      have hc30 : Hid (bi = 0) := h9
      clear h9
      clear hb
      refine St.go h29 ?_; clear h29 a29
      refine sS 0 19 Try.underlying113 rfl infblockLook hW19 ⟨_, hg3, rfl, rfl⟩ rfl rfl rfl rfl ?_
      refine sc_1 cf110 hW19 (takes_any (m := m) (p := p) (c := c) (fi := fi) (bi := bi) (hx.out.below hW19.bel) hs.out (hy.out.below hW19.bel) ht.out) ⟨_, hg3, rfl, rfl⟩ rfl rfl ?_
      clear hW19; intro w31 hW31
      refine sn ⟨_, hg3, rfl, rfl⟩ rfl rfl ?_
      refine sp trivial rfl rfl rfl ?_
      refine St.nil fun a32 h32 => ?_
      refine hK28 _ _ ?_
      refine fr_cond (t := 35) h32 rfl (fun hb => ?_) (fun hb => ?_)
      ·have hb : (bdec (y.takes x)) = false := by simpa using hb
       have hc33 : ¬ (y.takes x) := fun h => by rw [bdec_true h] at hb; cases hb
       clear hb
       refine wp_seq_k ?_
       intro K34 hK34
       refine fr_region ?_
       intro ops hops
       clear hops
       refine St.go h32 ?_; clear h32 a32
       refine sa trivial rfl rfl ?_
       refine St.nil fun a35 h35 => ?_
       refine hK34 _ _ ?_
       refine wp_ret ?_
       repeat (first | with_reducible refine of_then_ret ?_ | with_reducible refine of_block_ret ?_)
       have := hc26.out
       have := hc30.out
       have R : y.code' x bi = 9 := (if_neg (by omega)).trans ((if_neg (by omega)).trans (if_pos (⟨by omega, takes_no hc33⟩)))
       exact ret_tmp (t := 2) h35 rfl rfl ⟨by rw [R], hW31.bel⟩
      ·have hb : (bdec (y.takes x)) = true := by simpa using hb
       have hc36 : (y.takes x) := bdec_iff.1 hb
       clear hb
       refine wp_skip ?_
       refine hK27 _ _ ?_
       refine wp_seq_k ?_
       intro K37 hK37
       refine wp_seq_k ?_
       intro K38 hK38
       refine fr_region ?_
       intro ops hops
       clear hops
       refine St.go h32 ?_; clear h32 a32
       refine sfblockLook1 trivial rfl rfl ?_
       refine sfBlock2 trivial rfl rfl ?_
       refine sbInss 0 hW31 trivial rfl rfl rfl rfl ?_
       refine slInss trivial rfl rfl ?_
       refine sgt trivial rfl rfl rfl ?_
       refine St.nil fun a39 h39 => ?_
       refine hK38 _ _ ?_
       refine fr_cond (t := 40) h39 rfl (fun hb => ?_) (fun hb => ?_)
       ·have hc40 : 40 < y.code.length := by have := of_decide_eq_true hb; omega
        clear hb
        refine wp_seq_k ?_
        intro K41 hK41
        refine fr_region ?_
        intro ops hops
        clear hops
        refine St.go h39 ?_; clear h39 a39
        refine sa trivial rfl rfl ?_
        refine St.nil fun a42 h42 => ?_
        refine hK41 _ _ ?_
        refine wp_ret ?_
        repeat (first | with_reducible refine of_then_ret ?_ | with_reducible refine of_block_ret ?_)
        have := hc26.out
        have := hc30.out
        have R : y.code' x bi = 2 := (if_neg (by omega)).trans ((if_neg (by omega)).trans ((if_neg (fun h => takes_yes hc36 h.2)).trans (if_pos (by omega))))
        exact ret_tmp (t := 2) h42 rfl rfl ⟨by rw [R], hW31.bel⟩
       ·have hc43 : ¬ (40 < y.code.length) := by have := of_decide_eq_false hb; omega
        clear hb
        refine wp_skip ?_
        refine hK37 _ _ ?_
        refine wp_seq_k ?_
        intro K44 hK44
        refine fr_region ?_
        intro ops hops
        clear hops
        refine St.go h39 ?_; clear h39 a39
        refine sa trivial rfl rfl ?_
        refine St.nil fun a45 h45 => ?_
        refine hK44 _ _ ?_
        refine wp_ret ?_
        repeat (first | with_reducible refine of_then_ret ?_ | with_reducible refine of_block_ret ?_)
        have := hc26.out
        have := hc30.out
        have R : y.code' x bi = 0 := (if_neg (by omega)).trans ((if_neg (by omega)).trans ((if_neg (fun h => takes_yes hc36 h.2)).trans ((if_neg (by omega)).trans (rfl))))
        exact ret_tmp (t := 2) h45 rfl rfl ⟨by rw [R], hW31.bel⟩
     ·rw [hb] at h29
      have h9 : ¬ bi = 0 := by have h8 := ne_of_beq_false hb; omega
      have hc46 : ¬ bi = 0 := h9
      clear h9
      clear hb
      refine St.go h29 ?_; clear h29 a29
      refine so hg3 rfl rfl rfl rfl ?_
      refine so hg3 rfl rfl rfl rfl ?_
      refine so hg3 rfl rfl rfl rfl ?_
      refine spf trivial rfl rfl rfl ?_
      refine St.nil fun a47 h47 => ?_
      refine hK28 _ _ ?_
      refine fr_false (t := 35) h47 rfl ?_
      refine wp_skip ?_
      refine hK27 _ _ ?_
      refine wp_seq_k ?_
      intro K48 hK48
      refine wp_seq_k ?_
      intro K49 hK49
      refine fr_region ?_
      intro ops hops
      clear hops
      refine St.go h47 ?_; clear h47 a47
      refine sfblockLook1 trivial rfl rfl ?_
      refine sfBlock2 trivial rfl rfl ?_
      refine sbInss 0 hW19 trivial rfl rfl rfl rfl ?_
      refine slInss trivial rfl rfl ?_
      refine sgt trivial rfl rfl rfl ?_
      refine St.nil fun a50 h50 => ?_
      refine hK49 _ _ ?_
      refine fr_cond (t := 40) h50 rfl (fun hb => ?_) (fun hb => ?_)
      ·have hc51 : 40 < y.code.length := by have := of_decide_eq_true hb; omega
       clear hb
       refine wp_seq_k ?_
       intro K52 hK52
       refine fr_region ?_
       intro ops hops
       clear hops
       refine St.go h50 ?_; clear h50 a50
       refine sa trivial rfl rfl ?_
       refine St.nil fun a53 h53 => ?_
       refine hK52 _ _ ?_
       refine wp_ret ?_
       repeat (first | with_reducible refine of_then_ret ?_ | with_reducible refine of_block_ret ?_)
       have := hc26.out
       have R : y.code' x bi = 2 := (if_neg (by omega)).trans ((if_neg (by omega)).trans ((if_neg (by omega)).trans (if_pos (by omega))))
       exact ret_tmp (t := 2) h53 rfl rfl ⟨by rw [R], hW19.bel⟩
      ·have hc54 : ¬ (40 < y.code.length) := by have := of_decide_eq_false hb; omega
       clear hb
       refine wp_skip ?_
       refine hK48 _ _ ?_
       refine wp_seq_k ?_
       intro K55 hK55
       refine fr_region ?_
       intro ops hops
       clear hops
       refine St.go h50 ?_; clear h50 a50
       refine sa trivial rfl rfl ?_
       refine St.nil fun a56 h56 => ?_
       refine hK55 _ _ ?_
       refine wp_ret ?_
       repeat (first | with_reducible refine of_then_ret ?_ | with_reducible refine of_block_ret ?_)
       have := hc26.out
       have R : y.code' x bi = 0 := (if_neg (by omega)).trans ((if_neg (by omega)).trans ((if_neg (by omega)).trans ((if_neg (by omega)).trans (rfl))))
       exact ret_tmp (t := 2) h56 rfl rfl ⟨by rw [R], hW19.bel⟩
end Go.Proofs.Ytmnmnokkojcodab
