/-
  CodeForms: the law's walk.
-/
import Derived.Test.YtmnmnokkojcodabCodBeg
import Derived.Test.YtmnmnokkojcodabCodGreat
import Derived.Test.YtmnmnokkojcodabCodFormJ
import Derived.Test.YtmnmnokkojcodabCodFormF
namespace Go.Proofs.Ytmnmnokkojcodab
open Go.ChangeShapes Go.WideShapes Go.ChangeAt Go.RowKit
set_option linter.unusedVariables false
set_option linter.unusedSimpArgs false

set_option maxHeartbeats 4000000 in
set_option maxRecDepth 100000 in
theorem forms_any {n : Nat} {m : List (MFunc n)} {p : Option Addr} {c : Nat} {x : MIns} {i1 : IP} {f : MFunc n} {f1 : FP} {e : MEnd} {e1 : EP} {xa xb xi : Int} {w : World} (hm0 : (modL n).In w All m [.slice p m.length c]) (hx0 : IIn w All x i1) (hf0 : FIn w All f f1) (he0 : EIn w All e e1)
    (hb1 : x.regs.length < 1152921504606846976) (hb2 : x.args.length < 1152921504606846976) (hb3 : e.args.length < 1152921504606846976) (hb4 : e.yes.regs.length < 1152921504606846976) (hb5 : e.yes.args.length < 1152921504606846976) (hb6 : e.no.regs.length < 1152921504606846976) (hb7 : e.no.args.length < 1152921504606846976) :
    Rd Try.prog 5 #[.agg #[.slice p m.length c], .agg #[.int .i64 x.op, .int .i64 x.a, .int .i64 x.b, .int .i64 x.c, .int .i64 x.k, .int .i64 x.n, .slice i1.pR x.regs.length i1.cR, .slice i1.pA x.args.length i1.cA], .agg #[.int .i64 f.regs, .slice f1.pP f.params.length f1.cP, .slice f1.pR f.results.length f1.cR, .slice f1.pB f.blocks.length f1.cB], .agg #[.int .i64 e.op, .int .i64 e.a, .int .i64 e.yes.block, .slice e1.pYR e.yes.regs.length e1.cYR, .slice e1.pYA e.yes.args.length e1.cYA, .int .i64 e.no.block, .slice e1.pNR e.no.regs.length e1.cNR, .slice e1.pNA e.no.args.length e1.cNA, .slice e1.pA e.args.length e1.cA], .int .i64 xa, .int .i64 xb, .int .i64 xi] w (.bool true) := by
  have hm : Hid _ := hm0
  have hx : Hid _ := hx0
  have hf : Hid _ := hf0
  have he : Hid _ := he0
  clear hm0 hx0 hf0 he0
  refine fr_enter (n := 103) Try.func5 rfl rfl rfl ?_
  intro a hF
  have hW := Wd.start w
  replace hF : Fr 103 a [(0, .agg #[.slice p m.length c]), (1, .agg #[.int .i64 x.op, .int .i64 x.a, .int .i64 x.b, .int .i64 x.c, .int .i64 x.k, .int .i64 x.n, .slice i1.pR x.regs.length i1.cR, .slice i1.pA x.args.length i1.cA]), (2, .agg #[.int .i64 f.regs, .slice f1.pP f.params.length f1.cP, .slice f1.pR f.results.length f1.cR, .slice f1.pB f.blocks.length f1.cB]), (3, .agg #[.int .i64 e.op, .int .i64 e.a, .int .i64 e.yes.block, .slice e1.pYR e.yes.regs.length e1.cYR, .slice e1.pYA e.yes.args.length e1.cYA, .int .i64 e.no.block, .slice e1.pNR e.no.regs.length e1.cNR, .slice e1.pNA e.no.args.length e1.cNA, .slice e1.pA e.args.length e1.cA]), (4, .int .i64 xa), (5, .int .i64 xb), (6, .int .i64 xi)] := hF
  refine wp_seq_k ?_
  intro K1 hK1
  refine fr_region ?_
  intro ops hops
  clear hops
  refine St.go hF ?_; clear hF a
  refine sB hW trivial rfl rfl ?_
  clear hW; intro w2 B2 hW2 hN; clear hN
  refine sB hW2 trivial rfl rfl ?_
  clear hW2; intro w3 B3 hW3 hN; clear hN
  refine sB hW3 trivial rfl rfl ?_
  clear hW3; intro w4 B4 hW4 hN; clear hN
  refine sB hW4 trivial rfl rfl ?_
  clear hW4; intro w5 B5 hW5 hN; clear hN
  refine sa trivial rfl rfl ?_
  refine St.nil fun a6 h6 => ?_
  refine hK1 _ _ ?_
  refine wp_seq_k ?_
  intro K7 hK7
  refine wp_seq_k ?_
  intro K8 hK8
  refine fr_region ?_
  intro ops hops
  clear hops
  refine St.go h6 ?_; clear h6 a6
  refine sc_0 cf12 hW5 (begun_any w5) trivial rfl ?_
  clear hW5; intro w9 hW9
  refine sn trivial rfl rfl ?_
  refine St.nil fun a10 h10 => ?_
  refine hK8 _ _ ?_
  refine fr_false (t := 16) h10 rfl ?_
  refine wp_skip ?_
  refine hK7 _ _ ?_
  refine wp_seq_k ?_
  intro K11 hK11
  refine wp_seq_k ?_
  intro K12 hK12
  refine fr_region ?_
  intro ops hops
  have hg2 : (ops[2]?).bind (fun o : Oper => o.dst) = some 19 := hops 2
  have hg8 : (ops[8]?).bind (fun o : Oper => o.dst) = some 25 := hops 8
  clear hops
  refine St.go h10 ?_; clear h10 a10
  refine sS 3 1 Try.underlying39 rfl infModule hW9 trivial rfl rfl rfl rfl ?_
  refine sc_1 cf13 hW9 (greatModule_any n m p c w9 (Lay.below hm.out hW9.bel)) trivial rfl rfl ?_
  clear hW9; intro w13 hW13
  refine sm trivial rfl rfl ?_
  intro a14 h14
  rcases Bool.eq_false_or_eq_true (bdec (greatMod m)) with hb | hb
  ·rw [hb] at h14
   have hgM : (greatMod m) := bdec_iff.1 hb
   clear hb
   refine St.go h14 ?_; clear h14 a14
   refine so hg2 rfl rfl rfl rfl ?_
   refine so hg2 rfl rfl rfl rfl ?_
   refine so hg2 rfl rfl rfl rfl ?_
   refine so hg2 rfl rfl rfl rfl ?_
   refine sp trivial rfl rfl rfl ?_
   refine sm trivial rfl rfl ?_
   refine so hg8 rfl rfl rfl rfl ?_
   refine so hg8 rfl rfl rfl rfl ?_
   refine so hg8 rfl rfl rfl rfl ?_
   refine so hg8 rfl rfl rfl rfl ?_
   refine so hg8 rfl rfl rfl rfl ?_
   refine so hg8 rfl rfl rfl rfl ?_
   refine so hg8 rfl rfl rfl rfl ?_
   refine so hg8 rfl rfl rfl rfl ?_
   refine so hg8 rfl rfl rfl rfl ?_
   refine so hg8 rfl rfl rfl rfl ?_
   refine so hg8 rfl rfl rfl rfl ?_
   refine so hg8 rfl rfl rfl rfl ?_
   refine sp trivial rfl rfl rfl ?_
   refine St.nil fun a15 h15 => ?_
   refine hK12 _ _ ?_
   refine fr_true (t := 38) h15 rfl ?_
   refine wp_seq_k ?_
   intro K16 hK16
   refine fr_region ?_
   intro ops hops
   clear hops
   refine St.go h15 ?_; clear h15 a15
   refine sa trivial rfl rfl ?_
   refine St.nil fun a17 h17 => ?_
   refine hK16 _ _ ?_
   refine wp_ret ?_
   repeat (first | with_reducible refine of_then_ret ?_ | with_reducible refine of_block_ret ?_)
   exact ret_tmp (t := 14) h17 rfl rfl ⟨rfl, hW13.bel⟩
  ·rw [hb] at h14
   have hgM : ¬ (greatMod m) := fun h => by rw [bdec_true h] at hb; cases hb
   clear hb
   have hmb : m.length ≤ 20 := Nat.le_of_not_lt fun h => hgM (.inl h)
   refine St.go h14 ?_; clear h14 a14
   refine sS 1 4 Try.underlying50 rfl infFunc hW13 ⟨_, hg2, rfl, rfl⟩ rfl rfl rfl rfl ?_
   intro a18 h18
   refine q_row (t := 21) #[.int .i64 f.regs, .slice f1.pP f.params.length f1.cP, .slice f1.pR f.results.length f1.cR, .slice f1.pB f.blocks.length f1.cB] 50 1 h18 hW13 rfl ⟨_, hg2, rfl, rfl⟩ rfl (fun K hK => ?_) ?_
   ·have k0 : a18.tmps[20]?.getD undef = .agg #[.int .i64 f.regs, .slice f1.pP f.params.length f1.cP, .slice f1.pR f.results.length f1.cR, .slice f1.pB f.blocks.length f1.cB] := h18.sl2 20 _ rfl
    go_simp
    exact hK
   clear h18 hW13; intro a19 w20 B20 hW20 hN hF19; clear hN
   refine fr_pure_g (t := 22) (g := 2) (tg := 19) (want := false) (v := .agg #[.slice (some ⟨B20, 0, none⟩) 1 1]) (w' := w20) hF19 rfl rfl hg2 rfl rfl rfl (fun K hK => ?_) ?_
   ·have k0 : a19.tmps[21]?.getD undef = .slice (some ⟨B20, 0, none⟩) 1 1 := hF19.sl2 21 _ rfl
    go_simp
    exact hK
   clear hF19; intro a21 hF21
   refine St.go hF21 ?_; clear hF21 a21
   refine sc_1 cf13 hW20 (greatModule_any n [f] (some ⟨B20, 0, none⟩) 1 w20 (one_list (hW20.get 0 rfl) rfl (func_shut (f := f1) (hf.out.below hW20.bel)))) ⟨_, hg2, rfl, rfl⟩ rfl rfl ?_
   clear hW20; intro w22 hW22
   refine spf trivial rfl rfl rfl ?_
   refine sm trivial rfl rfl ?_
   intro a23 h23
   rcases Bool.eq_false_or_eq_true (bdec (greatMod [f])) with hb | hb
   ·rw [hb] at h23
    have hgF : (greatMod [f]) := bdec_iff.1 hb
    clear hb
    refine St.go h23 ?_; clear h23 a23
    refine so hg8 rfl rfl rfl rfl ?_
    refine so hg8 rfl rfl rfl rfl ?_
    refine so hg8 rfl rfl rfl rfl ?_
    refine so hg8 rfl rfl rfl rfl ?_
    refine so hg8 rfl rfl rfl rfl ?_
    refine so hg8 rfl rfl rfl rfl ?_
    refine so hg8 rfl rfl rfl rfl ?_
    refine so hg8 rfl rfl rfl rfl ?_
    refine so hg8 rfl rfl rfl rfl ?_
    refine so hg8 rfl rfl rfl rfl ?_
    refine so hg8 rfl rfl rfl rfl ?_
    refine so hg8 rfl rfl rfl rfl ?_
    refine sp trivial rfl rfl rfl ?_
    refine St.nil fun a24 h24 => ?_
    refine hK12 _ _ ?_
    refine fr_true (t := 38) h24 rfl ?_
    refine wp_seq_k ?_
    intro K25 hK25
    refine fr_region ?_
    intro ops hops
    clear hops
    refine St.go h24 ?_; clear h24 a24
    refine sa trivial rfl rfl ?_
    refine St.nil fun a26 h26 => ?_
    refine hK25 _ _ ?_
    refine wp_ret ?_
    repeat (first | with_reducible refine of_then_ret ?_ | with_reducible refine of_block_ret ?_)
    exact ret_tmp (t := 14) h26 rfl rfl ⟨rfl, hW22.bel⟩
   ·rw [hb] at h23
    have hgF : ¬ (greatMod [f]) := fun h => by rw [bdec_true h] at hb; cases hb
    clear hb
    have hfb : f.blocks.length ≤ 30 := Nat.le_of_not_lt fun h => hgF (.inr ⟨f, by simp, .inl h⟩)
    refine St.go h23 ?_; clear h23 a23
    refine sfIns6 ⟨_, hg8, rfl, rfl⟩ rfl rfl ?_
    refine sbInts 3 hW22 ⟨_, hg8, rfl, rfl⟩ rfl rfl rfl rfl ?_
    refine slInts ⟨_, hg8, rfl, rfl⟩ rfl rfl ?_
    refine sfIns7 ⟨_, hg8, rfl, rfl⟩ rfl rfl ?_
    refine sbInts 3 hW22 ⟨_, hg8, rfl, rfl⟩ rfl rfl rfl rfl ?_
    refine slInts ⟨_, hg8, rfl, rfl⟩ rfl rfl ?_
    intro a27 h27
    refine fr_pure_g (t := 32) (g := 8) (tg := 25) (want := false) (v := .int .i64 ((x.regs.length : Int) + (x.args.length : Int))) (w' := w22) h27 rfl rfl hg8 rfl rfl rfl (fun K hK => ?_) ?_
    ·have k0 : a27.tmps.getD 28 undef = .int .i64 (x.regs.length : Int) := h27.sl 28 _ rfl
     have k1 : a27.tmps.getD 31 undef = .int .i64 (x.args.length : Int) := h27.sl 31 _ rfl
     have hwr : IntKind.i64.wrap ((x.regs.length : Int) + (x.args.length : Int)) = (x.regs.length : Int) + (x.args.length : Int) := wrap_small _ (by omega)
     go_simp
     exact hK
    clear h27; intro a28 hF28
    refine St.go hF28 ?_; clear hF28 a28
    refine sfEnd4 ⟨_, hg8, rfl, rfl⟩ rfl rfl ?_
    refine sbInts 1 hW22 ⟨_, hg8, rfl, rfl⟩ rfl rfl rfl rfl ?_
    refine slInts ⟨_, hg8, rfl, rfl⟩ rfl rfl ?_
    intro a29 h29
    refine fr_pure_g (t := 36) (g := 8) (tg := 25) (want := false) (v := .int .i64 (((x.regs.length : Int) + (x.args.length : Int)) + (e.args.length : Int))) (w' := w22) h29 rfl rfl hg8 rfl rfl rfl (fun K hK => ?_) ?_
    ·have k0 : a29.tmps.getD 32 undef = .int .i64 ((x.regs.length : Int) + (x.args.length : Int)) := h29.sl 32 _ rfl
     have k1 : a29.tmps.getD 35 undef = .int .i64 (e.args.length : Int) := h29.sl 35 _ rfl
     have hwr : IntKind.i64.wrap (((x.regs.length : Int) + (x.args.length : Int)) + (e.args.length : Int)) = ((x.regs.length : Int) + (x.args.length : Int)) + (e.args.length : Int) := wrap_small _ (by omega)
     go_simp
     exact hK
    clear h29; intro a30 hF30
    refine St.go hF30 ?_; clear hF30 a30
    refine sgt ⟨_, hg8, rfl, rfl⟩ rfl rfl rfl ?_
    refine spf trivial rfl rfl rfl ?_
    refine St.nil fun a31 h31 => ?_
    refine hK12 _ _ ?_
    refine fr_cond (t := 38) h31 rfl (fun hb => ?_) (fun hb => ?_)
    ·have hgS : 1000 < (((x.regs.length : Int) + (x.args.length : Int)) + (e.args.length : Int)) := of_decide_eq_true hb
     clear hb
     refine wp_seq_k ?_
     intro K32 hK32
     refine fr_region ?_
     intro ops hops
     clear hops
     refine St.go h31 ?_; clear h31 a31
     refine sa trivial rfl rfl ?_
     refine St.nil fun a33 h33 => ?_
     refine hK32 _ _ ?_
     refine wp_ret ?_
     repeat (first | with_reducible refine of_then_ret ?_ | with_reducible refine of_block_ret ?_)
     exact ret_tmp (t := 14) h33 rfl rfl ⟨rfl, hW22.bel⟩
    ·have hgS : ¬ (1000 < (((x.regs.length : Int) + (x.args.length : Int)) + (e.args.length : Int))) := of_decide_eq_false hb
     clear hb
     refine wp_skip ?_
     refine hK11 _ _ ?_
     refine wp_seq_k ?_
     intro K34 hK34
     refine fr_region ?_
     intro ops hops
     clear hops
     refine St.go h31 ?_; clear h31 a31
     refine sm trivial rfl rfl ?_
     intro a35 h35
     refine fr_pure (t := 40) (v := .int .u64 (xa % 18446744073709551616)) (w' := w22) h35 rfl rfl rfl (fun K hK => ?_) ?_
     ·have k0 : a35.tmps.getD 39 undef = .int .i64 xa := h35.sl 39 _ rfl
      go_simp
      exact hK
     clear h35; intro a36 hF36
     obtain ⟨uxa, h9, h0uxa⟩ : ∃ q : Int, (xa % 18446744073709551616) = q ∧ 0 ≤ q := ⟨_, rfl, by omega⟩
     rw [h9] at hF36
     clear h9
     refine fr_pure (t := 41) (v := .int .u64 (uxa.tmod 8)) (w' := w22) hF36 rfl rfl rfl (fun K hK => ?_) ?_
     ·have k0 : a36.tmps.getD 40 undef = .int .u64 uxa := hF36.sl 40 _ rfl
      go_simp
      exact hK
     clear hF36; intro a37 hF37
     obtain ⟨fi, h9, hlfi⟩ : ∃ q : Nat, (uxa.tmod 8) = (q : Int) ∧ q < 8 := ⟨(uxa % 8).toNat, by rw [Int.tmod_eq_emod_of_nonneg h0uxa]; omega, by omega⟩
     rw [h9] at hF37
     clear h9
     refine fr_pure (t := 42) (v := .int .i64 (fi : Int)) (w' := w22) hF37 rfl rfl rfl (fun K hK => ?_) ?_
     ·have k0 : a37.tmps.getD 41 undef = .int .u64 (fi : Int) := hF37.sl 41 _ rfl
      have hwc : IntKind.i64.wrap (fi : Int) = (fi : Int) := wrap_small _ (by omega)
      go_simp
      exact hK
     clear hF37; intro a38 hF38
     refine St.go hF38 ?_; clear hF38 a38
     refine sm trivial rfl rfl ?_
     intro a39 h39
     refine fr_pure (t := 44) (v := .int .u64 (xb % 18446744073709551616)) (w' := w22) h39 rfl rfl rfl (fun K hK => ?_) ?_
     ·have k0 : a39.tmps.getD 43 undef = .int .i64 xb := h39.sl 43 _ rfl
      go_simp
      exact hK
     clear h39; intro a40 hF40
     obtain ⟨uxb, h9, h0uxb⟩ : ∃ q : Int, (xb % 18446744073709551616) = q ∧ 0 ≤ q := ⟨_, rfl, by omega⟩
     rw [h9] at hF40
     clear h9
     refine fr_pure (t := 45) (v := .int .u64 (uxb.tmod 12)) (w' := w22) hF40 rfl rfl rfl (fun K hK => ?_) ?_
     ·have k0 : a40.tmps.getD 44 undef = .int .u64 uxb := hF40.sl 44 _ rfl
      go_simp
      exact hK
     clear hF40; intro a41 hF41
     obtain ⟨bi, h9, hlbi⟩ : ∃ q : Nat, (uxb.tmod 12) = (q : Int) ∧ q < 12 := ⟨(uxb % 12).toNat, by rw [Int.tmod_eq_emod_of_nonneg h0uxb]; omega, by omega⟩
     rw [h9] at hF41
     clear h9
     refine fr_pure (t := 46) (v := .int .i64 (bi : Int)) (w' := w22) hF41 rfl rfl rfl (fun K hK => ?_) ?_
     ·have k0 : a41.tmps.getD 45 undef = .int .u64 (bi : Int) := hF41.sl 45 _ rfl
      have hwc : IntKind.i64.wrap (bi : Int) = (bi : Int) := wrap_small _ (by omega)
      go_simp
      exact hK
     clear hF41; intro a42 hF42
     refine St.go hF42 ?_; clear hF42 a42
     refine sm trivial rfl rfl ?_
     intro a43 h43
     refine fr_pure (t := 48) (v := .int .u64 (xi % 18446744073709551616)) (w' := w22) h43 rfl rfl rfl (fun K hK => ?_) ?_
     ·have k0 : a43.tmps.getD 47 undef = .int .i64 xi := h43.sl 47 _ rfl
      go_simp
      exact hK
     clear h43; intro a44 hF44
     obtain ⟨uxi, h9, h0uxi⟩ : ∃ q : Int, (xi % 18446744073709551616) = q ∧ 0 ≤ q := ⟨_, rfl, by omega⟩
     rw [h9] at hF44
     clear h9
     refine fr_pure (t := 49) (v := .int .u64 (uxi.tmod 40)) (w' := w22) hF44 rfl rfl rfl (fun K hK => ?_) ?_
     ·have k0 : a44.tmps.getD 48 undef = .int .u64 uxi := hF44.sl 48 _ rfl
      go_simp
      exact hK
     clear hF44; intro a45 hF45
     obtain ⟨qi, h9, hlqi⟩ : ∃ q : Nat, (uxi.tmod 40) = (q : Int) ∧ q < 40 := ⟨(uxi % 40).toNat, by rw [Int.tmod_eq_emod_of_nonneg h0uxi]; omega, by omega⟩
     rw [h9] at hF45
     clear h9
     refine fr_pure (t := 50) (v := .int .i64 (qi : Int)) (w' := w22) hF45 rfl rfl rfl (fun K hK => ?_) ?_
     ·have k0 : a45.tmps.getD 49 undef = .int .u64 (qi : Int) := hF45.sl 49 _ rfl
      have hwc : IntKind.i64.wrap (qi : Int) = (qi : Int) := wrap_small _ (by omega)
      go_simp
      exact hK
     clear hF45; intro a46 hF46
     refine St.go hF46 ?_; clear hF46 a46
     refine sa trivial rfl rfl ?_
     refine sa trivial rfl rfl ?_
     refine sa trivial rfl rfl ?_
     refine St.nil fun a47 h47 => ?_
     refine hK34 _ _ ?_
     refine wp_seq_k ?_
     intro K48 hK48
     have hF49 : Fr 103 a47 [(6, .int .i64 (qi : Int)), (5, .int .i64 (bi : Int)), (4, .int .i64 (fi : Int)), (3, .agg #[.int .i64 e.op, .int .i64 e.a, .int .i64 e.yes.block, .slice e1.pYR e.yes.regs.length e1.cYR, .slice e1.pYA e.yes.args.length e1.cYA, .int .i64 e.no.block, .slice e1.pNR e.no.regs.length e1.cNR, .slice e1.pNA e.no.args.length e1.cNA, .slice e1.pA e.args.length e1.cA]), (2, .agg #[.int .i64 f.regs, .slice f1.pP f.params.length f1.cP, .slice f1.pR f.results.length f1.cR, .slice f1.pB f.blocks.length f1.cB]), (1, .agg #[.int .i64 x.op, .int .i64 x.a, .int .i64 x.b, .int .i64 x.c, .int .i64 x.k, .int .i64 x.n, .slice i1.pR x.regs.length i1.cR, .slice i1.pA x.args.length i1.cA]), (0, .agg #[.slice p m.length c]), (7, .pointer (some ⟨B2, 0, none⟩)), (8, .pointer (some ⟨B3, 0, none⟩)), (9, .pointer (some ⟨B4, 0, none⟩)), (10, .pointer (some ⟨B5, 0, none⟩))] := (h47.keep (h47.keep (h47.keep (h47.keep (h47.keep (h47.keep (h47.keep (h47.keep (h47.keep (h47.keep (h47.keep h47.nil (t := 10) rfl) (t := 9) rfl) (t := 8) rfl) (t := 7) rfl) (t := 0) rfl) (t := 1) rfl) (t := 2) rfl) (t := 3) rfl) (t := 4) rfl) (t := 5) rfl) (t := 6) rfl)
     have ho7 : a47.tmps.getD 7 undef = .pointer (some ⟨B2, 0, none⟩) := h47.sl 7 _ rfl
     have ho8 : a47.tmps.getD 8 undef = .pointer (some ⟨B3, 0, none⟩) := h47.sl 8 _ rfl
     have ho9 : a47.tmps.getD 9 undef = .pointer (some ⟨B4, 0, none⟩) := h47.sl 9 _ rfl
     have ho10 : a47.tmps.getD 10 undef = .pointer (some ⟨B5, 0, none⟩) := h47.sl 10 _ rfl
     have ho4 : a47.tmps.getD 4 undef = .int .i64 (fi : Int) := h47.sl 4 _ rfl
     have ho5 : a47.tmps.getD 5 undef = .int .i64 (bi : Int) := h47.sl 5 _ rfl
     have ho6 : a47.tmps.getD 6 undef = .int .i64 (qi : Int) := h47.sl 6 _ rfl
     refine fr_draw_k 53 ([(7, fun v _ => v = .pointer (some ⟨B2, 0, none⟩)), (8, fun v _ => v = .pointer (some ⟨B3, 0, none⟩)), (9, fun v _ => v = .pointer (some ⟨B4, 0, none⟩)), (10, fun v _ => v = .pointer (some ⟨B5, 0, none⟩)), (4, fun v _ => v = .int .i64 (fi : Int)), (5, fun v _ => v = .int .i64 (bi : Int)), (6, fun v _ => v = .int .i64 (qi : Int)), (51, fun v _ => v = .agg #[.slice p m.length c]), (52, fun v _ => v = .agg #[.int .i64 x.op, .int .i64 x.a, .int .i64 x.b, .int .i64 x.c, .int .i64 x.k, .int .i64 x.n, .slice i1.pR x.regs.length i1.cR, .slice i1.pA x.args.length i1.cA]), (53, fun v _ => v = .int .i64 (MIns.form m.length x)), (54, fun v _ => v = .agg #[.slice p m.length c]), (55, fun v _ => v = .agg #[.int .i64 x.op, .int .i64 x.a, .int .i64 x.b, .int .i64 x.c, .int .i64 x.k, .int .i64 x.n, .slice i1.pR x.regs.length i1.cR, .slice i1.pA x.args.length i1.cA]), (56, fun v _ => v = .int .i64 (MIns.form m.length x)), (57, fun v _ => v = .bool true), (58, fun v _ => v = .bool true), (59, fun v _ => v = .agg #[.int .i64 f.regs, .slice f1.pP f.params.length f1.cP, .slice f1.pR f.results.length f1.cR, .slice f1.pB f.blocks.length f1.cB]), (60, fun v _ => v = .agg #[.int .i64 e.op, .int .i64 e.a, .int .i64 e.yes.block, .slice e1.pYR e.yes.regs.length e1.cYR, .slice e1.pYA e.yes.args.length e1.cYA, .int .i64 e.no.block, .slice e1.pNR e.no.regs.length e1.cNR, .slice e1.pNA e.no.args.length e1.cNA, .slice e1.pA e.args.length e1.cA]), (61, fun v _ => v = .int .i64 (MEnd.form f.blocks.length e)), (62, fun v _ => v = .agg #[.int .i64 f.regs, .slice f1.pP f.params.length f1.cP, .slice f1.pR f.results.length f1.cR, .slice f1.pB f.blocks.length f1.cB]), (63, fun v _ => v = .agg #[.int .i64 e.op, .int .i64 e.a, .int .i64 e.yes.block, .slice e1.pYR e.yes.regs.length e1.cYR, .slice e1.pYA e.yes.args.length e1.cYA, .int .i64 e.no.block, .slice e1.pNR e.no.regs.length e1.cNR, .slice e1.pNA e.no.args.length e1.cNA, .slice e1.pA e.args.length e1.cA]), (64, fun v _ => v = .int .i64 (MEnd.form f.blocks.length e)), (65, fun v _ => v = .bool true), (66, fun v _ => v = .bool true), (67, fun v _ => v = .bool true), (68, fun v _ => v = .int .i64 (fi : Int)), (69, fun v _ => v = .int .i64 (10000 * (fi : Int) + 9999)), (70, fun v _ => v = .int .i64 (fi : Int)), (71, fun v _ => v = .int .i64 (10000 * (fi : Int) + 9999)), (72, fun v _ => v = .bool true), (73, fun v _ => v = .bool true), (74, fun v _ => v = .bool true), (75, fun v _ => v = .int .i64 (fi : Int)), (76, fun v _ => v = .int .i64 (bi : Int)), (77, fun v _ => v = .int .i64 (10000 * (fi : Int) + 100 * (bi : Int) + 90)), (78, fun v _ => v = .int .i64 (fi : Int)), (79, fun v _ => v = .int .i64 (bi : Int)), (80, fun v _ => v = .int .i64 (10000 * (fi : Int) + 100 * (bi : Int) + 90)), (81, fun v _ => v = .bool true), (82, fun v _ => v = .bool true), (83, fun v _ => v = .bool true), (84, fun v _ => v = .int .i64 (fi : Int)), (85, fun v _ => v = .int .i64 (bi : Int)), (86, fun v _ => v = .int .i64 (10000 * (fi : Int) + 100 * (bi : Int) + 91)), (87, fun v _ => v = .int .i64 (fi : Int)), (88, fun v _ => v = .int .i64 (bi : Int)), (89, fun v _ => v = .int .i64 (10000 * (fi : Int) + 100 * (bi : Int) + 91)), (90, fun v _ => v = .bool true), (91, fun v _ => v = .bool true), (92, fun v _ => v = .bool true), (93, fun v _ => v = .int .i64 (fi : Int)), (94, fun v _ => v = .int .i64 (bi : Int)), (95, fun v _ => v = .int .i64 (qi : Int)), (96, fun v _ => v = .int .i64 (10000 * (fi : Int) + 100 * (bi : Int) + (qi : Int))), (97, fun v _ => v = .int .i64 (fi : Int)), (98, fun v _ => v = .int .i64 (bi : Int)), (99, fun v _ => v = .int .i64 (qi : Int)), (100, fun v _ => v = .int .i64 (10000 * (fi : Int) + 100 * (bi : Int) + (qi : Int))), (101, fun v _ => v = .bool true), (102, fun v _ => v = .bool true), (14, fun v _ => v = .bool true)] : PTab) (fun w' => Wd w w' [(B20, #[.int .i64 f.regs, .slice f1.pP f.params.length f1.cP, .slice f1.pR f.results.length f1.cR, .slice f1.pB f.blocks.length f1.cB], 50), (B5, #[.int .i64 e.op, .int .i64 e.a, .int .i64 e.yes.block, .slice e1.pYR e.yes.regs.length e1.cYR, .slice e1.pYA e.yes.args.length e1.cYA, .int .i64 e.no.block, .slice e1.pNR e.no.regs.length e1.cNR, .slice e1.pNA e.no.args.length e1.cNA, .slice e1.pA e.args.length e1.cA], 54), (B4, #[.int .i64 f.regs, .slice f1.pP f.params.length f1.cP, .slice f1.pR f.results.length f1.cR, .slice f1.pB f.blocks.length f1.cB], 50), (B3, #[.int .i64 x.op, .int .i64 x.a, .int .i64 x.b, .int .i64 x.c, .int .i64 x.k, .int .i64 x.n, .slice i1.pR x.regs.length i1.cR, .slice i1.pA x.args.length i1.cA], 46), (B2, #[.slice p m.length c], 39)] ∧ Below w22.heap.size w22 w') (fun w w' => Below w.heap.size w w') (outs := [7, 8, 9, 10, 4, 5, 6]) (gs := [(7, some true), (16, some true), (23, some true), (32, some true), (41, some true)]) (bs := [true, true, true, true, true, true, true, true, true, true, true, true, true, true, true, true, true, true, true, true, true, true, true, true, true, true, true, true, true, true, true, true, true, true, true, true, true, true, true, true, true, true, true, true, true, true, true, true, true, true, true, true, true]) (by kernel_rfl) hF49 rfl (by kernel_rfl) (by kernel_rfl) ?hR ?hG ⟨hW22.drewN 1, drewN_below (m := 1) (Below.refl _ _)⟩ ⟨ho7, ho8, ho9, ho10, ho4, ho5, ho6, trivial⟩ ?hA ?hend
     case hR => exact ⟨fun _ _ _ _ h => h, fun _ _ _ _ h => h, fun _ _ _ _ h => h, fun _ _ _ _ h => h, fun _ _ _ _ h => h, fun _ _ _ _ h => h, fun _ _ _ _ h => h, fun _ _ _ _ h => h, fun _ _ _ _ h => h, fun _ _ _ _ h => h, fun _ _ _ _ h => h, fun _ _ _ _ h => h, fun _ _ _ _ h => h, fun _ _ _ _ h => h, fun _ _ _ _ h => h, fun _ _ _ _ h => h, fun _ _ _ _ h => h, fun _ _ _ _ h => h, fun _ _ _ _ h => h, fun _ _ _ _ h => h, fun _ _ _ _ h => h, fun _ _ _ _ h => h, fun _ _ _ _ h => h, fun _ _ _ _ h => h, fun _ _ _ _ h => h, fun _ _ _ _ h => h, fun _ _ _ _ h => h, fun _ _ _ _ h => h, fun _ _ _ _ h => h, fun _ _ _ _ h => h, fun _ _ _ _ h => h, fun _ _ _ _ h => h, fun _ _ _ _ h => h, fun _ _ _ _ h => h, fun _ _ _ _ h => h, fun _ _ _ _ h => h, fun _ _ _ _ h => h, fun _ _ _ _ h => h, fun _ _ _ _ h => h, fun _ _ _ _ h => h, fun _ _ _ _ h => h, fun _ _ _ _ h => h, fun _ _ _ _ h => h, fun _ _ _ _ h => h, fun _ _ _ _ h => h, fun _ _ _ _ h => h, fun _ _ _ _ h => h, fun _ _ _ _ h => h, fun _ _ _ _ h => h, fun _ _ _ _ h => h, fun _ _ _ _ h => h, fun _ _ _ _ h => h, fun _ _ _ _ h => h, fun _ _ _ _ h => h, fun _ _ _ _ h => h, fun _ _ _ _ h => h, fun _ _ _ _ h => h, fun _ _ _ _ h => h, fun _ _ _ _ h => h, fun _ _ _ _ h => h, trivial⟩
     case hG => exact ⟨fun t ht v w _ h => by cases ht; exact h, fun t ht v w _ h => by cases ht; exact h, fun t ht v w _ h => by cases ht; exact h, fun t ht v w _ h => by cases ht; exact h, fun t ht v w _ h => by cases ht; exact h, trivial⟩
     case hA =>
      refine ⟨fun a w hW hk K hK => ?_, ?_⟩
      · obtain ⟨k0, -⟩ := hk
        have k0 : a.tmps.getD 7 undef = .pointer (some ⟨B2, 0, none⟩) := k0
        have c0 : w.cell? ⟨B2, 0, none⟩ = some (.slice p m.length c) := cellOf (hW.1.get 4 rfl) 0 _ rfl
        go_simp
        exact hK _ _ (Below.refl _ _) hW rfl
      refine ⟨fun a w hW hk K hK => ?_, ?_⟩
      · obtain ⟨k0, -⟩ := hk
        have k0 : a.tmps.getD 8 undef = .pointer (some ⟨B3, 0, none⟩) := k0
        have c0 : w.cell? ⟨B3, 0, none⟩ = some (.int .i64 x.op) := cellOf (hW.1.get 3 rfl) 0 _ rfl
        have c1 : w.cell? ⟨B3, 1, none⟩ = some (.int .i64 x.a) := cellOf (hW.1.get 3 rfl) 1 _ rfl
        have c2 : w.cell? ⟨B3, 2, none⟩ = some (.int .i64 x.b) := cellOf (hW.1.get 3 rfl) 2 _ rfl
        have c3 : w.cell? ⟨B3, 3, none⟩ = some (.int .i64 x.c) := cellOf (hW.1.get 3 rfl) 3 _ rfl
        have c4 : w.cell? ⟨B3, 4, none⟩ = some (.int .i64 x.k) := cellOf (hW.1.get 3 rfl) 4 _ rfl
        have c5 : w.cell? ⟨B3, 5, none⟩ = some (.int .i64 x.n) := cellOf (hW.1.get 3 rfl) 5 _ rfl
        have c6 : w.cell? ⟨B3, 6, none⟩ = some (.slice i1.pR x.regs.length i1.cR) := cellOf (hW.1.get 3 rfl) 6 _ rfl
        have c7 : w.cell? ⟨B3, 7, none⟩ = some (.slice i1.pA x.args.length i1.cA) := cellOf (hW.1.get 3 rfl) 7 _ rfl
        go_simp
        exact hK _ _ (Below.refl _ _) hW rfl
      refine ⟨fun a w hW hk K hK => ?_, ?_⟩
      · obtain ⟨k0, k1, -⟩ := hk
        have k0 : a.tmps.getD 51 undef = .agg #[.slice p m.length c] := k0
        have k1 : a.tmps.getD 52 undef = .agg #[.int .i64 x.op, .int .i64 x.a, .int .i64 x.b, .int .i64 x.c, .int .i64 x.k, .int .i64 x.n, .slice i1.pR x.regs.length i1.cR, .slice i1.pA x.args.length i1.cA] := k1
        have hC : Rd Try.prog 20 #[.agg #[.slice p m.length c], .agg #[.int .i64 x.op, .int .i64 x.a, .int .i64 x.b, .int .i64 x.c, .int .i64 x.k, .int .i64 x.n, .slice i1.pR x.regs.length i1.cR, .slice i1.pA x.args.length i1.cA]] w (.int .i64 (MIns.form m.length x)) := cIns_any m.length x i1 p c w (by omega)
        go_simp
        refine hC.mono ?_
        rintro e w9 ⟨rfl, hb⟩
        exact hK _ _ hb ⟨hW.1.below hb, Below.andThen hW.2 hb⟩ rfl
      refine ⟨fun a w hW hk K hK => ?_, ?_⟩
      · obtain ⟨k0, -⟩ := hk
        have k0 : a.tmps.getD 7 undef = .pointer (some ⟨B2, 0, none⟩) := k0
        have c0 : w.cell? ⟨B2, 0, none⟩ = some (.slice p m.length c) := cellOf (hW.1.get 4 rfl) 0 _ rfl
        go_simp
        exact hK _ _ (Below.refl _ _) hW rfl
      refine ⟨fun a w hW hk K hK => ?_, ?_⟩
      · obtain ⟨k0, -⟩ := hk
        have k0 : a.tmps.getD 8 undef = .pointer (some ⟨B3, 0, none⟩) := k0
        have c0 : w.cell? ⟨B3, 0, none⟩ = some (.int .i64 x.op) := cellOf (hW.1.get 3 rfl) 0 _ rfl
        have c1 : w.cell? ⟨B3, 1, none⟩ = some (.int .i64 x.a) := cellOf (hW.1.get 3 rfl) 1 _ rfl
        have c2 : w.cell? ⟨B3, 2, none⟩ = some (.int .i64 x.b) := cellOf (hW.1.get 3 rfl) 2 _ rfl
        have c3 : w.cell? ⟨B3, 3, none⟩ = some (.int .i64 x.c) := cellOf (hW.1.get 3 rfl) 3 _ rfl
        have c4 : w.cell? ⟨B3, 4, none⟩ = some (.int .i64 x.k) := cellOf (hW.1.get 3 rfl) 4 _ rfl
        have c5 : w.cell? ⟨B3, 5, none⟩ = some (.int .i64 x.n) := cellOf (hW.1.get 3 rfl) 5 _ rfl
        have c6 : w.cell? ⟨B3, 6, none⟩ = some (.slice i1.pR x.regs.length i1.cR) := cellOf (hW.1.get 3 rfl) 6 _ rfl
        have c7 : w.cell? ⟨B3, 7, none⟩ = some (.slice i1.pA x.args.length i1.cA) := cellOf (hW.1.get 3 rfl) 7 _ rfl
        go_simp
        exact hK _ _ (Below.refl _ _) hW rfl
      refine ⟨fun a w hW hk K hK => ?_, ?_⟩
      · obtain ⟨k0, k1, -⟩ := hk
        have k0 : a.tmps.getD 54 undef = .agg #[.slice p m.length c] := k0
        have k1 : a.tmps.getD 55 undef = .agg #[.int .i64 x.op, .int .i64 x.a, .int .i64 x.b, .int .i64 x.c, .int .i64 x.k, .int .i64 x.n, .slice i1.pR x.regs.length i1.cR, .slice i1.pA x.args.length i1.cA] := k1
        have hC : Rd Try.prog 21 #[.agg #[.slice p m.length c], .agg #[.int .i64 x.op, .int .i64 x.a, .int .i64 x.b, .int .i64 x.c, .int .i64 x.k, .int .i64 x.n, .slice i1.pR x.regs.length i1.cR, .slice i1.pA x.args.length i1.cA]] w (.int .i64 (MIns.form m.length x)) := insForm_any m.length x i1 p c w
        go_simp
        refine hC.mono ?_
        rintro e w9 ⟨rfl, hb⟩
        exact hK _ _ hb ⟨hW.1.below hb, Below.andThen hW.2 hb⟩ rfl
      refine ⟨fun a w hW hk K hK => ?_, ?_⟩
      · obtain ⟨k0, k1, -⟩ := hk
        have k0 : a.tmps.getD 53 undef = .int .i64 (MIns.form m.length x) := k0
        have k1 : a.tmps.getD 56 undef = .int .i64 (MIns.form m.length x) := k1
        go_simp
        exact hK _ _ (Below.refl _ _) hW rfl
      refine ⟨fun a w hW hk K hK => ?_, ?_⟩
      · obtain ⟨k0, -⟩ := hk
        have k0 : a.tmps.getD 57 undef = .bool true := k0
        go_simp
        exact hK _ _ (Below.refl _ _) hW rfl
      refine ⟨fun a w hW hk K hK => ?_, ?_⟩
      · obtain ⟨k0, -⟩ := hk
        have k0 : a.tmps.getD 9 undef = .pointer (some ⟨B4, 0, none⟩) := k0
        have c0 : w.cell? ⟨B4, 0, none⟩ = some (.int .i64 f.regs) := cellOf (hW.1.get 2 rfl) 0 _ rfl
        have c1 : w.cell? ⟨B4, 1, none⟩ = some (.slice f1.pP f.params.length f1.cP) := cellOf (hW.1.get 2 rfl) 1 _ rfl
        have c2 : w.cell? ⟨B4, 2, none⟩ = some (.slice f1.pR f.results.length f1.cR) := cellOf (hW.1.get 2 rfl) 2 _ rfl
        have c3 : w.cell? ⟨B4, 3, none⟩ = some (.slice f1.pB f.blocks.length f1.cB) := cellOf (hW.1.get 2 rfl) 3 _ rfl
        go_simp
        exact hK _ _ (Below.refl _ _) hW rfl
      refine ⟨fun a w hW hk K hK => ?_, ?_⟩
      · obtain ⟨k0, -⟩ := hk
        have k0 : a.tmps.getD 10 undef = .pointer (some ⟨B5, 0, none⟩) := k0
        have c0 : w.cell? ⟨B5, 0, none⟩ = some (.int .i64 e.op) := cellOf (hW.1.get 1 rfl) 0 _ rfl
        have c1 : w.cell? ⟨B5, 1, none⟩ = some (.int .i64 e.a) := cellOf (hW.1.get 1 rfl) 1 _ rfl
        have c2 : w.cell? ⟨B5, 2, none⟩ = some (.int .i64 e.yes.block) := cellOf (hW.1.get 1 rfl) 2 _ rfl
        have c3 : w.cell? ⟨B5, 3, none⟩ = some (.slice e1.pYR e.yes.regs.length e1.cYR) := cellOf (hW.1.get 1 rfl) 3 _ rfl
        have c4 : w.cell? ⟨B5, 4, none⟩ = some (.slice e1.pYA e.yes.args.length e1.cYA) := cellOf (hW.1.get 1 rfl) 4 _ rfl
        have c5 : w.cell? ⟨B5, 5, none⟩ = some (.int .i64 e.no.block) := cellOf (hW.1.get 1 rfl) 5 _ rfl
        have c6 : w.cell? ⟨B5, 6, none⟩ = some (.slice e1.pNR e.no.regs.length e1.cNR) := cellOf (hW.1.get 1 rfl) 6 _ rfl
        have c7 : w.cell? ⟨B5, 7, none⟩ = some (.slice e1.pNA e.no.args.length e1.cNA) := cellOf (hW.1.get 1 rfl) 7 _ rfl
        have c8 : w.cell? ⟨B5, 8, none⟩ = some (.slice e1.pA e.args.length e1.cA) := cellOf (hW.1.get 1 rfl) 8 _ rfl
        go_simp
        exact hK _ _ (Below.refl _ _) hW rfl
      refine ⟨fun a w hW hk K hK => ?_, ?_⟩
      · obtain ⟨k0, k1, -⟩ := hk
        have k0 : a.tmps.getD 59 undef = .agg #[.int .i64 f.regs, .slice f1.pP f.params.length f1.cP, .slice f1.pR f.results.length f1.cR, .slice f1.pB f.blocks.length f1.cB] := k0
        have k1 : a.tmps.getD 60 undef = .agg #[.int .i64 e.op, .int .i64 e.a, .int .i64 e.yes.block, .slice e1.pYR e.yes.regs.length e1.cYR, .slice e1.pYA e.yes.args.length e1.cYA, .int .i64 e.no.block, .slice e1.pNR e.no.regs.length e1.cNR, .slice e1.pNA e.no.args.length e1.cNA, .slice e1.pA e.args.length e1.cA] := k1
        have hC : Rd Try.prog 22 #[.agg #[.int .i64 f.regs, .slice f1.pP f.params.length f1.cP, .slice f1.pR f.results.length f1.cR, .slice f1.pB f.blocks.length f1.cB], .agg #[.int .i64 e.op, .int .i64 e.a, .int .i64 e.yes.block, .slice e1.pYR e.yes.regs.length e1.cYR, .slice e1.pYA e.yes.args.length e1.cYA, .int .i64 e.no.block, .slice e1.pNR e.no.regs.length e1.cNR, .slice e1.pNA e.no.args.length e1.cNA, .slice e1.pA e.args.length e1.cA]] w (.int .i64 (MEnd.form f.blocks.length e)) := cEnd_any (x := e) (e := e1) (fr := f.regs) (fp := f1.pP) (fl := f.params.length) (fc := f1.cP) (fq := f1.pR) (fm := f.results.length) (fd := f1.cR) (fb := f1.pB) (bl := f.blocks.length) (fe := f1.cB) (by omega) (by omega)
        go_simp
        refine hC.mono ?_
        rintro e w9 ⟨rfl, hb⟩
        exact hK _ _ hb ⟨hW.1.below hb, Below.andThen hW.2 hb⟩ rfl
      refine ⟨fun a w hW hk K hK => ?_, ?_⟩
      · obtain ⟨k0, -⟩ := hk
        have k0 : a.tmps.getD 9 undef = .pointer (some ⟨B4, 0, none⟩) := k0
        have c0 : w.cell? ⟨B4, 0, none⟩ = some (.int .i64 f.regs) := cellOf (hW.1.get 2 rfl) 0 _ rfl
        have c1 : w.cell? ⟨B4, 1, none⟩ = some (.slice f1.pP f.params.length f1.cP) := cellOf (hW.1.get 2 rfl) 1 _ rfl
        have c2 : w.cell? ⟨B4, 2, none⟩ = some (.slice f1.pR f.results.length f1.cR) := cellOf (hW.1.get 2 rfl) 2 _ rfl
        have c3 : w.cell? ⟨B4, 3, none⟩ = some (.slice f1.pB f.blocks.length f1.cB) := cellOf (hW.1.get 2 rfl) 3 _ rfl
        go_simp
        exact hK _ _ (Below.refl _ _) hW rfl
      refine ⟨fun a w hW hk K hK => ?_, ?_⟩
      · obtain ⟨k0, -⟩ := hk
        have k0 : a.tmps.getD 10 undef = .pointer (some ⟨B5, 0, none⟩) := k0
        have c0 : w.cell? ⟨B5, 0, none⟩ = some (.int .i64 e.op) := cellOf (hW.1.get 1 rfl) 0 _ rfl
        have c1 : w.cell? ⟨B5, 1, none⟩ = some (.int .i64 e.a) := cellOf (hW.1.get 1 rfl) 1 _ rfl
        have c2 : w.cell? ⟨B5, 2, none⟩ = some (.int .i64 e.yes.block) := cellOf (hW.1.get 1 rfl) 2 _ rfl
        have c3 : w.cell? ⟨B5, 3, none⟩ = some (.slice e1.pYR e.yes.regs.length e1.cYR) := cellOf (hW.1.get 1 rfl) 3 _ rfl
        have c4 : w.cell? ⟨B5, 4, none⟩ = some (.slice e1.pYA e.yes.args.length e1.cYA) := cellOf (hW.1.get 1 rfl) 4 _ rfl
        have c5 : w.cell? ⟨B5, 5, none⟩ = some (.int .i64 e.no.block) := cellOf (hW.1.get 1 rfl) 5 _ rfl
        have c6 : w.cell? ⟨B5, 6, none⟩ = some (.slice e1.pNR e.no.regs.length e1.cNR) := cellOf (hW.1.get 1 rfl) 6 _ rfl
        have c7 : w.cell? ⟨B5, 7, none⟩ = some (.slice e1.pNA e.no.args.length e1.cNA) := cellOf (hW.1.get 1 rfl) 7 _ rfl
        have c8 : w.cell? ⟨B5, 8, none⟩ = some (.slice e1.pA e.args.length e1.cA) := cellOf (hW.1.get 1 rfl) 8 _ rfl
        go_simp
        exact hK _ _ (Below.refl _ _) hW rfl
      refine ⟨fun a w hW hk K hK => ?_, ?_⟩
      · obtain ⟨k0, k1, -⟩ := hk
        have k0 : a.tmps.getD 62 undef = .agg #[.int .i64 f.regs, .slice f1.pP f.params.length f1.cP, .slice f1.pR f.results.length f1.cR, .slice f1.pB f.blocks.length f1.cB] := k0
        have k1 : a.tmps.getD 63 undef = .agg #[.int .i64 e.op, .int .i64 e.a, .int .i64 e.yes.block, .slice e1.pYR e.yes.regs.length e1.cYR, .slice e1.pYA e.yes.args.length e1.cYA, .int .i64 e.no.block, .slice e1.pNR e.no.regs.length e1.cNR, .slice e1.pNA e.no.args.length e1.cNA, .slice e1.pA e.args.length e1.cA] := k1
        have hC : Rd Try.prog 23 #[.agg #[.int .i64 f.regs, .slice f1.pP f.params.length f1.cP, .slice f1.pR f.results.length f1.cR, .slice f1.pB f.blocks.length f1.cB], .agg #[.int .i64 e.op, .int .i64 e.a, .int .i64 e.yes.block, .slice e1.pYR e.yes.regs.length e1.cYR, .slice e1.pYA e.yes.args.length e1.cYA, .int .i64 e.no.block, .slice e1.pNR e.no.regs.length e1.cNR, .slice e1.pNA e.no.args.length e1.cNA, .slice e1.pA e.args.length e1.cA]] w (.int .i64 (MEnd.form f.blocks.length e)) := endForm_any (x := e) (e := e1) (fr := f.regs) (fp := f1.pP) (fl := f.params.length) (fc := f1.cP) (fq := f1.pR) (fm := f.results.length) (fd := f1.cR) (fb := f1.pB) (bl := f.blocks.length) (fe := f1.cB) (by omega) (by omega)
        go_simp
        refine hC.mono ?_
        rintro e w9 ⟨rfl, hb⟩
        exact hK _ _ hb ⟨hW.1.below hb, Below.andThen hW.2 hb⟩ rfl
      refine ⟨fun a w hW hk K hK => ?_, ?_⟩
      · obtain ⟨k0, k1, -⟩ := hk
        have k0 : a.tmps.getD 61 undef = .int .i64 (MEnd.form f.blocks.length e) := k0
        have k1 : a.tmps.getD 64 undef = .int .i64 (MEnd.form f.blocks.length e) := k1
        go_simp
        exact hK _ _ (Below.refl _ _) hW rfl
      refine ⟨fun a w hW hk K hK => ?_, ?_⟩
      · obtain ⟨k0, k1, -⟩ := hk
        have k0 : a.tmps.getD 58 undef = .bool true := k0
        have k1 : a.tmps.getD 65 undef = .bool true := k1
        go_simp
        exact hK _ _ (Below.refl _ _) hW rfl
      refine ⟨fun a w hW hk K hK => ?_, ?_⟩
      · obtain ⟨k0, -⟩ := hk
        have k0 : a.tmps.getD 66 undef = .bool true := k0
        go_simp
        exact hK _ _ (Below.refl _ _) hW rfl
      refine ⟨fun a w hW hk K hK => ?_, ?_⟩
      · obtain ⟨k0, -⟩ := hk
        have k0 : a.tmps.getD 4 undef = .int .i64 (fi : Int) := k0
        go_simp
        exact hK _ _ (Below.refl _ _) hW rfl
      refine ⟨fun a w hW hk K hK => ?_, ?_⟩
      · obtain ⟨k0, -⟩ := hk
        have k0 : a.tmps.getD 68 undef = .int .i64 (fi : Int) := k0
        have hC : Rd Try.prog 24 #[.int .i64 (fi : Int)] w (.int .i64 (10000 * (fi : Int) + 9999)) := cFuncAt_any (f := fi) (by omega)
        go_simp
        refine hC.mono ?_
        rintro e w9 ⟨rfl, hb⟩
        exact hK _ _ hb ⟨hW.1.below hb, Below.andThen hW.2 hb⟩ rfl
      refine ⟨fun a w hW hk K hK => ?_, ?_⟩
      · obtain ⟨k0, -⟩ := hk
        have k0 : a.tmps.getD 4 undef = .int .i64 (fi : Int) := k0
        go_simp
        exact hK _ _ (Below.refl _ _) hW rfl
      refine ⟨fun a w hW hk K hK => ?_, ?_⟩
      · obtain ⟨k0, -⟩ := hk
        have k0 : a.tmps.getD 70 undef = .int .i64 (fi : Int) := k0
        have hC : Rd Try.prog 25 #[.int .i64 (fi : Int)] w (.int .i64 (10000 * (fi : Int) + 9999)) := atFunc_any (f := fi) (by omega)
        go_simp
        refine hC.mono ?_
        rintro e w9 ⟨rfl, hb⟩
        exact hK _ _ hb ⟨hW.1.below hb, Below.andThen hW.2 hb⟩ rfl
      refine ⟨fun a w hW hk K hK => ?_, ?_⟩
      · obtain ⟨k0, k1, -⟩ := hk
        have k0 : a.tmps.getD 69 undef = .int .i64 (10000 * (fi : Int) + 9999) := k0
        have k1 : a.tmps.getD 71 undef = .int .i64 (10000 * (fi : Int) + 9999) := k1
        go_simp
        exact hK _ _ (Below.refl _ _) hW rfl
      refine ⟨fun a w hW hk K hK => ?_, ?_⟩
      · obtain ⟨k0, k1, -⟩ := hk
        have k0 : a.tmps.getD 67 undef = .bool true := k0
        have k1 : a.tmps.getD 72 undef = .bool true := k1
        go_simp
        exact hK _ _ (Below.refl _ _) hW rfl
      refine ⟨fun a w hW hk K hK => ?_, ?_⟩
      · obtain ⟨k0, -⟩ := hk
        have k0 : a.tmps.getD 73 undef = .bool true := k0
        go_simp
        exact hK _ _ (Below.refl _ _) hW rfl
      refine ⟨fun a w hW hk K hK => ?_, ?_⟩
      · obtain ⟨k0, -⟩ := hk
        have k0 : a.tmps.getD 4 undef = .int .i64 (fi : Int) := k0
        go_simp
        exact hK _ _ (Below.refl _ _) hW rfl
      refine ⟨fun a w hW hk K hK => ?_, ?_⟩
      · obtain ⟨k0, -⟩ := hk
        have k0 : a.tmps.getD 5 undef = .int .i64 (bi : Int) := k0
        go_simp
        exact hK _ _ (Below.refl _ _) hW rfl
      refine ⟨fun a w hW hk K hK => ?_, ?_⟩
      · obtain ⟨k0, k1, -⟩ := hk
        have k0 : a.tmps.getD 75 undef = .int .i64 (fi : Int) := k0
        have k1 : a.tmps.getD 76 undef = .int .i64 (bi : Int) := k1
        have hC : Rd Try.prog 26 #[.int .i64 (fi : Int), .int .i64 (bi : Int)] w (.int .i64 (10000 * (fi : Int) + 100 * (bi : Int) + 90)) := cBlockAt_any (f := fi) (b := bi) (by omega)
        go_simp
        refine hC.mono ?_
        rintro e w9 ⟨rfl, hb⟩
        exact hK _ _ hb ⟨hW.1.below hb, Below.andThen hW.2 hb⟩ rfl
      refine ⟨fun a w hW hk K hK => ?_, ?_⟩
      · obtain ⟨k0, -⟩ := hk
        have k0 : a.tmps.getD 4 undef = .int .i64 (fi : Int) := k0
        go_simp
        exact hK _ _ (Below.refl _ _) hW rfl
      refine ⟨fun a w hW hk K hK => ?_, ?_⟩
      · obtain ⟨k0, -⟩ := hk
        have k0 : a.tmps.getD 5 undef = .int .i64 (bi : Int) := k0
        go_simp
        exact hK _ _ (Below.refl _ _) hW rfl
      refine ⟨fun a w hW hk K hK => ?_, ?_⟩
      · obtain ⟨k0, k1, -⟩ := hk
        have k0 : a.tmps.getD 78 undef = .int .i64 (fi : Int) := k0
        have k1 : a.tmps.getD 79 undef = .int .i64 (bi : Int) := k1
        have hC : Rd Try.prog 27 #[.int .i64 (fi : Int), .int .i64 (bi : Int)] w (.int .i64 (10000 * (fi : Int) + 100 * (bi : Int) + 90)) := atBlock_any (f := fi) (b := bi) (by omega)
        go_simp
        refine hC.mono ?_
        rintro e w9 ⟨rfl, hb⟩
        exact hK _ _ hb ⟨hW.1.below hb, Below.andThen hW.2 hb⟩ rfl
      refine ⟨fun a w hW hk K hK => ?_, ?_⟩
      · obtain ⟨k0, k1, -⟩ := hk
        have k0 : a.tmps.getD 77 undef = .int .i64 (10000 * (fi : Int) + 100 * (bi : Int) + 90) := k0
        have k1 : a.tmps.getD 80 undef = .int .i64 (10000 * (fi : Int) + 100 * (bi : Int) + 90) := k1
        go_simp
        exact hK _ _ (Below.refl _ _) hW rfl
      refine ⟨fun a w hW hk K hK => ?_, ?_⟩
      · obtain ⟨k0, k1, -⟩ := hk
        have k0 : a.tmps.getD 74 undef = .bool true := k0
        have k1 : a.tmps.getD 81 undef = .bool true := k1
        go_simp
        exact hK _ _ (Below.refl _ _) hW rfl
      refine ⟨fun a w hW hk K hK => ?_, ?_⟩
      · obtain ⟨k0, -⟩ := hk
        have k0 : a.tmps.getD 82 undef = .bool true := k0
        go_simp
        exact hK _ _ (Below.refl _ _) hW rfl
      refine ⟨fun a w hW hk K hK => ?_, ?_⟩
      · obtain ⟨k0, -⟩ := hk
        have k0 : a.tmps.getD 4 undef = .int .i64 (fi : Int) := k0
        go_simp
        exact hK _ _ (Below.refl _ _) hW rfl
      refine ⟨fun a w hW hk K hK => ?_, ?_⟩
      · obtain ⟨k0, -⟩ := hk
        have k0 : a.tmps.getD 5 undef = .int .i64 (bi : Int) := k0
        go_simp
        exact hK _ _ (Below.refl _ _) hW rfl
      refine ⟨fun a w hW hk K hK => ?_, ?_⟩
      · obtain ⟨k0, k1, -⟩ := hk
        have k0 : a.tmps.getD 84 undef = .int .i64 (fi : Int) := k0
        have k1 : a.tmps.getD 85 undef = .int .i64 (bi : Int) := k1
        have hC : Rd Try.prog 28 #[.int .i64 (fi : Int), .int .i64 (bi : Int)] w (.int .i64 (10000 * (fi : Int) + 100 * (bi : Int) + 91)) := cEndAt_any (f := fi) (b := bi) (by omega)
        go_simp
        refine hC.mono ?_
        rintro e w9 ⟨rfl, hb⟩
        exact hK _ _ hb ⟨hW.1.below hb, Below.andThen hW.2 hb⟩ rfl
      refine ⟨fun a w hW hk K hK => ?_, ?_⟩
      · obtain ⟨k0, -⟩ := hk
        have k0 : a.tmps.getD 4 undef = .int .i64 (fi : Int) := k0
        go_simp
        exact hK _ _ (Below.refl _ _) hW rfl
      refine ⟨fun a w hW hk K hK => ?_, ?_⟩
      · obtain ⟨k0, -⟩ := hk
        have k0 : a.tmps.getD 5 undef = .int .i64 (bi : Int) := k0
        go_simp
        exact hK _ _ (Below.refl _ _) hW rfl
      refine ⟨fun a w hW hk K hK => ?_, ?_⟩
      · obtain ⟨k0, k1, -⟩ := hk
        have k0 : a.tmps.getD 87 undef = .int .i64 (fi : Int) := k0
        have k1 : a.tmps.getD 88 undef = .int .i64 (bi : Int) := k1
        have hC : Rd Try.prog 29 #[.int .i64 (fi : Int), .int .i64 (bi : Int)] w (.int .i64 (10000 * (fi : Int) + 100 * (bi : Int) + 91)) := atEnd_any (f := fi) (b := bi) (by omega)
        go_simp
        refine hC.mono ?_
        rintro e w9 ⟨rfl, hb⟩
        exact hK _ _ hb ⟨hW.1.below hb, Below.andThen hW.2 hb⟩ rfl
      refine ⟨fun a w hW hk K hK => ?_, ?_⟩
      · obtain ⟨k0, k1, -⟩ := hk
        have k0 : a.tmps.getD 86 undef = .int .i64 (10000 * (fi : Int) + 100 * (bi : Int) + 91) := k0
        have k1 : a.tmps.getD 89 undef = .int .i64 (10000 * (fi : Int) + 100 * (bi : Int) + 91) := k1
        go_simp
        exact hK _ _ (Below.refl _ _) hW rfl
      refine ⟨fun a w hW hk K hK => ?_, ?_⟩
      · obtain ⟨k0, k1, -⟩ := hk
        have k0 : a.tmps.getD 83 undef = .bool true := k0
        have k1 : a.tmps.getD 90 undef = .bool true := k1
        go_simp
        exact hK _ _ (Below.refl _ _) hW rfl
      refine ⟨fun a w hW hk K hK => ?_, ?_⟩
      · obtain ⟨k0, -⟩ := hk
        have k0 : a.tmps.getD 91 undef = .bool true := k0
        go_simp
        exact hK _ _ (Below.refl _ _) hW rfl
      refine ⟨fun a w hW hk K hK => ?_, ?_⟩
      · obtain ⟨k0, -⟩ := hk
        have k0 : a.tmps.getD 4 undef = .int .i64 (fi : Int) := k0
        go_simp
        exact hK _ _ (Below.refl _ _) hW rfl
      refine ⟨fun a w hW hk K hK => ?_, ?_⟩
      · obtain ⟨k0, -⟩ := hk
        have k0 : a.tmps.getD 5 undef = .int .i64 (bi : Int) := k0
        go_simp
        exact hK _ _ (Below.refl _ _) hW rfl
      refine ⟨fun a w hW hk K hK => ?_, ?_⟩
      · obtain ⟨k0, -⟩ := hk
        have k0 : a.tmps.getD 6 undef = .int .i64 (qi : Int) := k0
        go_simp
        exact hK _ _ (Below.refl _ _) hW rfl
      refine ⟨fun a w hW hk K hK => ?_, ?_⟩
      · obtain ⟨k0, k1, k2, -⟩ := hk
        have k0 : a.tmps.getD 93 undef = .int .i64 (fi : Int) := k0
        have k1 : a.tmps.getD 94 undef = .int .i64 (bi : Int) := k1
        have k2 : a.tmps.getD 95 undef = .int .i64 (qi : Int) := k2
        have hC : Rd Try.prog 30 #[.int .i64 (fi : Int), .int .i64 (bi : Int), .int .i64 (qi : Int)] w (.int .i64 (10000 * (fi : Int) + 100 * (bi : Int) + (qi : Int))) := cInsAt_any (f := fi) (b := bi) (i := qi) (by omega)
        go_simp
        refine hC.mono ?_
        rintro e w9 ⟨rfl, hb⟩
        exact hK _ _ hb ⟨hW.1.below hb, Below.andThen hW.2 hb⟩ rfl
      refine ⟨fun a w hW hk K hK => ?_, ?_⟩
      · obtain ⟨k0, -⟩ := hk
        have k0 : a.tmps.getD 4 undef = .int .i64 (fi : Int) := k0
        go_simp
        exact hK _ _ (Below.refl _ _) hW rfl
      refine ⟨fun a w hW hk K hK => ?_, ?_⟩
      · obtain ⟨k0, -⟩ := hk
        have k0 : a.tmps.getD 5 undef = .int .i64 (bi : Int) := k0
        go_simp
        exact hK _ _ (Below.refl _ _) hW rfl
      refine ⟨fun a w hW hk K hK => ?_, ?_⟩
      · obtain ⟨k0, -⟩ := hk
        have k0 : a.tmps.getD 6 undef = .int .i64 (qi : Int) := k0
        go_simp
        exact hK _ _ (Below.refl _ _) hW rfl
      refine ⟨fun a w hW hk K hK => ?_, ?_⟩
      · obtain ⟨k0, k1, k2, -⟩ := hk
        have k0 : a.tmps.getD 97 undef = .int .i64 (fi : Int) := k0
        have k1 : a.tmps.getD 98 undef = .int .i64 (bi : Int) := k1
        have k2 : a.tmps.getD 99 undef = .int .i64 (qi : Int) := k2
        have hC : Rd Try.prog 31 #[.int .i64 (fi : Int), .int .i64 (bi : Int), .int .i64 (qi : Int)] w (.int .i64 (10000 * (fi : Int) + 100 * (bi : Int) + (qi : Int))) := atIns_any (f := fi) (b := bi) (i := qi) (by omega)
        go_simp
        refine hC.mono ?_
        rintro e w9 ⟨rfl, hb⟩
        exact hK _ _ hb ⟨hW.1.below hb, Below.andThen hW.2 hb⟩ rfl
      refine ⟨fun a w hW hk K hK => ?_, ?_⟩
      · obtain ⟨k0, k1, -⟩ := hk
        have k0 : a.tmps.getD 96 undef = .int .i64 (10000 * (fi : Int) + 100 * (bi : Int) + (qi : Int)) := k0
        have k1 : a.tmps.getD 100 undef = .int .i64 (10000 * (fi : Int) + 100 * (bi : Int) + (qi : Int)) := k1
        go_simp
        exact hK _ _ (Below.refl _ _) hW rfl
      refine ⟨fun a w hW hk K hK => ?_, ?_⟩
      · obtain ⟨k0, k1, -⟩ := hk
        have k0 : a.tmps.getD 92 undef = .bool true := k0
        have k1 : a.tmps.getD 101 undef = .bool true := k1
        go_simp
        exact hK _ _ (Below.refl _ _) hW rfl
      refine ⟨fun a w hW hk K hK => ?_, ?_⟩
      · obtain ⟨k0, -⟩ := hk
        have k0 : a.tmps.getD 102 undef = .bool true := k0
        go_simp
        exact hK _ _ (Below.refl _ _) hW rfl
      trivial
     case hend =>
      intro ops a50 w50 hWD hE hFD
      have hd14 : a50.tmps.getD 14 undef = .bool true := hE 14 rfl
      have hF50 : Fr 103 a50 [(14, .bool true), (6, .int .i64 (qi : Int)), (5, .int .i64 (bi : Int)), (4, .int .i64 (fi : Int)), (3, .agg #[.int .i64 e.op, .int .i64 e.a, .int .i64 e.yes.block, .slice e1.pYR e.yes.regs.length e1.cYR, .slice e1.pYA e.yes.args.length e1.cYA, .int .i64 e.no.block, .slice e1.pNR e.no.regs.length e1.cNR, .slice e1.pNA e.no.args.length e1.cNA, .slice e1.pA e.args.length e1.cA]), (2, .agg #[.int .i64 f.regs, .slice f1.pP f.params.length f1.cP, .slice f1.pR f.results.length f1.cR, .slice f1.pB f.blocks.length f1.cB]), (1, .agg #[.int .i64 x.op, .int .i64 x.a, .int .i64 x.b, .int .i64 x.c, .int .i64 x.k, .int .i64 x.n, .slice i1.pR x.regs.length i1.cR, .slice i1.pA x.args.length i1.cA]), (0, .agg #[.slice p m.length c]), (7, .pointer (some ⟨B2, 0, none⟩)), (8, .pointer (some ⟨B3, 0, none⟩)), (9, .pointer (some ⟨B4, 0, none⟩)), (10, .pointer (some ⟨B5, 0, none⟩))] := (hFD.cons hd14)
      clear hd14
      have hW50 : Wd w w50 [(B20, #[.int .i64 f.regs, .slice f1.pP f.params.length f1.cP, .slice f1.pR f.results.length f1.cR, .slice f1.pB f.blocks.length f1.cB], 50), (B5, #[.int .i64 e.op, .int .i64 e.a, .int .i64 e.yes.block, .slice e1.pYR e.yes.regs.length e1.cYR, .slice e1.pYA e.yes.args.length e1.cYA, .int .i64 e.no.block, .slice e1.pNR e.no.regs.length e1.cNR, .slice e1.pNA e.no.args.length e1.cNA, .slice e1.pA e.args.length e1.cA], 54), (B4, #[.int .i64 f.regs, .slice f1.pP f.params.length f1.cP, .slice f1.pR f.results.length f1.cR, .slice f1.pB f.blocks.length f1.cB], 50), (B3, #[.int .i64 x.op, .int .i64 x.a, .int .i64 x.b, .int .i64 x.c, .int .i64 x.k, .int .i64 x.n, .slice i1.pR x.regs.length i1.cR, .slice i1.pA x.args.length i1.cA], 46), (B2, #[.slice p m.length c], 39)] := hWD.1
      clear hFD hWD hE hF49 h47
      clear hW22
      refine wpList_nil ?_
      refine hK48 _ _ ?_
      refine wp_ret ?_
      repeat (first | with_reducible refine of_then_ret ?_ | with_reducible refine of_block_ret ?_)
      exact ret_tmp (t := 14) hF50 rfl rfl ⟨rfl, hW50.bel⟩
end Go.Proofs.Ytmnmnokkojcodab
