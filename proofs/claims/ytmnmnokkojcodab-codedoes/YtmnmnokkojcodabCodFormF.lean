/-
  The form of an end: the reference, and package code.
-/
import Derived.Test.YtmnmnokkojcodabCodFormE
namespace Go.Proofs.Ytmnmnokkojcodab
open Go.ChangeShapes Go.WideShapes Go.ChangeAt Go.RowKit
set_option linter.unusedVariables false
set_option linter.unusedSimpArgs false

set_option maxHeartbeats 4000000 in
set_option maxRecDepth 100000 in
theorem endForm_any {x : MEnd} {e : EP} {fr : Int} {fp fq fb : Option Addr} {fl fc fm fd bl fe : Nat} {w : World} (hs : x.yes.regs.length < 2305843009213693952 ∧ x.yes.args.length < 2305843009213693952 ∧ x.no.regs.length < 2305843009213693952 ∧ x.no.args.length < 2305843009213693952) (hbl : bl < 2305843009213693952) :
    Rd Try.prog 23 #[.agg #[.int .i64 fr, .slice fp fl fc, .slice fq fm fd, .slice fb bl fe], .agg #[.int .i64 x.op, .int .i64 x.a, .int .i64 x.yes.block, .slice e.pYR x.yes.regs.length e.cYR, .slice e.pYA x.yes.args.length e.cYA, .int .i64 x.no.block, .slice e.pNR x.no.regs.length e.cNR, .slice e.pNA x.no.args.length e.cNA, .slice e.pA x.args.length e.cA]] w (.int .i64 (x.form bl)) := by
  refine fr_enter (n := 54) Try.func23 rfl rfl rfl ?_
  intro a hF
  have hW := Wd.start w
  replace hF : Fr 54 a [(0, .agg #[.int .i64 fr, .slice fp fl fc, .slice fq fm fd, .slice fb bl fe]), (1, .agg #[.int .i64 x.op, .int .i64 x.a, .int .i64 x.yes.block, .slice e.pYR x.yes.regs.length e.cYR, .slice e.pYA x.yes.args.length e.cYA, .int .i64 x.no.block, .slice e.pNR x.no.regs.length e.cNR, .slice e.pNA x.no.args.length e.cNA, .slice e.pA x.args.length e.cA])] := hF
  refine wp_seq_k ?_
  intro K1 hK1
  refine fr_region ?_
  intro ops hops
  clear hops
  refine St.go hF ?_; clear hF a
  refine sB hW trivial rfl rfl ?_
  clear hW; intro w2 B2 hW2 hN; clear hN
  refine sB hW2 trivial rfl rfl ?_
  clear hW2; intro w3 B3 hW3 hN; clear hN
  refine sa trivial rfl rfl ?_
  refine St.nil fun a4 h4 => ?_
  refine hK1 _ _ ?_
  refine wp_seq_k ?_
  intro K5 hK5
  refine wp_seq_k ?_
  intro K6 hK6
  refine fr_region ?_
  intro ops hops
  have hg3 : (ops[3]?).bind (fun o : Oper => o.dst) = some 9 := hops 3
  clear hops
  refine St.go h4 ?_; clear h4 a4
  refine sfEnd0 trivial rfl rfl ?_
  refine sbInt 0 hW3 trivial rfl rfl rfl rfl ?_
  refine slt trivial rfl rfl rfl ?_
  refine sm trivial rfl rfl ?_
  intro a7 h7
  rcases Bool.eq_false_or_eq_true (decide (x.op < 1)) with hb | hb
  ·rw [hb] at h7
   have hc8 : x.op < 1 := of_decide_eq_true hb
   clear hb
   refine St.go h7 ?_; clear h7 a7
   refine so hg3 rfl rfl rfl rfl ?_
   refine so hg3 rfl rfl rfl rfl ?_
   refine so hg3 rfl rfl rfl rfl ?_
   refine sp trivial rfl rfl rfl ?_
   refine St.nil fun a9 h9 => ?_
   refine hK6 _ _ ?_
   refine fr_true (t := 13) h9 rfl ?_
   refine wp_seq_k ?_
   intro K10 hK10
   refine fr_region ?_
   intro ops hops
   clear hops
   refine St.go h9 ?_; clear h9 a9
   refine sa trivial rfl rfl ?_
   refine St.nil fun a11 h11 => ?_
   refine hK10 _ _ ?_
   refine wp_ret ?_
   repeat (first | with_reducible refine of_then_ret ?_ | with_reducible refine of_block_ret ?_)
   have R : x.form bl = 3 := by
    rw [endForm_eq]
    generalize x.yes.form bl (x.op != 3) = yv
    generalize x.no.form bl (x.op == 2) = zv
    first | (simp [hc8]; done) | (exfalso; have := hc8; omega)
   exact ret_tmp (t := 4) h11 rfl rfl ⟨by rw [R], hW3.bel⟩
  ·rw [hb] at h7
   have hc12 : ¬ (x.op < 1) := of_decide_eq_false hb
   clear hb
   refine St.go h7 ?_; clear h7 a7
   refine sfEnd0 ⟨_, hg3, rfl, rfl⟩ rfl rfl ?_
   refine sbInt 0 hW3 ⟨_, hg3, rfl, rfl⟩ rfl rfl rfl rfl ?_
   refine sgt ⟨_, hg3, rfl, rfl⟩ rfl rfl rfl ?_
   refine spf trivial rfl rfl rfl ?_
   refine St.nil fun a13 h13 => ?_
   refine hK6 _ _ ?_
   refine fr_cond (t := 13) h13 rfl (fun hb => ?_) (fun hb => ?_)
   ·have hc14 : 3 < x.op := of_decide_eq_true hb
    clear hb
    refine wp_seq_k ?_
    intro K15 hK15
    refine fr_region ?_
    intro ops hops
    clear hops
    refine St.go h13 ?_; clear h13 a13
    refine sa trivial rfl rfl ?_
    refine St.nil fun a16 h16 => ?_
    refine hK15 _ _ ?_
    refine wp_ret ?_
    repeat (first | with_reducible refine of_then_ret ?_ | with_reducible refine of_block_ret ?_)
    have R : x.form bl = 3 := by
     rw [endForm_eq]
     generalize x.yes.form bl (x.op != 3) = yv
     generalize x.no.form bl (x.op == 2) = zv
     first | (simp [hc12, hc14]; done) | (exfalso; have := hc12; have := hc14; omega)
    exact ret_tmp (t := 4) h16 rfl rfl ⟨by rw [R], hW3.bel⟩
   ·have hc17 : ¬ (3 < x.op) := of_decide_eq_false hb
    clear hb
    refine wp_skip ?_
    refine hK5 _ _ ?_
    refine wp_seq_k ?_
    intro K18 hK18
    refine wp_seq_k ?_
    intro K19 hK19
    refine fr_region ?_
    intro ops hops
    have hg3 : (ops[3]?).bind (fun o : Oper => o.dst) = some 17 := hops 3
    have hg8 : (ops[8]?).bind (fun o : Oper => o.dst) = some 22 := hops 8
    have hg13 : (ops[13]?).bind (fun o : Oper => o.dst) = some 27 := hops 13
    clear hops
    refine St.go h13 ?_; clear h13 a13
    refine sfEnd1 trivial rfl rfl ?_
    refine sbInt 0 hW3 trivial rfl rfl rfl rfl ?_
    refine sne trivial rfl rfl rfl ?_
    refine sm trivial rfl rfl ?_
    intro a20 h20
    rcases Bool.eq_false_or_eq_true (x.a != 0) with hb | hb
    ·rw [hb] at h20
     have h9 : ¬ x.a = 0 := bne_iff_ne.1 hb
     have hc21 : ¬ x.a = 0 := h9
     clear h9
     clear hb
     refine St.go h20 ?_; clear h20 a20
     refine sfEnd0 ⟨_, hg3, rfl, rfl⟩ rfl rfl ?_
     refine sbInt 0 hW3 ⟨_, hg3, rfl, rfl⟩ rfl rfl rfl rfl ?_
     refine sne ⟨_, hg3, rfl, rfl⟩ rfl rfl rfl ?_
     refine sp trivial rfl rfl rfl ?_
     refine sm trivial rfl rfl ?_
     intro a22 h22
     rcases Bool.eq_false_or_eq_true (x.op != 2) with hb | hb
     ·rw [hb] at h22
      have h9 : ¬ x.op = 2 := bne_iff_ne.1 hb
      have hc23 : ¬ x.op = 2 := h9
      clear h9
      clear hb
      refine St.go h22 ?_; clear h22 a22
      refine so hg8 rfl rfl rfl rfl ?_
      refine so hg8 rfl rfl rfl rfl ?_
      refine so hg8 rfl rfl rfl rfl ?_
      refine so hg8 rfl rfl rfl rfl ?_
      refine so hg8 rfl rfl rfl rfl ?_
      refine so hg13 rfl rfl rfl rfl ?_
      refine so hg13 rfl rfl rfl rfl ?_
      refine so hg13 rfl rfl rfl rfl ?_
      refine so hg8 rfl rfl rfl rfl ?_
      refine sp trivial rfl rfl rfl ?_
      refine St.nil fun a24 h24 => ?_
      refine hK19 _ _ ?_
      refine fr_true (t := 32) h24 rfl ?_
      refine wp_seq_k ?_
      intro K25 hK25
      refine fr_region ?_
      intro ops hops
      clear hops
      refine St.go h24 ?_; clear h24 a24
      refine sa trivial rfl rfl ?_
      refine St.nil fun a26 h26 => ?_
      refine hK25 _ _ ?_
      refine wp_ret ?_
      repeat (first | with_reducible refine of_then_ret ?_ | with_reducible refine of_block_ret ?_)
      have R : x.form bl = 4 := by
       rw [endForm_eq]
       generalize x.yes.form bl (x.op != 3) = yv
       generalize x.no.form bl (x.op == 2) = zv
       first | (simp [hc12, hc17, hc21, hc23]; done) | (exfalso; have := hc12; have := hc17; have := hc21; have := hc23; omega)
      exact ret_tmp (t := 4) h26 rfl rfl ⟨by rw [R], hW3.bel⟩
     ·rw [hb] at h22
      have h9 : x.op = 2 := bne_eq_false_iff_eq.1 hb
      have hc27 : Hid (x.op = 2) := h9
      clear h9
      clear hb
      refine St.go h22 ?_; clear h22 a22
      refine sfEnd4 ⟨_, hg8, rfl, rfl⟩ rfl rfl ?_
      refine sbInts 0 hW3 ⟨_, hg8, rfl, rfl⟩ rfl rfl rfl rfl ?_
      refine slInts ⟨_, hg8, rfl, rfl⟩ rfl rfl ?_
      refine sgt ⟨_, hg8, rfl, rfl⟩ rfl rfl rfl ?_
      refine sm ⟨_, hg8, rfl, rfl⟩ rfl rfl ?_
      intro a28 h28
      rcases Bool.eq_false_or_eq_true (decide (0 < (x.args.length : Int))) with hb | hb
      ·rw [hb] at h28
       have hc29 : 0 < x.args.length := by have := of_decide_eq_true hb; omega
       clear hb
       refine St.go h28 ?_; clear h28 a28
       refine sfEnd0 ⟨_, hg13, rfl, rfl⟩ rfl rfl ?_
       refine sbInt 0 hW3 ⟨_, hg13, rfl, rfl⟩ rfl rfl rfl rfl ?_
       refine sne ⟨_, hg13, rfl, rfl⟩ rfl rfl rfl ?_
       refine sp ⟨_, hg8, rfl, rfl⟩ rfl rfl rfl ?_
       refine spf trivial rfl rfl rfl ?_
       refine St.nil fun a30 h30 => ?_
       refine hK19 _ _ ?_
       refine fr_cond (t := 32) h30 rfl (fun hb => ?_) (fun hb => ?_)
       ·have h9 : ¬ x.op = 3 := bne_iff_ne.1 hb
        have hc31 : ¬ x.op = 3 := h9
        clear h9
        clear hb
        refine wp_seq_k ?_
        intro K32 hK32
        refine fr_region ?_
        intro ops hops
        clear hops
        refine St.go h30 ?_; clear h30 a30
        refine sa trivial rfl rfl ?_
        refine St.nil fun a33 h33 => ?_
        refine hK32 _ _ ?_
        refine wp_ret ?_
        repeat (first | with_reducible refine of_then_ret ?_ | with_reducible refine of_block_ret ?_)
        have R : x.form bl = 4 := by
         rw [endForm_eq]
         generalize x.yes.form bl (x.op != 3) = yv
         generalize x.no.form bl (x.op == 2) = zv
         first | (simp [hc12, hc17, hc21, hc27.out, hc29, hc31]; done) | (exfalso; have := hc12; have := hc17; have := hc21; have := hc27.out; have := hc29; have := hc31; omega)
        exact ret_tmp (t := 4) h33 rfl rfl ⟨by rw [R], hW3.bel⟩
       ·have h9 : x.op = 3 := bne_eq_false_iff_eq.1 hb
        have hc34 : Hid (x.op = 3) := h9
        clear h9
        clear hb
        refine wp_skip ?_
        refine hK18 _ _ ?_
        refine wp_seq_k ?_
        intro K35 hK35
        refine wp_seq_k ?_
        intro K36 hK36
        refine fr_region ?_
        intro ops hops
        clear hops
        refine St.go h30 ?_; clear h30 a30
        refine sfEnd4 trivial rfl rfl ?_
        refine sbInts 0 hW3 trivial rfl rfl rfl rfl ?_
        refine slInts trivial rfl rfl ?_
        refine sgt trivial rfl rfl rfl ?_
        refine St.nil fun a37 h37 => ?_
        refine hK36 _ _ ?_
        refine fr_cond (t := 36) h37 rfl (fun hb => ?_) (fun hb => ?_)
        ·have hc38 : 8 < x.args.length := by have := of_decide_eq_true hb; omega
         clear hb
         refine wp_seq_k ?_
         intro K39 hK39
         refine fr_region ?_
         intro ops hops
         clear hops
         refine St.go h37 ?_; clear h37 a37
         refine sa trivial rfl rfl ?_
         refine St.nil fun a40 h40 => ?_
         refine hK39 _ _ ?_
         refine wp_ret ?_
         repeat (first | with_reducible refine of_then_ret ?_ | with_reducible refine of_block_ret ?_)
         have R : x.form bl = 2 := by
          rw [endForm_eq]
          generalize x.yes.form bl (x.op != 3) = yv
          generalize x.no.form bl (x.op == 2) = zv
          first | (simp [hc12, hc17, hc21, hc27.out, hc29, hc34.out, hc38]; done) | (exfalso; have := hc12; have := hc17; have := hc21; have := hc27.out; have := hc29; have := hc34.out; have := hc38; omega)
         exact ret_tmp (t := 4) h40 rfl rfl ⟨by rw [R], hW3.bel⟩
        ·have hc41 : ¬ (8 < x.args.length) := by have := of_decide_eq_false hb; omega
         clear hb
         refine wp_skip ?_
         refine hK35 _ _ ?_
         refine wp_seq_k ?_
         intro K42 hK42
         refine wp_seq_k ?_
         intro K43 hK43
         refine fr_region ?_
         intro ops hops
         clear hops
         refine St.go h37 ?_; clear h37 a37
         refine sS 1 4 Try.underlying50 rfl infFunc hW3 trivial rfl rfl rfl rfl ?_
         refine sfEnd2 trivial rfl rfl ?_
         refine sS 0 3 Try.underlying52 rfl infTo hW3 trivial rfl rfl rfl rfl ?_
         refine sfEnd0 trivial rfl rfl ?_
         refine sbInt 0 hW3 trivial rfl rfl rfl rfl ?_
         refine sne trivial rfl rfl rfl ?_
         refine sc_3 cf62 hW3 (toForm_any (x.op != 3) hs.1 hs.2.1 hbl) trivial rfl rfl rfl rfl ?_
         clear hW3; intro w44 hW44
         refine sa trivial rfl rfl ?_
         refine St.nil fun a45 h45 => ?_
         refine hK43 _ _ ?_
         refine wp_seq_k ?_
         intro K46 hK46
         refine fr_region ?_
         intro ops hops
         clear hops
         refine St.go h45 ?_; clear h45 a45
         refine sm trivial rfl rfl ?_
         refine sne trivial rfl rfl rfl ?_
         refine St.nil fun a47 h47 => ?_
         refine hK46 _ _ ?_
         refine fr_cond (t := 45) h47 rfl (fun hb => ?_) (fun hb => ?_)
         ·have h9 : ¬ (x.yes.form bl (x.op != 3)) = 0 := bne_iff_ne.1 hb
          have hc48 : ¬ (x.yes.form bl (x.op != 3)) = 0 := h9
          clear h9
          clear hb
          refine wp_seq_k ?_
          intro K49 hK49
          refine fr_region ?_
          intro ops hops
          clear hops
          refine St.go h47 ?_; clear h47 a47
          refine sm trivial rfl rfl ?_
          refine sa trivial rfl rfl ?_
          refine St.nil fun a50 h50 => ?_
          refine hK49 _ _ ?_
          refine wp_ret ?_
          repeat (first | with_reducible refine of_then_ret ?_ | with_reducible refine of_block_ret ?_)
          have R : x.form bl = x.yes.form bl (x.op != 3) := by
           rw [endForm_eq]
           have hY := hc48
           generalize x.yes.form bl (x.op != 3) = yv at hY ⊢
           generalize x.no.form bl (x.op == 2) = zv
           first | (simp [hc12, hc17, hc21, hc27.out, hc29, hc34.out, hc41, hY]; done) | (exfalso; have := hc12; have := hc17; have := hc21; have := hc27.out; have := hc29; have := hc34.out; have := hc41; omega)
          exact ret_tmp (t := 4) h50 rfl rfl ⟨by rw [R], hW44.bel⟩
         ·have h9 : (x.yes.form bl (x.op != 3)) = 0 := bne_eq_false_iff_eq.1 hb
          have hc51 : Hid ((x.yes.form bl (x.op != 3)) = 0) := h9
          clear h9
          clear hb
          refine wp_skip ?_
          refine hK42 _ _ ?_
          refine wp_seq_k ?_
          intro K52 hK52
          refine fr_region ?_
          intro ops hops
          clear hops
          refine St.go h47 ?_; clear h47 a47
          refine sS 1 4 Try.underlying50 rfl infFunc hW44 trivial rfl rfl rfl rfl ?_
          refine sfEnd3 trivial rfl rfl ?_
          refine sS 0 3 Try.underlying52 rfl infTo hW44 trivial rfl rfl rfl rfl ?_
          refine sfEnd0 trivial rfl rfl ?_
          refine sbInt 0 hW44 trivial rfl rfl rfl rfl ?_
          refine seq trivial rfl rfl rfl ?_
          refine sc_3 cf62 hW44 (toForm_any (x.op == 2) hs.2.2.1 hs.2.2.2 hbl) trivial rfl rfl rfl rfl ?_
          clear hW44; intro w53 hW53
          refine sa trivial rfl rfl ?_
          refine St.nil fun a54 h54 => ?_
          refine hK52 _ _ ?_
          refine wp_ret ?_
          repeat (first | with_reducible refine of_then_ret ?_ | with_reducible refine of_block_ret ?_)
          have R : x.form bl = x.no.form bl (x.op == 2) := by
           rw [endForm_eq]
           have hY := hc51.out
           generalize x.yes.form bl (x.op != 3) = yv at hY ⊢
           generalize x.no.form bl (x.op == 2) = zv
           first | (simp [hc12, hc17, hc21, hc27.out, hc29, hc34.out, hc41, hY]; done) | (exfalso; have := hc12; have := hc17; have := hc21; have := hc27.out; have := hc29; have := hc34.out; have := hc41; omega)
          exact ret_tmp (t := 4) h54 rfl rfl ⟨by rw [R], hW53.bel⟩
      ·rw [hb] at h28
       have hc55 : ¬ (0 < x.args.length) := by have := of_decide_eq_false hb; omega
       clear hb
       refine St.go h28 ?_; clear h28 a28
       refine so hg13 rfl rfl rfl rfl ?_
       refine so hg13 rfl rfl rfl rfl ?_
       refine so hg13 rfl rfl rfl rfl ?_
       refine spf ⟨_, hg8, rfl, rfl⟩ rfl rfl rfl ?_
       refine spf trivial rfl rfl rfl ?_
       refine St.nil fun a56 h56 => ?_
       refine hK19 _ _ ?_
       refine fr_false (t := 32) h56 rfl ?_
       refine wp_skip ?_
       refine hK18 _ _ ?_
       refine wp_seq_k ?_
       intro K57 hK57
       refine wp_seq_k ?_
       intro K58 hK58
       refine fr_region ?_
       intro ops hops
       clear hops
       refine St.go h56 ?_; clear h56 a56
       refine sfEnd4 trivial rfl rfl ?_
       refine sbInts 0 hW3 trivial rfl rfl rfl rfl ?_
       refine slInts trivial rfl rfl ?_
       refine sgt trivial rfl rfl rfl ?_
       refine St.nil fun a59 h59 => ?_
       refine hK58 _ _ ?_
       refine fr_cond (t := 36) h59 rfl (fun hb => ?_) (fun hb => ?_)
       ·have hc60 : 8 < x.args.length := by have := of_decide_eq_true hb; omega
        clear hb
        refine wp_seq_k ?_
        intro K61 hK61
        refine fr_region ?_
        intro ops hops
        clear hops
        refine St.go h59 ?_; clear h59 a59
        refine sa trivial rfl rfl ?_
        refine St.nil fun a62 h62 => ?_
        refine hK61 _ _ ?_
        refine wp_ret ?_
        repeat (first | with_reducible refine of_then_ret ?_ | with_reducible refine of_block_ret ?_)
        have R : x.form bl = 2 := by
         rw [endForm_eq]
         generalize x.yes.form bl (x.op != 3) = yv
         generalize x.no.form bl (x.op == 2) = zv
         first | (simp [hc12, hc17, hc21, hc27.out, hc55, hc60]; done) | (exfalso; have := hc12; have := hc17; have := hc21; have := hc27.out; have := hc55; have := hc60; omega)
        exact ret_tmp (t := 4) h62 rfl rfl ⟨by rw [R], hW3.bel⟩
       ·have hc63 : ¬ (8 < x.args.length) := by have := of_decide_eq_false hb; omega
        clear hb
        refine wp_skip ?_
        refine hK57 _ _ ?_
        refine wp_seq_k ?_
        intro K64 hK64
        refine wp_seq_k ?_
        intro K65 hK65
        refine fr_region ?_
        intro ops hops
        clear hops
        refine St.go h59 ?_; clear h59 a59
        refine sS 1 4 Try.underlying50 rfl infFunc hW3 trivial rfl rfl rfl rfl ?_
        refine sfEnd2 trivial rfl rfl ?_
        refine sS 0 3 Try.underlying52 rfl infTo hW3 trivial rfl rfl rfl rfl ?_
        refine sfEnd0 trivial rfl rfl ?_
        refine sbInt 0 hW3 trivial rfl rfl rfl rfl ?_
        refine sne trivial rfl rfl rfl ?_
        refine sc_3 cf62 hW3 (toForm_any (x.op != 3) hs.1 hs.2.1 hbl) trivial rfl rfl rfl rfl ?_
        clear hW3; intro w66 hW66
        refine sa trivial rfl rfl ?_
        refine St.nil fun a67 h67 => ?_
        refine hK65 _ _ ?_
        refine wp_seq_k ?_
        intro K68 hK68
        refine fr_region ?_
        intro ops hops
        clear hops
        refine St.go h67 ?_; clear h67 a67
        refine sm trivial rfl rfl ?_
        refine sne trivial rfl rfl rfl ?_
        refine St.nil fun a69 h69 => ?_
        refine hK68 _ _ ?_
        refine fr_cond (t := 45) h69 rfl (fun hb => ?_) (fun hb => ?_)
        ·have h9 : ¬ (x.yes.form bl (x.op != 3)) = 0 := bne_iff_ne.1 hb
         have hc70 : ¬ (x.yes.form bl (x.op != 3)) = 0 := h9
         clear h9
         clear hb
         refine wp_seq_k ?_
         intro K71 hK71
         refine fr_region ?_
         intro ops hops
         clear hops
         refine St.go h69 ?_; clear h69 a69
         refine sm trivial rfl rfl ?_
         refine sa trivial rfl rfl ?_
         refine St.nil fun a72 h72 => ?_
         refine hK71 _ _ ?_
         refine wp_ret ?_
         repeat (first | with_reducible refine of_then_ret ?_ | with_reducible refine of_block_ret ?_)
         have R : x.form bl = x.yes.form bl (x.op != 3) := by
          rw [endForm_eq]
          have hY := hc70
          generalize x.yes.form bl (x.op != 3) = yv at hY ⊢
          generalize x.no.form bl (x.op == 2) = zv
          first | (simp [hc12, hc17, hc21, hc27.out, hc55, hc63, hY]; done) | (exfalso; have := hc12; have := hc17; have := hc21; have := hc27.out; have := hc55; have := hc63; omega)
         exact ret_tmp (t := 4) h72 rfl rfl ⟨by rw [R], hW66.bel⟩
        ·have h9 : (x.yes.form bl (x.op != 3)) = 0 := bne_eq_false_iff_eq.1 hb
         have hc73 : Hid ((x.yes.form bl (x.op != 3)) = 0) := h9
         clear h9
         clear hb
         refine wp_skip ?_
         refine hK64 _ _ ?_
         refine wp_seq_k ?_
         intro K74 hK74
         refine fr_region ?_
         intro ops hops
         clear hops
         refine St.go h69 ?_; clear h69 a69
         refine sS 1 4 Try.underlying50 rfl infFunc hW66 trivial rfl rfl rfl rfl ?_
         refine sfEnd3 trivial rfl rfl ?_
         refine sS 0 3 Try.underlying52 rfl infTo hW66 trivial rfl rfl rfl rfl ?_
         refine sfEnd0 trivial rfl rfl ?_
         refine sbInt 0 hW66 trivial rfl rfl rfl rfl ?_
         refine seq trivial rfl rfl rfl ?_
         refine sc_3 cf62 hW66 (toForm_any (x.op == 2) hs.2.2.1 hs.2.2.2 hbl) trivial rfl rfl rfl rfl ?_
         clear hW66; intro w75 hW75
         refine sa trivial rfl rfl ?_
         refine St.nil fun a76 h76 => ?_
         refine hK74 _ _ ?_
         refine wp_ret ?_
         repeat (first | with_reducible refine of_then_ret ?_ | with_reducible refine of_block_ret ?_)
         have R : x.form bl = x.no.form bl (x.op == 2) := by
          rw [endForm_eq]
          have hY := hc73.out
          generalize x.yes.form bl (x.op != 3) = yv at hY ⊢
          generalize x.no.form bl (x.op == 2) = zv
          first | (simp [hc12, hc17, hc21, hc27.out, hc55, hc63, hY]; done) | (exfalso; have := hc12; have := hc17; have := hc21; have := hc27.out; have := hc55; have := hc63; omega)
         exact ret_tmp (t := 4) h76 rfl rfl ⟨by rw [R], hW75.bel⟩
    ·rw [hb] at h20
     have h9 : x.a = 0 := bne_eq_false_iff_eq.1 hb
     have hc77 : Hid (x.a = 0) := h9
     clear h9
     clear hb
     refine St.go h20 ?_; clear h20 a20
     refine so hg3 rfl rfl rfl rfl ?_
     refine so hg3 rfl rfl rfl rfl ?_
     refine so hg3 rfl rfl rfl rfl ?_
     refine spf trivial rfl rfl rfl ?_
     refine sm trivial rfl rfl ?_
     refine sfEnd4 ⟨_, hg8, rfl, rfl⟩ rfl rfl ?_
     refine sbInts 0 hW3 ⟨_, hg8, rfl, rfl⟩ rfl rfl rfl rfl ?_
     refine slInts ⟨_, hg8, rfl, rfl⟩ rfl rfl ?_
     refine sgt ⟨_, hg8, rfl, rfl⟩ rfl rfl rfl ?_
     refine sm ⟨_, hg8, rfl, rfl⟩ rfl rfl ?_
     intro a78 h78
     rcases Bool.eq_false_or_eq_true (decide (0 < (x.args.length : Int))) with hb | hb
     ·rw [hb] at h78
      have hc79 : 0 < x.args.length := by have := of_decide_eq_true hb; omega
      clear hb
      refine St.go h78 ?_; clear h78 a78
      refine sfEnd0 ⟨_, hg13, rfl, rfl⟩ rfl rfl ?_
      refine sbInt 0 hW3 ⟨_, hg13, rfl, rfl⟩ rfl rfl rfl rfl ?_
      refine sne ⟨_, hg13, rfl, rfl⟩ rfl rfl rfl ?_
      refine sp ⟨_, hg8, rfl, rfl⟩ rfl rfl rfl ?_
      refine spf trivial rfl rfl rfl ?_
      refine St.nil fun a80 h80 => ?_
      refine hK19 _ _ ?_
      refine fr_cond (t := 32) h80 rfl (fun hb => ?_) (fun hb => ?_)
      ·have h9 : ¬ x.op = 3 := bne_iff_ne.1 hb
       have hc81 : ¬ x.op = 3 := h9
       clear h9
       clear hb
       refine wp_seq_k ?_
       intro K82 hK82
       refine fr_region ?_
       intro ops hops
       clear hops
       refine St.go h80 ?_; clear h80 a80
       refine sa trivial rfl rfl ?_
       refine St.nil fun a83 h83 => ?_
       refine hK82 _ _ ?_
       refine wp_ret ?_
       repeat (first | with_reducible refine of_then_ret ?_ | with_reducible refine of_block_ret ?_)
       have R : x.form bl = 4 := by
        rw [endForm_eq]
        generalize x.yes.form bl (x.op != 3) = yv
        generalize x.no.form bl (x.op == 2) = zv
        first | (simp [hc12, hc17, hc77.out, hc79, hc81]; done) | (exfalso; have := hc12; have := hc17; have := hc77.out; have := hc79; have := hc81; omega)
       exact ret_tmp (t := 4) h83 rfl rfl ⟨by rw [R], hW3.bel⟩
      ·have h9 : x.op = 3 := bne_eq_false_iff_eq.1 hb
       have hc84 : Hid (x.op = 3) := h9
       clear h9
       clear hb
       refine wp_skip ?_
       refine hK18 _ _ ?_
       refine wp_seq_k ?_
       intro K85 hK85
       refine wp_seq_k ?_
       intro K86 hK86
       refine fr_region ?_
       intro ops hops
       clear hops
       refine St.go h80 ?_; clear h80 a80
       refine sfEnd4 trivial rfl rfl ?_
       refine sbInts 0 hW3 trivial rfl rfl rfl rfl ?_
       refine slInts trivial rfl rfl ?_
       refine sgt trivial rfl rfl rfl ?_
       refine St.nil fun a87 h87 => ?_
       refine hK86 _ _ ?_
       refine fr_cond (t := 36) h87 rfl (fun hb => ?_) (fun hb => ?_)
       ·have hc88 : 8 < x.args.length := by have := of_decide_eq_true hb; omega
        clear hb
        refine wp_seq_k ?_
        intro K89 hK89
        refine fr_region ?_
        intro ops hops
        clear hops
        refine St.go h87 ?_; clear h87 a87
        refine sa trivial rfl rfl ?_
        refine St.nil fun a90 h90 => ?_
        refine hK89 _ _ ?_
        refine wp_ret ?_
        repeat (first | with_reducible refine of_then_ret ?_ | with_reducible refine of_block_ret ?_)
        have R : x.form bl = 2 := by
         rw [endForm_eq]
         generalize x.yes.form bl (x.op != 3) = yv
         generalize x.no.form bl (x.op == 2) = zv
         first | (simp [hc12, hc17, hc77.out, hc79, hc84.out, hc88]; done) | (exfalso; have := hc12; have := hc17; have := hc77.out; have := hc79; have := hc84.out; have := hc88; omega)
        exact ret_tmp (t := 4) h90 rfl rfl ⟨by rw [R], hW3.bel⟩
       ·have hc91 : ¬ (8 < x.args.length) := by have := of_decide_eq_false hb; omega
        clear hb
        refine wp_skip ?_
        refine hK85 _ _ ?_
        refine wp_seq_k ?_
        intro K92 hK92
        refine wp_seq_k ?_
        intro K93 hK93
        refine fr_region ?_
        intro ops hops
        clear hops
        refine St.go h87 ?_; clear h87 a87
        refine sS 1 4 Try.underlying50 rfl infFunc hW3 trivial rfl rfl rfl rfl ?_
        refine sfEnd2 trivial rfl rfl ?_
        refine sS 0 3 Try.underlying52 rfl infTo hW3 trivial rfl rfl rfl rfl ?_
        refine sfEnd0 trivial rfl rfl ?_
        refine sbInt 0 hW3 trivial rfl rfl rfl rfl ?_
        refine sne trivial rfl rfl rfl ?_
        refine sc_3 cf62 hW3 (toForm_any (x.op != 3) hs.1 hs.2.1 hbl) trivial rfl rfl rfl rfl ?_
        clear hW3; intro w94 hW94
        refine sa trivial rfl rfl ?_
        refine St.nil fun a95 h95 => ?_
        refine hK93 _ _ ?_
        refine wp_seq_k ?_
        intro K96 hK96
        refine fr_region ?_
        intro ops hops
        clear hops
        refine St.go h95 ?_; clear h95 a95
        refine sm trivial rfl rfl ?_
        refine sne trivial rfl rfl rfl ?_
        refine St.nil fun a97 h97 => ?_
        refine hK96 _ _ ?_
        refine fr_cond (t := 45) h97 rfl (fun hb => ?_) (fun hb => ?_)
        ·have h9 : ¬ (x.yes.form bl (x.op != 3)) = 0 := bne_iff_ne.1 hb
         have hc98 : ¬ (x.yes.form bl (x.op != 3)) = 0 := h9
         clear h9
         clear hb
         refine wp_seq_k ?_
         intro K99 hK99
         refine fr_region ?_
         intro ops hops
         clear hops
         refine St.go h97 ?_; clear h97 a97
         refine sm trivial rfl rfl ?_
         refine sa trivial rfl rfl ?_
         refine St.nil fun a100 h100 => ?_
         refine hK99 _ _ ?_
         refine wp_ret ?_
         repeat (first | with_reducible refine of_then_ret ?_ | with_reducible refine of_block_ret ?_)
         have R : x.form bl = x.yes.form bl (x.op != 3) := by
          rw [endForm_eq]
          have hY := hc98
          generalize x.yes.form bl (x.op != 3) = yv at hY ⊢
          generalize x.no.form bl (x.op == 2) = zv
          first | (simp [hc12, hc17, hc77.out, hc79, hc84.out, hc91, hY]; done) | (exfalso; have := hc12; have := hc17; have := hc77.out; have := hc79; have := hc84.out; have := hc91; omega)
         exact ret_tmp (t := 4) h100 rfl rfl ⟨by rw [R], hW94.bel⟩
        ·have h9 : (x.yes.form bl (x.op != 3)) = 0 := bne_eq_false_iff_eq.1 hb
         have hc101 : Hid ((x.yes.form bl (x.op != 3)) = 0) := h9
         clear h9
         clear hb
         refine wp_skip ?_
         refine hK92 _ _ ?_
         refine wp_seq_k ?_
         intro K102 hK102
         refine fr_region ?_
         intro ops hops
         clear hops
         refine St.go h97 ?_; clear h97 a97
         refine sS 1 4 Try.underlying50 rfl infFunc hW94 trivial rfl rfl rfl rfl ?_
         refine sfEnd3 trivial rfl rfl ?_
         refine sS 0 3 Try.underlying52 rfl infTo hW94 trivial rfl rfl rfl rfl ?_
         refine sfEnd0 trivial rfl rfl ?_
         refine sbInt 0 hW94 trivial rfl rfl rfl rfl ?_
         refine seq trivial rfl rfl rfl ?_
         refine sc_3 cf62 hW94 (toForm_any (x.op == 2) hs.2.2.1 hs.2.2.2 hbl) trivial rfl rfl rfl rfl ?_
         clear hW94; intro w103 hW103
         refine sa trivial rfl rfl ?_
         refine St.nil fun a104 h104 => ?_
         refine hK102 _ _ ?_
         refine wp_ret ?_
         repeat (first | with_reducible refine of_then_ret ?_ | with_reducible refine of_block_ret ?_)
         have R : x.form bl = x.no.form bl (x.op == 2) := by
          rw [endForm_eq]
          have hY := hc101.out
          generalize x.yes.form bl (x.op != 3) = yv at hY ⊢
          generalize x.no.form bl (x.op == 2) = zv
          first | (simp [hc12, hc17, hc77.out, hc79, hc84.out, hc91, hY]; done) | (exfalso; have := hc12; have := hc17; have := hc77.out; have := hc79; have := hc84.out; have := hc91; omega)
         exact ret_tmp (t := 4) h104 rfl rfl ⟨by rw [R], hW103.bel⟩
     ·rw [hb] at h78
      have hc105 : ¬ (0 < x.args.length) := by have := of_decide_eq_false hb; omega
      clear hb
      refine St.go h78 ?_; clear h78 a78
      refine so hg13 rfl rfl rfl rfl ?_
      refine so hg13 rfl rfl rfl rfl ?_
      refine so hg13 rfl rfl rfl rfl ?_
      refine spf ⟨_, hg8, rfl, rfl⟩ rfl rfl rfl ?_
      refine spf trivial rfl rfl rfl ?_
      refine St.nil fun a106 h106 => ?_
      refine hK19 _ _ ?_
      refine fr_false (t := 32) h106 rfl ?_
      refine wp_skip ?_
      refine hK18 _ _ ?_
      refine wp_seq_k ?_
      intro K107 hK107
      refine wp_seq_k ?_
      intro K108 hK108
      refine fr_region ?_
      intro ops hops
      clear hops
      refine St.go h106 ?_; clear h106 a106
      refine sfEnd4 trivial rfl rfl ?_
      refine sbInts 0 hW3 trivial rfl rfl rfl rfl ?_
      refine slInts trivial rfl rfl ?_
      refine sgt trivial rfl rfl rfl ?_
      refine St.nil fun a109 h109 => ?_
      refine hK108 _ _ ?_
      refine fr_cond (t := 36) h109 rfl (fun hb => ?_) (fun hb => ?_)
      ·have hc110 : 8 < x.args.length := by have := of_decide_eq_true hb; omega
       clear hb
       refine wp_seq_k ?_
       intro K111 hK111
       refine fr_region ?_
       intro ops hops
       clear hops
       refine St.go h109 ?_; clear h109 a109
       refine sa trivial rfl rfl ?_
       refine St.nil fun a112 h112 => ?_
       refine hK111 _ _ ?_
       refine wp_ret ?_
       repeat (first | with_reducible refine of_then_ret ?_ | with_reducible refine of_block_ret ?_)
       have R : x.form bl = 2 := by
        rw [endForm_eq]
        generalize x.yes.form bl (x.op != 3) = yv
        generalize x.no.form bl (x.op == 2) = zv
        first | (simp [hc12, hc17, hc77.out, hc105, hc110]; done) | (exfalso; have := hc12; have := hc17; have := hc77.out; have := hc105; have := hc110; omega)
       exact ret_tmp (t := 4) h112 rfl rfl ⟨by rw [R], hW3.bel⟩
      ·have hc113 : ¬ (8 < x.args.length) := by have := of_decide_eq_false hb; omega
       clear hb
       refine wp_skip ?_
       refine hK107 _ _ ?_
       refine wp_seq_k ?_
       intro K114 hK114
       refine wp_seq_k ?_
       intro K115 hK115
       refine fr_region ?_
       intro ops hops
       clear hops
       refine St.go h109 ?_; clear h109 a109
       refine sS 1 4 Try.underlying50 rfl infFunc hW3 trivial rfl rfl rfl rfl ?_
       refine sfEnd2 trivial rfl rfl ?_
       refine sS 0 3 Try.underlying52 rfl infTo hW3 trivial rfl rfl rfl rfl ?_
       refine sfEnd0 trivial rfl rfl ?_
       refine sbInt 0 hW3 trivial rfl rfl rfl rfl ?_
       refine sne trivial rfl rfl rfl ?_
       refine sc_3 cf62 hW3 (toForm_any (x.op != 3) hs.1 hs.2.1 hbl) trivial rfl rfl rfl rfl ?_
       clear hW3; intro w116 hW116
       refine sa trivial rfl rfl ?_
       refine St.nil fun a117 h117 => ?_
       refine hK115 _ _ ?_
       refine wp_seq_k ?_
       intro K118 hK118
       refine fr_region ?_
       intro ops hops
       clear hops
       refine St.go h117 ?_; clear h117 a117
       refine sm trivial rfl rfl ?_
       refine sne trivial rfl rfl rfl ?_
       refine St.nil fun a119 h119 => ?_
       refine hK118 _ _ ?_
       refine fr_cond (t := 45) h119 rfl (fun hb => ?_) (fun hb => ?_)
       ·have h9 : ¬ (x.yes.form bl (x.op != 3)) = 0 := bne_iff_ne.1 hb
        have hc120 : ¬ (x.yes.form bl (x.op != 3)) = 0 := h9
        clear h9
        clear hb
        refine wp_seq_k ?_
        intro K121 hK121
        refine fr_region ?_
        intro ops hops
        clear hops
        refine St.go h119 ?_; clear h119 a119
        refine sm trivial rfl rfl ?_
        refine sa trivial rfl rfl ?_
        refine St.nil fun a122 h122 => ?_
        refine hK121 _ _ ?_
        refine wp_ret ?_
        repeat (first | with_reducible refine of_then_ret ?_ | with_reducible refine of_block_ret ?_)
        have R : x.form bl = x.yes.form bl (x.op != 3) := by
         rw [endForm_eq]
         have hY := hc120
         generalize x.yes.form bl (x.op != 3) = yv at hY ⊢
         generalize x.no.form bl (x.op == 2) = zv
         first | (simp [hc12, hc17, hc77.out, hc105, hc113, hY]; done) | (exfalso; have := hc12; have := hc17; have := hc77.out; have := hc105; have := hc113; omega)
        exact ret_tmp (t := 4) h122 rfl rfl ⟨by rw [R], hW116.bel⟩
       ·have h9 : (x.yes.form bl (x.op != 3)) = 0 := bne_eq_false_iff_eq.1 hb
        have hc123 : Hid ((x.yes.form bl (x.op != 3)) = 0) := h9
        clear h9
        clear hb
        refine wp_skip ?_
        refine hK114 _ _ ?_
        refine wp_seq_k ?_
        intro K124 hK124
        refine fr_region ?_
        intro ops hops
        clear hops
        refine St.go h119 ?_; clear h119 a119
        refine sS 1 4 Try.underlying50 rfl infFunc hW116 trivial rfl rfl rfl rfl ?_
        refine sfEnd3 trivial rfl rfl ?_
        refine sS 0 3 Try.underlying52 rfl infTo hW116 trivial rfl rfl rfl rfl ?_
        refine sfEnd0 trivial rfl rfl ?_
        refine sbInt 0 hW116 trivial rfl rfl rfl rfl ?_
        refine seq trivial rfl rfl rfl ?_
        refine sc_3 cf62 hW116 (toForm_any (x.op == 2) hs.2.2.1 hs.2.2.2 hbl) trivial rfl rfl rfl rfl ?_
        clear hW116; intro w125 hW125
        refine sa trivial rfl rfl ?_
        refine St.nil fun a126 h126 => ?_
        refine hK124 _ _ ?_
        refine wp_ret ?_
        repeat (first | with_reducible refine of_then_ret ?_ | with_reducible refine of_block_ret ?_)
        have R : x.form bl = x.no.form bl (x.op == 2) := by
         rw [endForm_eq]
         have hY := hc123.out
         generalize x.yes.form bl (x.op != 3) = yv at hY ⊢
         generalize x.no.form bl (x.op == 2) = zv
         first | (simp [hc12, hc17, hc77.out, hc105, hc113, hY]; done) | (exfalso; have := hc12; have := hc17; have := hc77.out; have := hc105; have := hc113; omega)
        exact ret_tmp (t := 4) h126 rfl rfl ⟨by rw [R], hW125.bel⟩

set_option maxHeartbeats 4000000 in
set_option maxRecDepth 100000 in
theorem cEnd_any {x : MEnd} {e : EP} {fr : Int} {fp fq fb : Option Addr} {fl fc fm fd bl fe : Nat} {w : World} (hs : x.yes.regs.length < 2305843009213693952 ∧ x.yes.args.length < 2305843009213693952 ∧ x.no.regs.length < 2305843009213693952 ∧ x.no.args.length < 2305843009213693952) (hbl : bl < 2305843009213693952) :
    Rd Try.prog 22 #[.agg #[.int .i64 fr, .slice fp fl fc, .slice fq fm fd, .slice fb bl fe], .agg #[.int .i64 x.op, .int .i64 x.a, .int .i64 x.yes.block, .slice e.pYR x.yes.regs.length e.cYR, .slice e.pYA x.yes.args.length e.cYA, .int .i64 x.no.block, .slice e.pNR x.no.regs.length e.cNR, .slice e.pNA x.no.args.length e.cNA, .slice e.pA x.args.length e.cA]] w (.int .i64 (x.form bl)) := by
  refine fr_enter (n := 56) Try.func22 rfl rfl rfl ?_
  intro a hF
  have hW := Wd.start w
  replace hF : Fr 56 a [(0, .agg #[.int .i64 fr, .slice fp fl fc, .slice fq fm fd, .slice fb bl fe]), (1, .agg #[.int .i64 x.op, .int .i64 x.a, .int .i64 x.yes.block, .slice e.pYR x.yes.regs.length e.cYR, .slice e.pYA x.yes.args.length e.cYA, .int .i64 x.no.block, .slice e.pNR x.no.regs.length e.cNR, .slice e.pNA x.no.args.length e.cNA, .slice e.pA x.args.length e.cA])] := hF
  refine wp_seq_k ?_
  intro K1 hK1
  refine fr_region ?_
  intro ops hops
  clear hops
  refine St.go hF ?_; clear hF a
  refine sB hW trivial rfl rfl ?_
  clear hW; intro w2 B2 hW2 hN; clear hN
  refine sB hW2 trivial rfl rfl ?_
  clear hW2; intro w3 B3 hW3 hN; clear hN
  refine sa trivial rfl rfl ?_
  refine St.nil fun a4 h4 => ?_
  refine hK1 _ _ ?_
  refine wp_seq_k ?_
  intro K5 hK5
  refine wp_block ?_
  refine wp_seq_k ?_
  intro K6 hK6
  refine fr_region ?_
  intro ops hops
  have hg3 : (ops[3]?).bind (fun o : Oper => o.dst) = some 10 := hops 3
  clear hops
  refine St.go h4 ?_; clear h4 a4
  refine sfEnd0 trivial rfl rfl ?_
  refine sbInt 0 hW3 trivial rfl rfl rfl rfl ?_
  refine slt trivial rfl rfl rfl ?_
  refine sm trivial rfl rfl ?_
  intro a7 h7
  rcases Bool.eq_false_or_eq_true (decide (x.op < 1)) with hb | hb
  ·rw [hb] at h7
   have hc8 : x.op < 1 := of_decide_eq_true hb
   clear hb
   refine St.go h7 ?_; clear h7 a7
   refine so hg3 rfl rfl rfl rfl ?_
   refine so hg3 rfl rfl rfl rfl ?_
   refine so hg3 rfl rfl rfl rfl ?_
   refine sp trivial rfl rfl rfl ?_
   refine sa trivial rfl rfl ?_
   refine St.nil fun a9 h9 => ?_
   refine hK6 _ _ ?_
   refine fr_true (t := 6) h9 rfl ?_
   refine wp_seq_k ?_
   intro K10 hK10
   refine fr_region ?_
   intro ops hops
   clear hops
   refine St.go h9 ?_; clear h9 a9
   refine sa trivial rfl rfl ?_
   refine St.nil fun a11 h11 => ?_
   refine hK10 _ _ ?_
   refine wp_ret ?_
   repeat (first | with_reducible refine of_then_ret ?_ | with_reducible refine of_block_ret ?_)
   have R : x.form bl = 3 := by
    rw [endForm_eq]
    generalize x.yes.form bl (x.op != 3) = yv
    generalize x.no.form bl (x.op == 2) = zv
    first | (simp [hc8]; done) | (exfalso; have := hc8; omega)
   exact ret_tmp (t := 4) h11 rfl rfl ⟨by rw [R], hW3.bel⟩
  ·rw [hb] at h7
   have hc12 : ¬ (x.op < 1) := of_decide_eq_false hb
   clear hb
   refine St.go h7 ?_; clear h7 a7
   refine sfEnd0 ⟨_, hg3, rfl, rfl⟩ rfl rfl ?_
   refine sbInt 0 hW3 ⟨_, hg3, rfl, rfl⟩ rfl rfl rfl rfl ?_
   refine sgt ⟨_, hg3, rfl, rfl⟩ rfl rfl rfl ?_
   refine spf trivial rfl rfl rfl ?_
   refine sa trivial rfl rfl ?_
   refine St.nil fun a13 h13 => ?_
   refine hK6 _ _ ?_
   refine fr_cond (t := 6) h13 rfl (fun hb => ?_) (fun hb => ?_)
   ·have hc14 : 3 < x.op := of_decide_eq_true hb
    clear hb
    refine wp_seq_k ?_
    intro K15 hK15
    refine fr_region ?_
    intro ops hops
    clear hops
    refine St.go h13 ?_; clear h13 a13
    refine sa trivial rfl rfl ?_
    refine St.nil fun a16 h16 => ?_
    refine hK15 _ _ ?_
    refine wp_ret ?_
    repeat (first | with_reducible refine of_then_ret ?_ | with_reducible refine of_block_ret ?_)
    have R : x.form bl = 3 := by
     rw [endForm_eq]
     generalize x.yes.form bl (x.op != 3) = yv
     generalize x.no.form bl (x.op == 2) = zv
     first | (simp [hc12, hc14]; done) | (exfalso; have := hc12; have := hc14; omega)
    exact ret_tmp (t := 4) h16 rfl rfl ⟨by rw [R], hW3.bel⟩
   ·have hc17 : ¬ (3 < x.op) := of_decide_eq_false hb
    clear hb
    refine wp_seq_k ?_
    intro K18 hK18
    refine fr_region ?_
    intro ops hops
    have hg3 : (ops[3]?).bind (fun o : Oper => o.dst) = some 19 := hops 3
    clear hops
    refine St.go h13 ?_; clear h13 a13
    refine sfEnd0 trivial rfl rfl ?_
    refine sbInt 0 hW3 trivial rfl rfl rfl rfl ?_
    refine sne trivial rfl rfl rfl ?_
    refine sm trivial rfl rfl ?_
    intro a19 h19
    rcases Bool.eq_false_or_eq_true (x.op != 2) with hb | hb
    ·rw [hb] at h19
     have h9 : ¬ x.op = 2 := bne_iff_ne.1 hb
     have hc20 : ¬ x.op = 2 := h9
     clear h9
     clear hb
     refine St.go h19 ?_; clear h19 a19
     refine sfEnd1 ⟨_, hg3, rfl, rfl⟩ rfl rfl ?_
     refine sbInt 0 hW3 ⟨_, hg3, rfl, rfl⟩ rfl rfl rfl rfl ?_
     refine sne ⟨_, hg3, rfl, rfl⟩ rfl rfl rfl ?_
     refine sp trivial rfl rfl rfl ?_
     refine sa trivial rfl rfl ?_
     refine St.nil fun a21 h21 => ?_
     refine hK18 _ _ ?_
     refine fr_cond (t := 15) h21 rfl (fun hb => ?_) (fun hb => ?_)
     ·have h9 : ¬ x.a = 0 := bne_iff_ne.1 hb
      have hc22 : ¬ x.a = 0 := h9
      clear h9
      clear hb
      refine wp_seq_k ?_
      intro K23 hK23
      refine fr_region ?_
      intro ops hops
      clear hops
      refine St.go h21 ?_; clear h21 a21
      refine sa trivial rfl rfl ?_
      refine St.nil fun a24 h24 => ?_
      refine hK23 _ _ ?_
      refine wp_ret ?_
      repeat (first | with_reducible refine of_then_ret ?_ | with_reducible refine of_block_ret ?_)
      have R : x.form bl = 4 := by
       rw [endForm_eq]
       generalize x.yes.form bl (x.op != 3) = yv
       generalize x.no.form bl (x.op == 2) = zv
       first | (simp [hc12, hc17, hc20, hc22]; done) | (exfalso; have := hc12; have := hc17; have := hc20; have := hc22; omega)
      exact ret_tmp (t := 4) h24 rfl rfl ⟨by rw [R], hW3.bel⟩
     ·have h9 : x.a = 0 := bne_eq_false_iff_eq.1 hb
      have hc25 : Hid (x.a = 0) := h9
      clear h9
      clear hb
      refine wp_seq_k ?_
      intro K26 hK26
      refine fr_region ?_
      intro ops hops
      have hg3 : (ops[3]?).bind (fun o : Oper => o.dst) = some 28 := hops 3
      clear hops
      refine St.go h21 ?_; clear h21 a21
      refine sfEnd0 trivial rfl rfl ?_
      refine sbInt 0 hW3 trivial rfl rfl rfl rfl ?_
      refine sne trivial rfl rfl rfl ?_
      refine sm trivial rfl rfl ?_
      intro a27 h27
      rcases Bool.eq_false_or_eq_true (x.op != 3) with hb | hb
      ·rw [hb] at h27
       have h9 : ¬ x.op = 3 := bne_iff_ne.1 hb
       have hc28 : ¬ x.op = 3 := h9
       clear h9
       clear hb
       refine St.go h27 ?_; clear h27 a27
       refine sfEnd4 ⟨_, hg3, rfl, rfl⟩ rfl rfl ?_
       refine sbInts 0 hW3 ⟨_, hg3, rfl, rfl⟩ rfl rfl rfl rfl ?_
       refine slInts ⟨_, hg3, rfl, rfl⟩ rfl rfl ?_
       refine sgt ⟨_, hg3, rfl, rfl⟩ rfl rfl rfl ?_
       refine sp trivial rfl rfl rfl ?_
       refine sa trivial rfl rfl ?_
       refine St.nil fun a29 h29 => ?_
       refine hK26 _ _ ?_
       refine fr_cond (t := 24) h29 rfl (fun hb => ?_) (fun hb => ?_)
       ·have hc30 : 0 < x.args.length := by have := of_decide_eq_true hb; omega
        clear hb
        refine wp_seq_k ?_
        intro K31 hK31
        refine fr_region ?_
        intro ops hops
        clear hops
        refine St.go h29 ?_; clear h29 a29
        refine sa trivial rfl rfl ?_
        refine St.nil fun a32 h32 => ?_
        refine hK31 _ _ ?_
        refine wp_ret ?_
        repeat (first | with_reducible refine of_then_ret ?_ | with_reducible refine of_block_ret ?_)
        have R : x.form bl = 4 := by
         rw [endForm_eq]
         generalize x.yes.form bl (x.op != 3) = yv
         generalize x.no.form bl (x.op == 2) = zv
         first | (simp [hc12, hc17, hc20, hc25.out, hc28, hc30]; done) | (exfalso; have := hc12; have := hc17; have := hc20; have := hc25.out; have := hc28; have := hc30; omega)
        exact ret_tmp (t := 4) h32 rfl rfl ⟨by rw [R], hW3.bel⟩
       ·have hc33 : ¬ (0 < x.args.length) := by have := of_decide_eq_false hb; omega
        clear hb
        refine wp_seq_k ?_
        intro K34 hK34
        refine fr_region ?_
        intro ops hops
        clear hops
        refine St.go h29 ?_; clear h29 a29
        refine sfEnd4 trivial rfl rfl ?_
        refine sbInts 0 hW3 trivial rfl rfl rfl rfl ?_
        refine slInts trivial rfl rfl ?_
        refine sgt trivial rfl rfl rfl ?_
        refine sa trivial rfl rfl ?_
        refine St.nil fun a35 h35 => ?_
        refine hK34 _ _ ?_
        refine fr_cond (t := 34) h35 rfl (fun hb => ?_) (fun hb => ?_)
        ·have hc36 : 8 < x.args.length := by have := of_decide_eq_true hb; omega
         clear hb
         refine wp_seq_k ?_
         intro K37 hK37
         refine fr_region ?_
         intro ops hops
         clear hops
         refine St.go h35 ?_; clear h35 a35
         refine sa trivial rfl rfl ?_
         refine St.nil fun a38 h38 => ?_
         refine hK37 _ _ ?_
         refine wp_ret ?_
         repeat (first | with_reducible refine of_then_ret ?_ | with_reducible refine of_block_ret ?_)
         have R : x.form bl = 2 := by
          rw [endForm_eq]
          generalize x.yes.form bl (x.op != 3) = yv
          generalize x.no.form bl (x.op == 2) = zv
          first | (simp [hc12, hc17, hc20, hc25.out, hc28, hc33, hc36]; done) | (exfalso; have := hc12; have := hc17; have := hc20; have := hc25.out; have := hc28; have := hc33; have := hc36; omega)
         exact ret_tmp (t := 4) h38 rfl rfl ⟨by rw [R], hW3.bel⟩
        ·have hc39 : ¬ (8 < x.args.length) := by have := of_decide_eq_false hb; omega
         clear hb
         refine wp_skip ?_
         refine hK5 _ _ ?_
         refine wp_seq_k ?_
         intro K40 hK40
         refine wp_seq_k ?_
         intro K41 hK41
         refine fr_region ?_
         intro ops hops
         clear hops
         refine St.go h35 ?_; clear h35 a35
         refine sS 1 4 Try.underlying50 rfl infFunc hW3 trivial rfl rfl rfl rfl ?_
         refine sfEnd2 trivial rfl rfl ?_
         refine sS 0 3 Try.underlying52 rfl infTo hW3 trivial rfl rfl rfl rfl ?_
         refine sfEnd0 trivial rfl rfl ?_
         refine sbInt 0 hW3 trivial rfl rfl rfl rfl ?_
         refine sne trivial rfl rfl rfl ?_
         refine sc_3 cf61 hW3 (toCode_any (x.op != 3) hs.1 hs.2.1 hbl) trivial rfl rfl rfl rfl ?_
         clear hW3; intro w42 hW42
         refine sa trivial rfl rfl ?_
         refine St.nil fun a43 h43 => ?_
         refine hK41 _ _ ?_
         refine wp_seq_k ?_
         intro K44 hK44
         refine fr_region ?_
         intro ops hops
         clear hops
         refine St.go h43 ?_; clear h43 a43
         refine sm trivial rfl rfl ?_
         refine sne trivial rfl rfl rfl ?_
         refine St.nil fun a45 h45 => ?_
         refine hK44 _ _ ?_
         refine fr_cond (t := 47) h45 rfl (fun hb => ?_) (fun hb => ?_)
         ·have h9 : ¬ (x.yes.form bl (x.op != 3)) = 0 := bne_iff_ne.1 hb
          have hc46 : ¬ (x.yes.form bl (x.op != 3)) = 0 := h9
          clear h9
          clear hb
          refine wp_seq_k ?_
          intro K47 hK47
          refine fr_region ?_
          intro ops hops
          clear hops
          refine St.go h45 ?_; clear h45 a45
          refine sm trivial rfl rfl ?_
          refine sa trivial rfl rfl ?_
          refine St.nil fun a48 h48 => ?_
          refine hK47 _ _ ?_
          refine wp_ret ?_
          repeat (first | with_reducible refine of_then_ret ?_ | with_reducible refine of_block_ret ?_)
          have R : x.form bl = x.yes.form bl (x.op != 3) := by
           rw [endForm_eq]
           have hY := hc46
           generalize x.yes.form bl (x.op != 3) = yv at hY ⊢
           generalize x.no.form bl (x.op == 2) = zv
           first | (simp [hc12, hc17, hc20, hc25.out, hc28, hc33, hc39, hY]; done) | (exfalso; have := hc12; have := hc17; have := hc20; have := hc25.out; have := hc28; have := hc33; have := hc39; omega)
          exact ret_tmp (t := 4) h48 rfl rfl ⟨by rw [R], hW42.bel⟩
         ·have h9 : (x.yes.form bl (x.op != 3)) = 0 := bne_eq_false_iff_eq.1 hb
          have hc49 : Hid ((x.yes.form bl (x.op != 3)) = 0) := h9
          clear h9
          clear hb
          refine wp_skip ?_
          refine hK40 _ _ ?_
          refine wp_seq_k ?_
          intro K50 hK50
          refine fr_region ?_
          intro ops hops
          clear hops
          refine St.go h45 ?_; clear h45 a45
          refine sS 1 4 Try.underlying50 rfl infFunc hW42 trivial rfl rfl rfl rfl ?_
          refine sfEnd3 trivial rfl rfl ?_
          refine sS 0 3 Try.underlying52 rfl infTo hW42 trivial rfl rfl rfl rfl ?_
          refine sfEnd0 trivial rfl rfl ?_
          refine sbInt 0 hW42 trivial rfl rfl rfl rfl ?_
          refine seq trivial rfl rfl rfl ?_
          refine sc_3 cf61 hW42 (toCode_any (x.op == 2) hs.2.2.1 hs.2.2.2 hbl) trivial rfl rfl rfl rfl ?_
          clear hW42; intro w51 hW51
          refine sa trivial rfl rfl ?_
          refine St.nil fun a52 h52 => ?_
          refine hK50 _ _ ?_
          refine wp_ret ?_
          repeat (first | with_reducible refine of_then_ret ?_ | with_reducible refine of_block_ret ?_)
          have R : x.form bl = x.no.form bl (x.op == 2) := by
           rw [endForm_eq]
           have hY := hc49.out
           generalize x.yes.form bl (x.op != 3) = yv at hY ⊢
           generalize x.no.form bl (x.op == 2) = zv
           first | (simp [hc12, hc17, hc20, hc25.out, hc28, hc33, hc39, hY]; done) | (exfalso; have := hc12; have := hc17; have := hc20; have := hc25.out; have := hc28; have := hc33; have := hc39; omega)
          exact ret_tmp (t := 4) h52 rfl rfl ⟨by rw [R], hW51.bel⟩
      ·rw [hb] at h27
       have h9 : x.op = 3 := bne_eq_false_iff_eq.1 hb
       have hc53 : Hid (x.op = 3) := h9
       clear h9
       clear hb
       refine St.go h27 ?_; clear h27 a27
       refine so hg3 rfl rfl rfl rfl ?_
       refine so hg3 rfl rfl rfl rfl ?_
       refine so hg3 rfl rfl rfl rfl ?_
       refine so hg3 rfl rfl rfl rfl ?_
       refine spf trivial rfl rfl rfl ?_
       refine sa trivial rfl rfl ?_
       refine St.nil fun a54 h54 => ?_
       refine hK26 _ _ ?_
       refine fr_false (t := 24) h54 rfl ?_
       refine wp_seq_k ?_
       intro K55 hK55
       refine fr_region ?_
       intro ops hops
       clear hops
       refine St.go h54 ?_; clear h54 a54
       refine sfEnd4 trivial rfl rfl ?_
       refine sbInts 0 hW3 trivial rfl rfl rfl rfl ?_
       refine slInts trivial rfl rfl ?_
       refine sgt trivial rfl rfl rfl ?_
       refine sa trivial rfl rfl ?_
       refine St.nil fun a56 h56 => ?_
       refine hK55 _ _ ?_
       refine fr_cond (t := 34) h56 rfl (fun hb => ?_) (fun hb => ?_)
       ·have hc57 : 8 < x.args.length := by have := of_decide_eq_true hb; omega
        clear hb
        refine wp_seq_k ?_
        intro K58 hK58
        refine fr_region ?_
        intro ops hops
        clear hops
        refine St.go h56 ?_; clear h56 a56
        refine sa trivial rfl rfl ?_
        refine St.nil fun a59 h59 => ?_
        refine hK58 _ _ ?_
        refine wp_ret ?_
        repeat (first | with_reducible refine of_then_ret ?_ | with_reducible refine of_block_ret ?_)
        have R : x.form bl = 2 := by
         rw [endForm_eq]
         generalize x.yes.form bl (x.op != 3) = yv
         generalize x.no.form bl (x.op == 2) = zv
         first | (simp [hc12, hc17, hc20, hc25.out, hc53.out, hc57]; done) | (exfalso; have := hc12; have := hc17; have := hc20; have := hc25.out; have := hc53.out; have := hc57; omega)
        exact ret_tmp (t := 4) h59 rfl rfl ⟨by rw [R], hW3.bel⟩
       ·have hc60 : ¬ (8 < x.args.length) := by have := of_decide_eq_false hb; omega
        clear hb
        refine wp_skip ?_
        refine hK5 _ _ ?_
        refine wp_seq_k ?_
        intro K61 hK61
        refine wp_seq_k ?_
        intro K62 hK62
        refine fr_region ?_
        intro ops hops
        clear hops
        refine St.go h56 ?_; clear h56 a56
        refine sS 1 4 Try.underlying50 rfl infFunc hW3 trivial rfl rfl rfl rfl ?_
        refine sfEnd2 trivial rfl rfl ?_
        refine sS 0 3 Try.underlying52 rfl infTo hW3 trivial rfl rfl rfl rfl ?_
        refine sfEnd0 trivial rfl rfl ?_
        refine sbInt 0 hW3 trivial rfl rfl rfl rfl ?_
        refine sne trivial rfl rfl rfl ?_
        refine sc_3 cf61 hW3 (toCode_any (x.op != 3) hs.1 hs.2.1 hbl) trivial rfl rfl rfl rfl ?_
        clear hW3; intro w63 hW63
        refine sa trivial rfl rfl ?_
        refine St.nil fun a64 h64 => ?_
        refine hK62 _ _ ?_
        refine wp_seq_k ?_
        intro K65 hK65
        refine fr_region ?_
        intro ops hops
        clear hops
        refine St.go h64 ?_; clear h64 a64
        refine sm trivial rfl rfl ?_
        refine sne trivial rfl rfl rfl ?_
        refine St.nil fun a66 h66 => ?_
        refine hK65 _ _ ?_
        refine fr_cond (t := 47) h66 rfl (fun hb => ?_) (fun hb => ?_)
        ·have h9 : ¬ (x.yes.form bl (x.op != 3)) = 0 := bne_iff_ne.1 hb
         have hc67 : ¬ (x.yes.form bl (x.op != 3)) = 0 := h9
         clear h9
         clear hb
         refine wp_seq_k ?_
         intro K68 hK68
         refine fr_region ?_
         intro ops hops
         clear hops
         refine St.go h66 ?_; clear h66 a66
         refine sm trivial rfl rfl ?_
         refine sa trivial rfl rfl ?_
         refine St.nil fun a69 h69 => ?_
         refine hK68 _ _ ?_
         refine wp_ret ?_
         repeat (first | with_reducible refine of_then_ret ?_ | with_reducible refine of_block_ret ?_)
         have R : x.form bl = x.yes.form bl (x.op != 3) := by
          rw [endForm_eq]
          have hY := hc67
          generalize x.yes.form bl (x.op != 3) = yv at hY ⊢
          generalize x.no.form bl (x.op == 2) = zv
          first | (simp [hc12, hc17, hc20, hc25.out, hc53.out, hc60, hY]; done) | (exfalso; have := hc12; have := hc17; have := hc20; have := hc25.out; have := hc53.out; have := hc60; omega)
         exact ret_tmp (t := 4) h69 rfl rfl ⟨by rw [R], hW63.bel⟩
        ·have h9 : (x.yes.form bl (x.op != 3)) = 0 := bne_eq_false_iff_eq.1 hb
         have hc70 : Hid ((x.yes.form bl (x.op != 3)) = 0) := h9
         clear h9
         clear hb
         refine wp_skip ?_
         refine hK61 _ _ ?_
         refine wp_seq_k ?_
         intro K71 hK71
         refine fr_region ?_
         intro ops hops
         clear hops
         refine St.go h66 ?_; clear h66 a66
         refine sS 1 4 Try.underlying50 rfl infFunc hW63 trivial rfl rfl rfl rfl ?_
         refine sfEnd3 trivial rfl rfl ?_
         refine sS 0 3 Try.underlying52 rfl infTo hW63 trivial rfl rfl rfl rfl ?_
         refine sfEnd0 trivial rfl rfl ?_
         refine sbInt 0 hW63 trivial rfl rfl rfl rfl ?_
         refine seq trivial rfl rfl rfl ?_
         refine sc_3 cf61 hW63 (toCode_any (x.op == 2) hs.2.2.1 hs.2.2.2 hbl) trivial rfl rfl rfl rfl ?_
         clear hW63; intro w72 hW72
         refine sa trivial rfl rfl ?_
         refine St.nil fun a73 h73 => ?_
         refine hK71 _ _ ?_
         refine wp_ret ?_
         repeat (first | with_reducible refine of_then_ret ?_ | with_reducible refine of_block_ret ?_)
         have R : x.form bl = x.no.form bl (x.op == 2) := by
          rw [endForm_eq]
          have hY := hc70.out
          generalize x.yes.form bl (x.op != 3) = yv at hY ⊢
          generalize x.no.form bl (x.op == 2) = zv
          first | (simp [hc12, hc17, hc20, hc25.out, hc53.out, hc60, hY]; done) | (exfalso; have := hc12; have := hc17; have := hc20; have := hc25.out; have := hc53.out; have := hc60; omega)
         exact ret_tmp (t := 4) h73 rfl rfl ⟨by rw [R], hW72.bel⟩
    ·rw [hb] at h19
     have h9 : x.op = 2 := bne_eq_false_iff_eq.1 hb
     have hc74 : Hid (x.op = 2) := h9
     clear h9
     clear hb
     refine St.go h19 ?_; clear h19 a19
     refine so hg3 rfl rfl rfl rfl ?_
     refine so hg3 rfl rfl rfl rfl ?_
     refine so hg3 rfl rfl rfl rfl ?_
     refine spf trivial rfl rfl rfl ?_
     refine sa trivial rfl rfl ?_
     refine St.nil fun a75 h75 => ?_
     refine hK18 _ _ ?_
     refine fr_false (t := 15) h75 rfl ?_
     refine wp_seq_k ?_
     intro K76 hK76
     refine fr_region ?_
     intro ops hops
     have hg3 : (ops[3]?).bind (fun o : Oper => o.dst) = some 28 := hops 3
     clear hops
     refine St.go h75 ?_; clear h75 a75
     refine sfEnd0 trivial rfl rfl ?_
     refine sbInt 0 hW3 trivial rfl rfl rfl rfl ?_
     refine sne trivial rfl rfl rfl ?_
     refine sm trivial rfl rfl ?_
     intro a77 h77
     rcases Bool.eq_false_or_eq_true (x.op != 3) with hb | hb
     ·rw [hb] at h77
      have h9 : ¬ x.op = 3 := bne_iff_ne.1 hb
      have hc78 : ¬ x.op = 3 := h9
      clear h9
      clear hb
      refine St.go h77 ?_; clear h77 a77
      refine sfEnd4 ⟨_, hg3, rfl, rfl⟩ rfl rfl ?_
      refine sbInts 0 hW3 ⟨_, hg3, rfl, rfl⟩ rfl rfl rfl rfl ?_
      refine slInts ⟨_, hg3, rfl, rfl⟩ rfl rfl ?_
      refine sgt ⟨_, hg3, rfl, rfl⟩ rfl rfl rfl ?_
      refine sp trivial rfl rfl rfl ?_
      refine sa trivial rfl rfl ?_
      refine St.nil fun a79 h79 => ?_
      refine hK76 _ _ ?_
      refine fr_cond (t := 24) h79 rfl (fun hb => ?_) (fun hb => ?_)
      ·have hc80 : 0 < x.args.length := by have := of_decide_eq_true hb; omega
       clear hb
       refine wp_seq_k ?_
       intro K81 hK81
       refine fr_region ?_
       intro ops hops
       clear hops
       refine St.go h79 ?_; clear h79 a79
       refine sa trivial rfl rfl ?_
       refine St.nil fun a82 h82 => ?_
       refine hK81 _ _ ?_
       refine wp_ret ?_
       repeat (first | with_reducible refine of_then_ret ?_ | with_reducible refine of_block_ret ?_)
       have R : x.form bl = 4 := by
        rw [endForm_eq]
        generalize x.yes.form bl (x.op != 3) = yv
        generalize x.no.form bl (x.op == 2) = zv
        first | (simp [hc12, hc17, hc74.out, hc78, hc80]; done) | (exfalso; have := hc12; have := hc17; have := hc74.out; have := hc78; have := hc80; omega)
       exact ret_tmp (t := 4) h82 rfl rfl ⟨by rw [R], hW3.bel⟩
      ·have hc83 : ¬ (0 < x.args.length) := by have := of_decide_eq_false hb; omega
       clear hb
       refine wp_seq_k ?_
       intro K84 hK84
       refine fr_region ?_
       intro ops hops
       clear hops
       refine St.go h79 ?_; clear h79 a79
       refine sfEnd4 trivial rfl rfl ?_
       refine sbInts 0 hW3 trivial rfl rfl rfl rfl ?_
       refine slInts trivial rfl rfl ?_
       refine sgt trivial rfl rfl rfl ?_
       refine sa trivial rfl rfl ?_
       refine St.nil fun a85 h85 => ?_
       refine hK84 _ _ ?_
       refine fr_cond (t := 34) h85 rfl (fun hb => ?_) (fun hb => ?_)
       ·have hc86 : 8 < x.args.length := by have := of_decide_eq_true hb; omega
        clear hb
        refine wp_seq_k ?_
        intro K87 hK87
        refine fr_region ?_
        intro ops hops
        clear hops
        refine St.go h85 ?_; clear h85 a85
        refine sa trivial rfl rfl ?_
        refine St.nil fun a88 h88 => ?_
        refine hK87 _ _ ?_
        refine wp_ret ?_
        repeat (first | with_reducible refine of_then_ret ?_ | with_reducible refine of_block_ret ?_)
        have R : x.form bl = 2 := by
         rw [endForm_eq]
         generalize x.yes.form bl (x.op != 3) = yv
         generalize x.no.form bl (x.op == 2) = zv
         first | (simp [hc12, hc17, hc74.out, hc78, hc83, hc86]; done) | (exfalso; have := hc12; have := hc17; have := hc74.out; have := hc78; have := hc83; have := hc86; omega)
        exact ret_tmp (t := 4) h88 rfl rfl ⟨by rw [R], hW3.bel⟩
       ·have hc89 : ¬ (8 < x.args.length) := by have := of_decide_eq_false hb; omega
        clear hb
        refine wp_skip ?_
        refine hK5 _ _ ?_
        refine wp_seq_k ?_
        intro K90 hK90
        refine wp_seq_k ?_
        intro K91 hK91
        refine fr_region ?_
        intro ops hops
        clear hops
        refine St.go h85 ?_; clear h85 a85
        refine sS 1 4 Try.underlying50 rfl infFunc hW3 trivial rfl rfl rfl rfl ?_
        refine sfEnd2 trivial rfl rfl ?_
        refine sS 0 3 Try.underlying52 rfl infTo hW3 trivial rfl rfl rfl rfl ?_
        refine sfEnd0 trivial rfl rfl ?_
        refine sbInt 0 hW3 trivial rfl rfl rfl rfl ?_
        refine sne trivial rfl rfl rfl ?_
        refine sc_3 cf61 hW3 (toCode_any (x.op != 3) hs.1 hs.2.1 hbl) trivial rfl rfl rfl rfl ?_
        clear hW3; intro w92 hW92
        refine sa trivial rfl rfl ?_
        refine St.nil fun a93 h93 => ?_
        refine hK91 _ _ ?_
        refine wp_seq_k ?_
        intro K94 hK94
        refine fr_region ?_
        intro ops hops
        clear hops
        refine St.go h93 ?_; clear h93 a93
        refine sm trivial rfl rfl ?_
        refine sne trivial rfl rfl rfl ?_
        refine St.nil fun a95 h95 => ?_
        refine hK94 _ _ ?_
        refine fr_cond (t := 47) h95 rfl (fun hb => ?_) (fun hb => ?_)
        ·have h9 : ¬ (x.yes.form bl (x.op != 3)) = 0 := bne_iff_ne.1 hb
         have hc96 : ¬ (x.yes.form bl (x.op != 3)) = 0 := h9
         clear h9
         clear hb
         refine wp_seq_k ?_
         intro K97 hK97
         refine fr_region ?_
         intro ops hops
         clear hops
         refine St.go h95 ?_; clear h95 a95
         refine sm trivial rfl rfl ?_
         refine sa trivial rfl rfl ?_
         refine St.nil fun a98 h98 => ?_
         refine hK97 _ _ ?_
         refine wp_ret ?_
         repeat (first | with_reducible refine of_then_ret ?_ | with_reducible refine of_block_ret ?_)
         have R : x.form bl = x.yes.form bl (x.op != 3) := by
          rw [endForm_eq]
          have hY := hc96
          generalize x.yes.form bl (x.op != 3) = yv at hY ⊢
          generalize x.no.form bl (x.op == 2) = zv
          first | (simp [hc12, hc17, hc74.out, hc78, hc83, hc89, hY]; done) | (exfalso; have := hc12; have := hc17; have := hc74.out; have := hc78; have := hc83; have := hc89; omega)
         exact ret_tmp (t := 4) h98 rfl rfl ⟨by rw [R], hW92.bel⟩
        ·have h9 : (x.yes.form bl (x.op != 3)) = 0 := bne_eq_false_iff_eq.1 hb
         have hc99 : Hid ((x.yes.form bl (x.op != 3)) = 0) := h9
         clear h9
         clear hb
         refine wp_skip ?_
         refine hK90 _ _ ?_
         refine wp_seq_k ?_
         intro K100 hK100
         refine fr_region ?_
         intro ops hops
         clear hops
         refine St.go h95 ?_; clear h95 a95
         refine sS 1 4 Try.underlying50 rfl infFunc hW92 trivial rfl rfl rfl rfl ?_
         refine sfEnd3 trivial rfl rfl ?_
         refine sS 0 3 Try.underlying52 rfl infTo hW92 trivial rfl rfl rfl rfl ?_
         refine sfEnd0 trivial rfl rfl ?_
         refine sbInt 0 hW92 trivial rfl rfl rfl rfl ?_
         refine seq trivial rfl rfl rfl ?_
         refine sc_3 cf61 hW92 (toCode_any (x.op == 2) hs.2.2.1 hs.2.2.2 hbl) trivial rfl rfl rfl rfl ?_
         clear hW92; intro w101 hW101
         refine sa trivial rfl rfl ?_
         refine St.nil fun a102 h102 => ?_
         refine hK100 _ _ ?_
         refine wp_ret ?_
         repeat (first | with_reducible refine of_then_ret ?_ | with_reducible refine of_block_ret ?_)
         have R : x.form bl = x.no.form bl (x.op == 2) := by
          rw [endForm_eq]
          have hY := hc99.out
          generalize x.yes.form bl (x.op != 3) = yv at hY ⊢
          generalize x.no.form bl (x.op == 2) = zv
          first | (simp [hc12, hc17, hc74.out, hc78, hc83, hc89, hY]; done) | (exfalso; have := hc12; have := hc17; have := hc74.out; have := hc78; have := hc83; have := hc89; omega)
         exact ret_tmp (t := 4) h102 rfl rfl ⟨by rw [R], hW101.bel⟩
     ·rw [hb] at h77
      have h9 : x.op = 3 := bne_eq_false_iff_eq.1 hb
      have hc103 : Hid (x.op = 3) := h9
      clear h9
      clear hb
      refine St.go h77 ?_; clear h77 a77
      refine so hg3 rfl rfl rfl rfl ?_
      refine so hg3 rfl rfl rfl rfl ?_
      refine so hg3 rfl rfl rfl rfl ?_
      refine so hg3 rfl rfl rfl rfl ?_
      refine spf trivial rfl rfl rfl ?_
      refine sa trivial rfl rfl ?_
      refine St.nil fun a104 h104 => ?_
      refine hK76 _ _ ?_
      refine fr_false (t := 24) h104 rfl ?_
      refine wp_seq_k ?_
      intro K105 hK105
      refine fr_region ?_
      intro ops hops
      clear hops
      refine St.go h104 ?_; clear h104 a104
      refine sfEnd4 trivial rfl rfl ?_
      refine sbInts 0 hW3 trivial rfl rfl rfl rfl ?_
      refine slInts trivial rfl rfl ?_
      refine sgt trivial rfl rfl rfl ?_
      refine sa trivial rfl rfl ?_
      refine St.nil fun a106 h106 => ?_
      refine hK105 _ _ ?_
      refine fr_cond (t := 34) h106 rfl (fun hb => ?_) (fun hb => ?_)
      ·have hc107 : 8 < x.args.length := by have := of_decide_eq_true hb; omega
       clear hb
       refine wp_seq_k ?_
       intro K108 hK108
       refine fr_region ?_
       intro ops hops
       clear hops
       refine St.go h106 ?_; clear h106 a106
       refine sa trivial rfl rfl ?_
       refine St.nil fun a109 h109 => ?_
       refine hK108 _ _ ?_
       refine wp_ret ?_
       repeat (first | with_reducible refine of_then_ret ?_ | with_reducible refine of_block_ret ?_)
       have R : x.form bl = 2 := by
        rw [endForm_eq]
        generalize x.yes.form bl (x.op != 3) = yv
        generalize x.no.form bl (x.op == 2) = zv
        first | (simp [hc12, hc17, hc74.out, hc103.out, hc107]; done) | (exfalso; have := hc12; have := hc17; have := hc74.out; have := hc103.out; have := hc107; omega)
       exact ret_tmp (t := 4) h109 rfl rfl ⟨by rw [R], hW3.bel⟩
      ·have hc110 : ¬ (8 < x.args.length) := by have := of_decide_eq_false hb; omega
       clear hb
       refine wp_skip ?_
       refine hK5 _ _ ?_
       refine wp_seq_k ?_
       intro K111 hK111
       refine wp_seq_k ?_
       intro K112 hK112
       refine fr_region ?_
       intro ops hops
       clear hops
       refine St.go h106 ?_; clear h106 a106
       refine sS 1 4 Try.underlying50 rfl infFunc hW3 trivial rfl rfl rfl rfl ?_
       refine sfEnd2 trivial rfl rfl ?_
       refine sS 0 3 Try.underlying52 rfl infTo hW3 trivial rfl rfl rfl rfl ?_
       refine sfEnd0 trivial rfl rfl ?_
       refine sbInt 0 hW3 trivial rfl rfl rfl rfl ?_
       refine sne trivial rfl rfl rfl ?_
       refine sc_3 cf61 hW3 (toCode_any (x.op != 3) hs.1 hs.2.1 hbl) trivial rfl rfl rfl rfl ?_
       clear hW3; intro w113 hW113
       refine sa trivial rfl rfl ?_
       refine St.nil fun a114 h114 => ?_
       refine hK112 _ _ ?_
       refine wp_seq_k ?_
       intro K115 hK115
       refine fr_region ?_
       intro ops hops
       clear hops
       refine St.go h114 ?_; clear h114 a114
       refine sm trivial rfl rfl ?_
       refine sne trivial rfl rfl rfl ?_
       refine St.nil fun a116 h116 => ?_
       refine hK115 _ _ ?_
       refine fr_cond (t := 47) h116 rfl (fun hb => ?_) (fun hb => ?_)
       ·have h9 : ¬ (x.yes.form bl (x.op != 3)) = 0 := bne_iff_ne.1 hb
        have hc117 : ¬ (x.yes.form bl (x.op != 3)) = 0 := h9
        clear h9
        clear hb
        refine wp_seq_k ?_
        intro K118 hK118
        refine fr_region ?_
        intro ops hops
        clear hops
        refine St.go h116 ?_; clear h116 a116
        refine sm trivial rfl rfl ?_
        refine sa trivial rfl rfl ?_
        refine St.nil fun a119 h119 => ?_
        refine hK118 _ _ ?_
        refine wp_ret ?_
        repeat (first | with_reducible refine of_then_ret ?_ | with_reducible refine of_block_ret ?_)
        have R : x.form bl = x.yes.form bl (x.op != 3) := by
         rw [endForm_eq]
         have hY := hc117
         generalize x.yes.form bl (x.op != 3) = yv at hY ⊢
         generalize x.no.form bl (x.op == 2) = zv
         first | (simp [hc12, hc17, hc74.out, hc103.out, hc110, hY]; done) | (exfalso; have := hc12; have := hc17; have := hc74.out; have := hc103.out; have := hc110; omega)
        exact ret_tmp (t := 4) h119 rfl rfl ⟨by rw [R], hW113.bel⟩
       ·have h9 : (x.yes.form bl (x.op != 3)) = 0 := bne_eq_false_iff_eq.1 hb
        have hc120 : Hid ((x.yes.form bl (x.op != 3)) = 0) := h9
        clear h9
        clear hb
        refine wp_skip ?_
        refine hK111 _ _ ?_
        refine wp_seq_k ?_
        intro K121 hK121
        refine fr_region ?_
        intro ops hops
        clear hops
        refine St.go h116 ?_; clear h116 a116
        refine sS 1 4 Try.underlying50 rfl infFunc hW113 trivial rfl rfl rfl rfl ?_
        refine sfEnd3 trivial rfl rfl ?_
        refine sS 0 3 Try.underlying52 rfl infTo hW113 trivial rfl rfl rfl rfl ?_
        refine sfEnd0 trivial rfl rfl ?_
        refine sbInt 0 hW113 trivial rfl rfl rfl rfl ?_
        refine seq trivial rfl rfl rfl ?_
        refine sc_3 cf61 hW113 (toCode_any (x.op == 2) hs.2.2.1 hs.2.2.2 hbl) trivial rfl rfl rfl rfl ?_
        clear hW113; intro w122 hW122
        refine sa trivial rfl rfl ?_
        refine St.nil fun a123 h123 => ?_
        refine hK121 _ _ ?_
        refine wp_ret ?_
        repeat (first | with_reducible refine of_then_ret ?_ | with_reducible refine of_block_ret ?_)
        have R : x.form bl = x.no.form bl (x.op == 2) := by
         rw [endForm_eq]
         have hY := hc120.out
         generalize x.yes.form bl (x.op != 3) = yv at hY ⊢
         generalize x.no.form bl (x.op == 2) = zv
         first | (simp [hc12, hc17, hc74.out, hc103.out, hc110, hY]; done) | (exfalso; have := hc12; have := hc17; have := hc74.out; have := hc103.out; have := hc110; omega)
        exact ret_tmp (t := 4) h123 rfl rfl ⟨by rw [R], hW122.bel⟩
end Go.Proofs.Ytmnmnokkojcodab
