/-
  CodeFault: the reference's first fault of a module.
-/
import Derived.Test.YtmnmnokkojcodabCodChk2
import Derived.Test.YtmnmnokkojcodabCodFormF
import Derived.Test.YtmnmnokkojcodabCodFormI
namespace Go.Proofs.Ytmnmnokkojcodab
open Go.ChangeShapes Go.WideShapes Go.ChangeAt Go.RowKit
set_option linter.unusedVariables false
set_option linter.unusedSimpArgs false

set_option maxHeartbeats 4000000 in
set_option maxRecDepth 100000 in
theorem blockFault_any {n : Nat} {m : List (MFunc n)} {p : Option Addr} {c fi bi : Nat} {x : MFunc n} {y : MBlock n} {w : World} (hm0 : (modL n).In w All m [.slice p m.length c]) (hs0 : msmall m) (hx1 : m[fi]? = some x) (hx2 : x.blocks[bi]? = some y) :
    Rd Try.prog 50 #[.agg #[.slice p m.length c], .int .i64 (fi : Int), .int .i64 (bi : Int)] w (faultV (MBlock.fault m.length fi x bi y)) := by
  have hlt1 : fi < m.length := (List.getElem?_eq_some_iff.1 hx1).1
  have hlt2 : bi < x.blocks.length := (List.getElem?_eq_some_iff.1 hx2).1
  have hs1 : Hid x.small := hs0.2 _ (List.mem_of_getElem? hx1)
  have hs2 : Hid y.small := hs1.out.2.2.2 _ (List.mem_of_getElem? hx2)
  have hmb := hs0.1
  have hxb := hs1.out.1
  have hyb := hs2.out.1
  obtain ⟨g1, o1, f1, hp1, E1, In1⟩ := func_at hm0 hx1
  obtain ⟨g2, o2, b2, hp2, E2, In2⟩ := block_at In1.blocks hx2
  replace E1 : Hid _ := E1
  replace E2 : Hid _ := E2
  clear hm0 hs0
  replace In1 : Hid _ := In1
  replace In2 : Hid _ := In2
  replace hp1 : Hid _ := hp1
  replace hp2 : Hid _ := hp2
  replace hx1 : Hid _ := hx1
  replace hx2 : Hid _ := hx2
  refine fr_enter (n := 112) Try.func50 rfl rfl rfl ?_
  intro a hF
  have hW := Wd.start w
  replace hF : Fr 112 a [(0, .agg #[.slice p m.length c]), (1, .int .i64 (fi : Int)), (2, .int .i64 (bi : Int))] := hF
  refine wp_seq_k ?_
  intro K1 hK1
  refine fr_region ?_
  intro ops hops
  clear hops
  refine St.go hF ?_; clear hF a
  refine sB hW trivial rfl rfl ?_
  clear hW; intro w2 B2 hW2 hN; clear hN
  refine sAFault hW2 trivial rfl ?_
  clear hW2; intro w3 B3 hW3 hN; clear hN
  refine St.nil fun a4 h4 => ?_
  refine hK1 _ _ ?_
  refine wp_seq_k ?_
  intro K5 hK5
  refine fr_region ?_
  intro ops hops
  clear hops
  refine St.go h4 ?_; clear h4 a4
  refine sfModule0 trivial rfl rfl ?_
  refine sbFuncs 1 hW3 trivial rfl rfl rfl rfl ?_
  refine sm trivial rfl rfl ?_
  refine siFuncs hp1.out hlt1 trivial rfl rfl rfl ?_
  refine sSE Try.underlying50 rfl (rangeAt_bel E1.out hW3.bel) infFunc trivial rfl rfl ?_
  refine sAFunc hW3 trivial rfl ?_
  clear hW3; intro w6 B6 hW6 hN; clear hN
  refine sT 0 hW6 rfl rfl infFunc rfl rfl rfl ?_
  clear hW6; intro w7 hW7
  refine St.nil fun a8 h8 => ?_
  refine hK5 _ _ ?_
  refine wp_seq_k ?_
  intro K9 hK9
  refine fr_region ?_
  intro ops hops
  clear hops
  refine St.go h8 ?_; clear h8 a8
  refine sfFunc3 trivial rfl rfl ?_
  refine sbBlocks 0 hW7 trivial rfl rfl rfl rfl ?_
  refine sm trivial rfl rfl ?_
  refine siBlocks hp2.out hlt2 trivial rfl rfl rfl ?_
  refine sSE Try.underlying77 rfl (rangeAt_bel E2.out hW7.bel) infBlock trivial rfl rfl ?_
  refine sABlock hW7 trivial rfl ?_
  clear hW7; intro w10 B10 hW10 hN; clear hN
  refine sT 0 hW10 rfl rfl infBlock rfl rfl rfl ?_
  clear hW10; intro w11 hW11
  refine St.nil fun a12 h12 => ?_
  refine hK9 _ _ ?_
  refine wp_seq_k ?_
  intro K13 hK13
  refine wp_seq_k ?_
  intro K14 hK14
  refine fr_region ?_
  intro ops hops
  have hg5 : (ops[5]?).bind (fun o : Oper => o.dst) = some 28 := hops 5
  clear hops
  refine St.go h12 ?_; clear h12 a12
  refine sfBlock0 trivial rfl rfl ?_
  refine sbInt 0 hW11 trivial rfl rfl rfl rfl ?_
  refine sfFunc0 trivial rfl rfl ?_
  refine sbInt 1 hW11 trivial rfl rfl rfl rfl ?_
  refine slt trivial rfl rfl rfl ?_
  refine sm trivial rfl rfl ?_
  intro a15 h15
  rcases Bool.eq_false_or_eq_true (decide (y.regs < x.regs)) with hb | hb
  ·rw [hb] at h15
   have hc16 : y.regs < x.regs := of_decide_eq_true hb
   clear hb
   refine St.go h15 ?_; clear h15 a15
   refine so hg5 rfl rfl rfl rfl ?_
   refine so hg5 rfl rfl rfl rfl ?_
   refine so hg5 rfl rfl rfl rfl ?_
   refine sp trivial rfl rfl rfl ?_
   refine St.nil fun a17 h17 => ?_
   refine hK14 _ _ ?_
   refine fr_true (t := 32) h17 rfl ?_
   refine wp_seq_k ?_
   intro K18 hK18
   refine fr_region ?_
   intro ops hops
   clear hops
   refine St.go h17 ?_; clear h17 a17
   refine sm trivial rfl rfl ?_
   refine sm trivial rfl rfl ?_
   refine sc_2 cf27 hW11 (atBlock_any (f := fi) (b := bi) ⟨by omega, by omega⟩) trivial rfl rfl rfl ?_
   clear hW11; intro w19 hW19
   refine sc_2 cf48 hW19 (fF_any (xc := 1) (xp := 10000 * (fi : Int) + 100 * (bi : Int) + 90)) trivial rfl rfl rfl ?_
   clear hW19; intro w20 hW20
   refine sT 2 hW20 rfl rfl infFault rfl rfl rfl ?_
   clear hW20; intro w21 hW21
   refine St.nil fun a22 h22 => ?_
   refine hK18 _ _ ?_
   refine wp_ret ?_
   repeat (first | with_reducible refine of_then_ret ?_ | with_reducible refine of_block_ret ?_)
   have RC : y.code' x bi = 1 := if_pos (by omega)
   have EF := MBlock.fault_eq m.length fi x bi y
   rw [RC, if_neg (by omega)] at EF
   exact ret_box 2 h22 hW21 rfl rfl rfl Try.underlying26 rfl infFault ⟨by show Ending.returned (.agg #[.int .i64 1, .int .i64 (10000 * (fi : Int) + 100 * (bi : Int) + 90)]) = _; rw [EF], hW21.bel⟩
  ·rw [hb] at h15
   have hc23 : ¬ (y.regs < x.regs) := of_decide_eq_false hb
   clear hb
   refine St.go h15 ?_; clear h15 a15
   refine sfBlock0 ⟨_, hg5, rfl, rfl⟩ rfl rfl ?_
   refine sbInt 0 hW11 ⟨_, hg5, rfl, rfl⟩ rfl rfl rfl rfl ?_
   refine sgt ⟨_, hg5, rfl, rfl⟩ rfl rfl rfl ?_
   refine spf trivial rfl rfl rfl ?_
   refine St.nil fun a24 h24 => ?_
   refine hK14 _ _ ?_
   refine fr_cond (t := 32) h24 rfl (fun hb => ?_) (fun hb => ?_)
   ·have hc25 : 16 < y.regs := of_decide_eq_true hb
    clear hb
    refine wp_seq_k ?_
    intro K26 hK26
    refine fr_region ?_
    intro ops hops
    clear hops
    refine St.go h24 ?_; clear h24 a24
    refine sm trivial rfl rfl ?_
    refine sm trivial rfl rfl ?_
    refine sc_2 cf27 hW11 (atBlock_any (f := fi) (b := bi) ⟨by omega, by omega⟩) trivial rfl rfl rfl ?_
    clear hW11; intro w27 hW27
    refine sc_2 cf48 hW27 (fF_any (xc := 1) (xp := 10000 * (fi : Int) + 100 * (bi : Int) + 90)) trivial rfl rfl rfl ?_
    clear hW27; intro w28 hW28
    refine sT 2 hW28 rfl rfl infFault rfl rfl rfl ?_
    clear hW28; intro w29 hW29
    refine St.nil fun a30 h30 => ?_
    refine hK26 _ _ ?_
    refine wp_ret ?_
    repeat (first | with_reducible refine of_then_ret ?_ | with_reducible refine of_block_ret ?_)
    have RC : y.code' x bi = 1 := if_pos (by omega)
    have EF := MBlock.fault_eq m.length fi x bi y
    rw [RC, if_neg (by omega)] at EF
    exact ret_box 2 h30 hW29 rfl rfl rfl Try.underlying26 rfl infFault ⟨by show Ending.returned (.agg #[.int .i64 1, .int .i64 (10000 * (fi : Int) + 100 * (bi : Int) + 90)]) = _; rw [EF], hW29.bel⟩
   ·have hc31 : ¬ (16 < y.regs) := of_decide_eq_false hb
    clear hb
    refine wp_skip ?_
    refine hK13 _ _ ?_
    refine wp_seq_k ?_
    intro K32 hK32
    refine wp_seq_k ?_
    intro K33 hK33
    refine fr_region ?_
    intro ops hops
    clear hops
    refine St.go h24 ?_; clear h24 a24
    refine sfBlock1 trivial rfl rfl ?_
    refine sbTypes 0 hW11 trivial rfl rfl rfl rfl ?_
    refine sfBlock0 trivial rfl rfl ?_
    refine sbInt 0 hW11 trivial rfl rfl rfl rfl ?_
    refine sc_2 cf49 hW11 (listForm_any (regs := y.regs) (Lay.below In2.out.params hW11.bel) hs2.out.2.1) trivial rfl rfl rfl ?_
    clear hW11; intro w34 hW34
    refine sa trivial rfl rfl ?_
    refine St.nil fun a35 h35 => ?_
    refine hK33 _ _ ?_
    refine wp_seq_k ?_
    intro K36 hK36
    refine fr_region ?_
    intro ops hops
    clear hops
    refine St.go h35 ?_; clear h35 a35
    refine sm trivial rfl rfl ?_
    refine sne trivial rfl rfl rfl ?_
    refine St.nil fun a37 h37 => ?_
    refine hK36 _ _ ?_
    refine fr_cond (t := 43) h37 rfl (fun hb => ?_) (fun hb => ?_)
    ·have h9 : ¬ (listC y.regs y.params) = 0 := bne_iff_ne.1 hb
     have hc38 : ¬ (listC y.regs y.params) = 0 := h9
     clear h9
     clear hb
     refine wp_seq_k ?_
     intro K39 hK39
     refine fr_region ?_
     intro ops hops
     clear hops
     refine St.go h37 ?_; clear h37 a37
     refine sm trivial rfl rfl ?_
     refine sm trivial rfl rfl ?_
     refine sm trivial rfl rfl ?_
     refine sc_2 cf27 hW34 (atBlock_any (f := fi) (b := bi) ⟨by omega, by omega⟩) trivial rfl rfl rfl ?_
     clear hW34; intro w40 hW40
     refine sc_2 cf48 hW40 (fF_any (xc := listC y.regs y.params) (xp := 10000 * (fi : Int) + 100 * (bi : Int) + 90)) trivial rfl rfl rfl ?_
     clear hW40; intro w41 hW41
     refine sT 2 hW41 rfl rfl infFault rfl rfl rfl ?_
     clear hW41; intro w42 hW42
     refine St.nil fun a43 h43 => ?_
     refine hK39 _ _ ?_
     refine wp_ret ?_
     repeat (first | with_reducible refine of_then_ret ?_ | with_reducible refine of_block_ret ?_)
     have RC : y.code' x bi = listC y.regs y.params := (if_neg (by omega)).trans (if_pos (by omega))
     have EF := MBlock.fault_eq m.length fi x bi y
     rw [RC, if_neg (by omega)] at EF
     exact ret_box 2 h43 hW42 rfl rfl rfl Try.underlying26 rfl infFault ⟨by show Ending.returned (.agg #[.int .i64 (listC y.regs y.params), .int .i64 (10000 * (fi : Int) + 100 * (bi : Int) + 90)]) = _; rw [EF], hW42.bel⟩
    ·have h9 : (listC y.regs y.params) = 0 := bne_eq_false_iff_eq.1 hb
     have hc44 : Hid ((listC y.regs y.params) = 0) := h9
     clear h9
     clear hb
     refine wp_skip ?_
     refine hK32 _ _ ?_
     refine wp_seq_k ?_
     intro K45 hK45
     refine wp_seq_k ?_
     intro K46 hK46
     refine fr_region ?_
     intro ops hops
     have hg2 : (ops[2]?).bind (fun o : Oper => o.dst) = some 51 := hops 2
     have hg8 : (ops[8]?).bind (fun o : Oper => o.dst) = some 57 := hops 8
     clear hops
     refine St.go h37 ?_; clear h37 a37
     refine sm trivial rfl rfl ?_
     refine seq trivial rfl rfl rfl ?_
     refine sm trivial rfl rfl ?_
     intro a47 h47
     rcases Bool.eq_false_or_eq_true ((bi : Int) == 0) with hb | hb
     ·rw [hb] at h47
      have h9 : bi = 0 := by have h8 := eq_of_beq hb; omega
      have hc48 : Hid (bi = 0) := h9
      clear h9
      clear hb
      refine St.go h47 ?_; clear h47 a47
      refine sfBlock0 ⟨_, hg2, rfl, rfl⟩ rfl rfl ?_
      refine sbInt 0 hW34 ⟨_, hg2, rfl, rfl⟩ rfl rfl rfl rfl ?_
      refine sfFunc0 ⟨_, hg2, rfl, rfl⟩ rfl rfl ?_
      refine sbInt 1 hW34 ⟨_, hg2, rfl, rfl⟩ rfl rfl rfl rfl ?_
      refine sne ⟨_, hg2, rfl, rfl⟩ rfl rfl rfl ?_
      refine sm ⟨_, hg2, rfl, rfl⟩ rfl rfl ?_
      intro a49 h49
      rcases Bool.eq_false_or_eq_true (y.regs != x.regs) with hb | hb
      ·rw [hb] at h49
       have h9 : ¬ y.regs = x.regs := bne_iff_ne.1 hb
       have hc50 : ¬ y.regs = x.regs := h9
       clear h9
       clear hb
       refine St.go h49 ?_; clear h49 a49
       refine so hg8 rfl rfl rfl rfl ?_
       refine so hg8 rfl rfl rfl rfl ?_
       refine so hg8 rfl rfl rfl rfl ?_
       refine so hg8 rfl rfl rfl rfl ?_
       refine so hg8 rfl rfl rfl rfl ?_
       refine so hg8 rfl rfl rfl rfl ?_
       refine sp ⟨_, hg2, rfl, rfl⟩ rfl rfl rfl ?_
       refine sp trivial rfl rfl rfl ?_
       refine St.nil fun a51 h51 => ?_
       refine hK46 _ _ ?_
       refine fr_true (t := 65) h51 rfl ?_
       refine wp_seq_k ?_
       intro K52 hK52
       refine fr_region ?_
       intro ops hops
       clear hops
       refine St.go h51 ?_; clear h51 a51
       refine sm trivial rfl rfl ?_
       refine sm trivial rfl rfl ?_
       refine sc_2 cf27 hW34 (atBlock_any (f := fi) (b := bi) ⟨by omega, by omega⟩) trivial rfl rfl rfl ?_
       clear hW34; intro w53 hW53
       refine sc_2 cf48 hW53 (fF_any (xc := 9) (xp := 10000 * (fi : Int) + 100 * (bi : Int) + 90)) trivial rfl rfl rfl ?_
       clear hW53; intro w54 hW54
       refine sT 2 hW54 rfl rfl infFault rfl rfl rfl ?_
       clear hW54; intro w55 hW55
       refine St.nil fun a56 h56 => ?_
       refine hK52 _ _ ?_
       refine wp_ret ?_
       repeat (first | with_reducible refine of_then_ret ?_ | with_reducible refine of_block_ret ?_)
       have := hc44.out
       have := hc48.out
       have RC : y.code' x bi = 9 := (if_neg (by omega)).trans ((if_neg (by omega)).trans (if_pos (⟨by omega, .inl (by omega)⟩)))
       have EF := MBlock.fault_eq m.length fi x bi y
       rw [RC, if_neg (by omega)] at EF
       exact ret_box 2 h56 hW55 rfl rfl rfl Try.underlying26 rfl infFault ⟨by show Ending.returned (.agg #[.int .i64 9, .int .i64 (10000 * (fi : Int) + 100 * (bi : Int) + 90)]) = _; rw [EF], hW55.bel⟩
      ·rw [hb] at h49
       have h9 : y.regs = x.regs := bne_eq_false_iff_eq.1 hb
       have hc57 : Hid (y.regs = x.regs) := h9
       clear h9
       clear hb
       refine St.go h49 ?_; clear h49 a49
       refine sfBlock1 ⟨_, hg8, rfl, rfl⟩ rfl rfl ?_
       refine sbTypes 0 hW34 ⟨_, hg8, rfl, rfl⟩ rfl rfl rfl rfl ?_
       refine sfFunc1 ⟨_, hg8, rfl, rfl⟩ rfl rfl ?_
       refine sbTypes 1 hW34 ⟨_, hg8, rfl, rfl⟩ rfl rfl rfl rfl ?_
       refine sc_2 cf51 hW34 (sameTypes_any (Lay.below In2.out.params hW34.bel) (Lay.below In1.out.params hW34.bel) hs2.out.2.1) ⟨_, hg8, rfl, rfl⟩ rfl rfl rfl ?_
       clear hW34; intro w58 hW58
       refine sn ⟨_, hg8, rfl, rfl⟩ rfl rfl ?_
       refine spf ⟨_, hg2, rfl, rfl⟩ rfl rfl rfl ?_
       refine sp trivial rfl rfl rfl ?_
       refine St.nil fun a59 h59 => ?_
       refine hK46 _ _ ?_
       refine fr_cond (t := 65) h59 rfl (fun hb => ?_) (fun hb => ?_)
       ·have hb : (bdec (y.params = x.params)) = false := by simpa using hb
        have hc60 : ¬ (y.params = x.params) := fun h => by rw [bdec_true h] at hb; cases hb
        clear hb
        refine wp_seq_k ?_
        intro K61 hK61
        refine fr_region ?_
        intro ops hops
        clear hops
        refine St.go h59 ?_; clear h59 a59
        refine sm trivial rfl rfl ?_
        refine sm trivial rfl rfl ?_
        refine sc_2 cf27 hW58 (atBlock_any (f := fi) (b := bi) ⟨by omega, by omega⟩) trivial rfl rfl rfl ?_
        clear hW58; intro w62 hW62
        refine sc_2 cf48 hW62 (fF_any (xc := 9) (xp := 10000 * (fi : Int) + 100 * (bi : Int) + 90)) trivial rfl rfl rfl ?_
        clear hW62; intro w63 hW63
        refine sT 2 hW63 rfl rfl infFault rfl rfl rfl ?_
        clear hW63; intro w64 hW64
        refine St.nil fun a65 h65 => ?_
        refine hK61 _ _ ?_
        refine wp_ret ?_
        repeat (first | with_reducible refine of_then_ret ?_ | with_reducible refine of_block_ret ?_)
        have := hc44.out
        have := hc48.out
        have := hc57.out
        have RC : y.code' x bi = 9 := (if_neg (by omega)).trans ((if_neg (by omega)).trans (if_pos (⟨by omega, takes_no (fun h9 => hc60 h9.2)⟩)))
        have EF := MBlock.fault_eq m.length fi x bi y
        rw [RC, if_neg (by omega)] at EF
        exact ret_box 2 h65 hW64 rfl rfl rfl Try.underlying26 rfl infFault ⟨by show Ending.returned (.agg #[.int .i64 9, .int .i64 (10000 * (fi : Int) + 100 * (bi : Int) + 90)]) = _; rw [EF], hW64.bel⟩
       ·have hb : (bdec (y.params = x.params)) = true := by simpa using hb
        have hc66 : (y.params = x.params) := bdec_iff.1 hb
        clear hb
        refine wp_skip ?_
        refine hK45 _ _ ?_
        refine wp_seq_k ?_
        intro K67 hK67
        refine wp_seq_k ?_
        intro K68 hK68
        refine fr_region ?_
        intro ops hops
        clear hops
        refine St.go h59 ?_; clear h59 a59
        refine sfBlock2 trivial rfl rfl ?_
        refine sbInss 0 hW58 trivial rfl rfl rfl rfl ?_
        refine slInss trivial rfl rfl ?_
        refine sgt trivial rfl rfl rfl ?_
        refine St.nil fun a69 h69 => ?_
        refine hK68 _ _ ?_
        refine fr_cond (t := 73) h69 rfl (fun hb => ?_) (fun hb => ?_)
        ·have hc70 : 40 < y.code.length := by have := of_decide_eq_true hb; omega
         clear hb
         refine wp_seq_k ?_
         intro K71 hK71
         refine fr_region ?_
         intro ops hops
         clear hops
         refine St.go h69 ?_; clear h69 a69
         refine sm trivial rfl rfl ?_
         refine sm trivial rfl rfl ?_
         refine sc_2 cf27 hW58 (atBlock_any (f := fi) (b := bi) ⟨by omega, by omega⟩) trivial rfl rfl rfl ?_
         clear hW58; intro w72 hW72
         refine sc_2 cf48 hW72 (fF_any (xc := 2) (xp := 10000 * (fi : Int) + 100 * (bi : Int) + 90)) trivial rfl rfl rfl ?_
         clear hW72; intro w73 hW73
         refine sT 2 hW73 rfl rfl infFault rfl rfl rfl ?_
         clear hW73; intro w74 hW74
         refine St.nil fun a75 h75 => ?_
         refine hK71 _ _ ?_
         refine wp_ret ?_
         repeat (first | with_reducible refine of_then_ret ?_ | with_reducible refine of_block_ret ?_)
         have := hc44.out
         have := hc48.out
         have := hc57.out
         have RC : y.code' x bi = 2 := (if_neg (by omega)).trans ((if_neg (by omega)).trans ((if_neg (fun h9 => takes_yes ⟨by omega, hc66⟩ h9.2)).trans (if_pos (by omega))))
         have EF := MBlock.fault_eq m.length fi x bi y
         rw [RC, if_neg (by omega)] at EF
         exact ret_box 2 h75 hW74 rfl rfl rfl Try.underlying26 rfl infFault ⟨by show Ending.returned (.agg #[.int .i64 2, .int .i64 (10000 * (fi : Int) + 100 * (bi : Int) + 90)]) = _; rw [EF], hW74.bel⟩
        ·have hc76 : ¬ (40 < y.code.length) := by have := of_decide_eq_false hb; omega
         clear hb
         refine wp_skip ?_
         refine hK67 _ _ ?_
         refine wp_seq_k ?_
         intro K77 hK77
         refine wp_seq_k ?_
         intro K78 hK78
         refine fr_region ?_
         intro ops hops
         clear hops
         refine St.go h69 ?_; clear h69 a69
         refine sa trivial rfl rfl ?_
         refine St.nil fun a79 h79 => ?_
         refine hK78 _ _ ?_
         refine wp_block ?_
         refine fr_loop (fun r a w' => ∃ q : Nat, q ≤ y.code.length ∧ r = y.code.length - q ∧ (∀ (j : Nat) z, j < q → y.code[j]? = some z → MIns.form m.length z = 0) ∧ Fr 112 a [(2, .int .i64 (bi : Int)), (1, .int .i64 (fi : Int)), (0, .agg #[.slice p m.length c]), (3, .pointer (some ⟨B2, 0, none⟩)), (6, .pointer (some ⟨B3, 0, none⟩)), (7, .pointer (some ⟨B6, 0, none⟩)), (8, .pointer (some ⟨B10, 0, none⟩)), (9, .int .i64 (listC y.regs y.params)), (10, .int .i64 (q : Int))] ∧ Wd w w' [(B10, #[.int .i64 y.regs, .slice b2.pP y.params.length b2.cP, .slice b2.pC y.code.length b2.cC, .int .i64 y.fin.op, .int .i64 y.fin.a, .int .i64 y.fin.yes.block, .slice b2.e.pYR y.fin.yes.regs.length b2.e.cYR, .slice b2.e.pYA y.fin.yes.args.length b2.e.cYA, .int .i64 y.fin.no.block, .slice b2.e.pNR y.fin.no.regs.length b2.e.cNR, .slice b2.e.pNA y.fin.no.args.length b2.e.cNA, .slice b2.e.pA y.fin.args.length b2.e.cA], 77), (B6, #[.int .i64 x.regs, .slice f1.pP x.params.length f1.cP, .slice f1.pR x.results.length f1.cR, .slice f1.pB x.blocks.length f1.cB], 50), (B3, #[.int .i64 0, .int .i64 0], 26), (B2, #[.slice p m.length c], 39)]) (y.code.length) ⟨0, Nat.zero_le _, rfl, (fun j z hj => by omega), (h79.keep (h79.keep (h79.keep (h79.keep (h79.keep (h79.keep (h79.keep (h79.keep (h79.keep h79.nil (t := 10) rfl) (t := 9) rfl) (t := 8) rfl) (t := 7) rfl) (t := 6) rfl) (t := 3) rfl) (t := 0) rfl) (t := 1) rfl) (t := 2) rfl), hW58⟩ ?_
         clear h79 hW58
         rintro r3 a80 w80 ⟨q, hq3, hr3, hall3, hF80, hW80⟩ KL3 hKL3
         refine wp_seq_k ?_
         intro K81 hK81
         refine wp_seq_k ?_
         intro K82 hK82
         refine fr_region ?_
         intro ops hops
         clear hops
         refine St.go hF80 ?_; clear hF80 a80
         refine sm trivial rfl rfl ?_
         refine sfBlock2 trivial rfl rfl ?_
         refine sbInss 0 hW80 trivial rfl rfl rfl rfl ?_
         refine slInss trivial rfl rfl ?_
         refine slt trivial rfl rfl rfl ?_
         refine St.nil fun a83 h83 => ?_
         refine hK82 _ _ ?_
         refine fr_cond (t := 82) h83 rfl (fun hb => ?_) (fun hb => ?_)
         ·have hlt3 : q < y.code.length := by have := of_decide_eq_true hb; omega
          clear hb
          obtain ⟨z, hx3⟩ : ∃ v9, (y.code)[q]? = some v9 := ⟨_, List.getElem?_eq_getElem hlt3⟩
          obtain ⟨g3, o3, i3, hp3, E3, In3⟩ := ins_at In2.out.code hx3
          replace In3 : Hid _ := In3
          replace hp3 : Hid _ := hp3
          replace hx3 : Hid _ := hx3
          replace E3 : Hid _ := E3
          refine wp_skip ?_
          refine hK81 _ _ ?_
          refine wp_seq_k ?_
          intro K84 hK84
          refine wp_block ?_
          refine wp_seq_k ?_
          intro K85 hK85
          have hF86 : Fr 112 a83 [(2, .int .i64 (bi : Int)), (1, .int .i64 (fi : Int)), (0, .agg #[.slice p m.length c]), (3, .pointer (some ⟨B2, 0, none⟩)), (6, .pointer (some ⟨B3, 0, none⟩)), (7, .pointer (some ⟨B6, 0, none⟩)), (8, .pointer (some ⟨B10, 0, none⟩)), (9, .int .i64 (listC y.regs y.params)), (10, .int .i64 (q : Int))] := (h83.keep (h83.keep (h83.keep (h83.keep (h83.keep (h83.keep (h83.keep (h83.keep (h83.keep h83.nil (t := 10) rfl) (t := 9) rfl) (t := 8) rfl) (t := 7) rfl) (t := 6) rfl) (t := 3) rfl) (t := 0) rfl) (t := 1) rfl) (t := 2) rfl)
          have ho3 : a83.tmps.getD 3 undef = .pointer (some ⟨B2, 0, none⟩) := h83.sl 3 _ rfl
          have ho8 : a83.tmps.getD 8 undef = .pointer (some ⟨B10, 0, none⟩) := h83.sl 8 _ rfl
          have ho10 : a83.tmps.getD 10 undef = .int .i64 (q : Int) := h83.sl 10 _ rfl
          refine fr_draw_k 8 ([(3, fun v _ => v = .pointer (some ⟨B2, 0, none⟩)), (8, fun v _ => v = .pointer (some ⟨B10, 0, none⟩)), (10, fun v _ => v = .int .i64 (q : Int)), (85, fun v _ => v = .agg #[.slice p m.length c]), (86, fun v _ => v = .pointer (some ⟨B10, 2, none⟩)), (87, fun v _ => v = .slice b2.pC y.code.length b2.cC), (88, fun v _ => v = .int .i64 (q : Int)), (89, fun v _ => v = .pointer (some ⟨g3, o3 + q * 8, none⟩)), (90, fun v _ => v = .agg #[.int .i64 z.op, .int .i64 z.a, .int .i64 z.b, .int .i64 z.c, .int .i64 z.k, .int .i64 z.n, .slice i3.pR z.regs.length i3.cR, .slice i3.pA z.args.length i3.cA]), (91, fun v _ => v = .int .i64 (MIns.form m.length z)), (11, fun v _ => v = .int .i64 (MIns.form m.length z))] : PTab) (fun w' => Wd w w' [(B10, #[.int .i64 y.regs, .slice b2.pP y.params.length b2.cP, .slice b2.pC y.code.length b2.cC, .int .i64 y.fin.op, .int .i64 y.fin.a, .int .i64 y.fin.yes.block, .slice b2.e.pYR y.fin.yes.regs.length b2.e.cYR, .slice b2.e.pYA y.fin.yes.args.length b2.e.cYA, .int .i64 y.fin.no.block, .slice b2.e.pNR y.fin.no.regs.length b2.e.cNR, .slice b2.e.pNA y.fin.no.args.length b2.e.cNA, .slice b2.e.pA y.fin.args.length b2.e.cA], 77), (B6, #[.int .i64 x.regs, .slice f1.pP x.params.length f1.cP, .slice f1.pR x.results.length f1.cR, .slice f1.pB x.blocks.length f1.cB], 50), (B3, #[.int .i64 0, .int .i64 0], 26), (B2, #[.slice p m.length c], 39)] ∧ Below w80.heap.size w80 w') (fun w w' => Below w.heap.size w w') (outs := [3, 8, 10]) (gs := []) (bs := [true, true, true, true, true, true, true, true]) (by kernel_rfl) hF86 rfl (by kernel_rfl) (by kernel_rfl) ?hR ?hG ⟨hW80.drewN 1, drewN_below (m := 1) (Below.refl _ _)⟩ ⟨ho3, ho8, ho10, trivial⟩ ?hA ?hend
          case hR => exact ⟨fun _ _ _ _ h => h, fun _ _ _ _ h => h, fun _ _ _ _ h => h, fun _ _ _ _ h => h, fun _ _ _ _ h => h, fun _ _ _ _ h => h, fun _ _ _ _ h => h, fun _ _ _ _ h => h, fun _ _ _ _ h => h, fun _ _ _ _ h => h, fun _ _ _ _ h => h, trivial⟩
          case hG => exact trivial
          case hA =>
           refine ⟨fun a w hW hk K hK => ?_, ?_⟩
           · obtain ⟨k0, -⟩ := hk
             have k0 : a.tmps.getD 3 undef = .pointer (some ⟨B2, 0, none⟩) := k0
             have c0 : w.cell? ⟨B2, 0, none⟩ = some (.slice p m.length c) := cellOf (hW.1.get 3 rfl) 0 _ rfl
             go_simp
             exact hK _ _ (Below.refl _ _) hW rfl
           refine ⟨fun a w hW hk K hK => ?_, ?_⟩
           · obtain ⟨k0, -⟩ := hk
             have k0 : a.tmps.getD 8 undef = .pointer (some ⟨B10, 0, none⟩) := k0
             go_simp
             exact hK _ _ (Below.refl _ _) hW rfl
           refine ⟨fun a w hW hk K hK => ?_, ?_⟩
           · obtain ⟨k0, -⟩ := hk
             have k0 : a.tmps.getD 86 undef = .pointer (some ⟨B10, 2, none⟩) := k0
             have c2 : w.cell? ⟨B10, 2, none⟩ = some (.slice b2.pC y.code.length b2.cC) := cellOf (hW.1.get 0 rfl) 2 _ rfl
             go_simp
             exact hK _ _ (Below.refl _ _) hW rfl
           refine ⟨fun a w hW hk K hK => ?_, ?_⟩
           · obtain ⟨k0, -⟩ := hk
             have k0 : a.tmps.getD 10 undef = .int .i64 (q : Int) := k0
             go_simp
             exact hK _ _ (Below.refl _ _) hW rfl
           refine ⟨fun a w hW hk K hK => ?_, ?_⟩
           · obtain ⟨k0, k1, -⟩ := hk
             have k0 : a.tmps.getD 87 undef = .slice b2.pC y.code.length b2.cC := k0
             have k1 : a.tmps.getD 88 undef = .int .i64 (q : Int) := k1
             have hpq := hp3.out
             have hk0 : (0 : Int) ≤ q := by omega
             have hk1 : (q : Int) < (y.code.length : Int) := by omega
             go_simp
             exact hK _ _ (Below.refl _ _) hW rfl
           refine ⟨fun a w hW hk K hK => ?_, ?_⟩
           · obtain ⟨k0, -⟩ := hk
             have k0 : a.tmps.getD 89 undef = .pointer (some ⟨g3, o3 + q * 8, none⟩) := k0
             have d0 : w.cell? ⟨g3, o3 + q * 8, none⟩ = some (.int .i64 z.op) := bel_cell hW.1.bel (E3.out 0 _ rfl)
             have d1 : w.cell? ⟨g3, o3 + q * 8 + 1, none⟩ = some (.int .i64 z.a) := bel_cell hW.1.bel (E3.out 1 _ rfl)
             have d2 : w.cell? ⟨g3, o3 + q * 8 + 2, none⟩ = some (.int .i64 z.b) := bel_cell hW.1.bel (E3.out 2 _ rfl)
             have d3 : w.cell? ⟨g3, o3 + q * 8 + 3, none⟩ = some (.int .i64 z.c) := bel_cell hW.1.bel (E3.out 3 _ rfl)
             have d4 : w.cell? ⟨g3, o3 + q * 8 + 4, none⟩ = some (.int .i64 z.k) := bel_cell hW.1.bel (E3.out 4 _ rfl)
             have d5 : w.cell? ⟨g3, o3 + q * 8 + 5, none⟩ = some (.int .i64 z.n) := bel_cell hW.1.bel (E3.out 5 _ rfl)
             have d6 : w.cell? ⟨g3, o3 + q * 8 + 6, none⟩ = some (.slice i3.pR z.regs.length i3.cR) := bel_cell hW.1.bel (E3.out 6 _ rfl)
             have d7 : w.cell? ⟨g3, o3 + q * 8 + 7, none⟩ = some (.slice i3.pA z.args.length i3.cA) := bel_cell hW.1.bel (E3.out 7 _ rfl)
             go_simp
             exact hK _ _ (Below.refl _ _) hW rfl
           refine ⟨fun a w hW hk K hK => ?_, ?_⟩
           · obtain ⟨k0, k1, -⟩ := hk
             have k0 : a.tmps.getD 85 undef = .agg #[.slice p m.length c] := k0
             have k1 : a.tmps.getD 90 undef = .agg #[.int .i64 z.op, .int .i64 z.a, .int .i64 z.b, .int .i64 z.c, .int .i64 z.k, .int .i64 z.n, .slice i3.pR z.regs.length i3.cR, .slice i3.pA z.args.length i3.cA] := k1
             have hC : Rd Try.prog 21 #[.agg #[.slice p m.length c], .agg #[.int .i64 z.op, .int .i64 z.a, .int .i64 z.b, .int .i64 z.c, .int .i64 z.k, .int .i64 z.n, .slice i3.pR z.regs.length i3.cR, .slice i3.pA z.args.length i3.cA]] w (.int .i64 (MIns.form m.length z)) := insForm_any m.length z i3 p c w
             go_simp
             refine hC.mono ?_
             rintro e w9 ⟨rfl, hb⟩
             exact hK _ _ hb ⟨hW.1.below hb, Below.andThen hW.2 hb⟩ rfl
           refine ⟨fun a w hW hk K hK => ?_, ?_⟩
           · obtain ⟨k0, -⟩ := hk
             have k0 : a.tmps.getD 91 undef = .int .i64 (MIns.form m.length z) := k0
             go_simp
             exact hK _ _ (Below.refl _ _) hW rfl
           trivial
          case hend =>
           intro ops a87 w87 hWD hE hFD
           have hd11 : a87.tmps.getD 11 undef = .int .i64 (MIns.form m.length z) := hE 11 rfl
           have hF87 : Fr 112 a87 [(11, .int .i64 (MIns.form m.length z)), (2, .int .i64 (bi : Int)), (1, .int .i64 (fi : Int)), (0, .agg #[.slice p m.length c]), (3, .pointer (some ⟨B2, 0, none⟩)), (6, .pointer (some ⟨B3, 0, none⟩)), (7, .pointer (some ⟨B6, 0, none⟩)), (8, .pointer (some ⟨B10, 0, none⟩)), (9, .int .i64 (listC y.regs y.params)), (10, .int .i64 (q : Int))] := (hFD.cons hd11)
           clear hd11
           have hW87 : Wd w w87 [(B10, #[.int .i64 y.regs, .slice b2.pP y.params.length b2.cP, .slice b2.pC y.code.length b2.cC, .int .i64 y.fin.op, .int .i64 y.fin.a, .int .i64 y.fin.yes.block, .slice b2.e.pYR y.fin.yes.regs.length b2.e.cYR, .slice b2.e.pYA y.fin.yes.args.length b2.e.cYA, .int .i64 y.fin.no.block, .slice b2.e.pNR y.fin.no.regs.length b2.e.cNR, .slice b2.e.pNA y.fin.no.args.length b2.e.cNA, .slice b2.e.pA y.fin.args.length b2.e.cA], 77), (B6, #[.int .i64 x.regs, .slice f1.pP x.params.length f1.cP, .slice f1.pR x.results.length f1.cR, .slice f1.pB x.blocks.length f1.cB], 50), (B3, #[.int .i64 0, .int .i64 0], 26), (B2, #[.slice p m.length c], 39)] := hWD.1
           clear hFD hWD hE hF86 h83
           clear hW80
           refine wpList_nil ?_
           refine hK85 _ _ ?_
           refine wp_seq_k ?_
           intro K88 hK88
           refine fr_region ?_
           intro ops hops
           clear hops
           refine St.go hF87 ?_; clear hF87 a87
           refine sm trivial rfl rfl ?_
           refine sne trivial rfl rfl rfl ?_
           refine St.nil fun a89 h89 => ?_
           refine hK88 _ _ ?_
           refine fr_cond (t := 93) h89 rfl (fun hb => ?_) (fun hb => ?_)
           ·have h9 : ¬ (MIns.form m.length z) = 0 := bne_iff_ne.1 hb
            have hc90 : ¬ (MIns.form m.length z) = 0 := h9
            clear h9
            clear hb
            refine wp_seq_k ?_
            intro K91 hK91
            refine fr_region ?_
            intro ops hops
            clear hops
            refine St.go h89 ?_; clear h89 a89
            refine sm trivial rfl rfl ?_
            refine sm trivial rfl rfl ?_
            refine sm trivial rfl rfl ?_
            refine sm trivial rfl rfl ?_
            refine sc_3 cf31 hW87 (atIns_any (f := fi) (b := bi) (i := q) ⟨by omega, by omega, by omega⟩) trivial rfl rfl rfl rfl ?_
            clear hW87; intro w92 hW92
            refine sc_2 cf48 hW92 (fF_any (xc := MIns.form m.length z) (xp := 10000 * (fi : Int) + 100 * (bi : Int) + (q : Int))) trivial rfl rfl rfl ?_
            clear hW92; intro w93 hW93
            refine sT 2 hW93 rfl rfl infFault rfl rfl rfl ?_
            clear hW93; intro w94 hW94
            refine St.nil fun a95 h95 => ?_
            refine hK91 _ _ ?_
            refine wp_ret ?_
            repeat (first | with_reducible refine of_then_ret ?_ | with_reducible refine of_block_ret ?_)
            have := hc44.out
            have := hc48.out
            have := hc57.out
            have RC : y.code' x bi = 0 := (if_neg (by omega)).trans ((if_neg (by omega)).trans ((if_neg (fun h9 => takes_yes ⟨by omega, hc66⟩ h9.2)).trans ((if_neg (by omega)).trans (rfl))))
            have EF := MBlock.fault_eq m.length fi x bi y
            rw [if_pos RC] at EF
            have RI : firstF (fun i z => (MIns.form m.length z, (10000 * fi + 100 * bi + i : Int))) 0 y.code = (MIns.form m.length z, (10000 * fi + 100 * bi + q : Int)) := by
              have h9 := firstF_eq (f := fun i z => (MIns.form m.length z, (10000 * fi + 100 * bi + i : Int))) (j := 0) hx3.out (fun k z hk hz => hall3 k z hk hz) hc90
              rwa [Nat.zero_add] at h9
            rw [RI, if_neg hc90] at EF
            exact ret_box 2 h95 hW94 rfl rfl rfl Try.underlying26 rfl infFault ⟨by show Ending.returned (.agg #[.int .i64 (MIns.form m.length z), .int .i64 (10000 * (fi : Int) + 100 * (bi : Int) + (q : Int))]) = _; rw [EF], hW94.bel⟩
           ·have h9 : (MIns.form m.length z) = 0 := bne_eq_false_iff_eq.1 hb
            have hc96 : Hid ((MIns.form m.length z) = 0) := h9
            clear h9
            clear hb
            refine wp_skip ?_
            refine hK84 _ _ ?_
            refine fr_region ?_
            intro ops hops
            clear hops
            refine St.go h89 ?_; clear h89 a89
            refine sm trivial rfl rfl ?_
            refine sad (by omega) trivial rfl rfl rfl ?_
            refine sa trivial rfl rfl ?_
            refine St.nil fun a97 h97 => ?_
            refine hKL3 _ _ (y.code.length - (q + 1)) (by omega) ⟨q + 1, by omega, rfl, ?_, (h97.keep (h97.keep (h97.keep (h97.keep (h97.keep (h97.keep (h97.keep (h97.keep (h97.keep h97.nil (t := 10) rfl) (t := 9) rfl) (t := 8) rfl) (t := 7) rfl) (t := 6) rfl) (t := 3) rfl) (t := 0) rfl) (t := 1) rfl) (t := 2) rfl), hW87⟩
            ·intro j z hj hz
             by_cases e : j = q
             · subst e; rw [hx3.out] at hz; cases hz; exact hc96.out
             · exact hall3 j z (by omega) hz
         ·have hge3 : q = y.code.length := by have := of_decide_eq_false hb; omega
          clear hb
          refine wp_exit ?_
          refine hK77 _ _ ?_
          refine wp_seq_k ?_
          intro K98 hK98
          refine wp_seq_k ?_
          intro K99 hK99
          refine fr_region ?_
          intro ops hops
          clear hops
          refine St.go h83 ?_; clear h83 a83
          refine sS 1 4 Try.underlying50 rfl infFunc hW80 trivial rfl rfl rfl rfl ?_
          refine sfBlock3 trivial rfl rfl ?_
          refine sS 0 9 Try.underlying54 rfl infEnd hW80 trivial rfl rfl rfl rfl ?_
          refine sc_2 cf23 hW80 (endForm_any (x := y.fin) (e := b2.e) (fr := x.regs) (fp := f1.pP) (fl := x.params.length) (fc := f1.cP) (fq := f1.pR) (fm := x.results.length) (fd := f1.cR) (fb := f1.pB) (bl := x.blocks.length) (fe := f1.cB) (by have := hs2.out.2.2.1; exact ⟨by have := this.1.1; omega, by have := this.1.2; omega, by have := this.2.1.1; omega, by have := this.2.1.2; omega⟩) (by have := hs1.out.1; omega)) trivial rfl rfl rfl ?_
          clear hW80; intro w100 hW100
          refine sa trivial rfl rfl ?_
          refine St.nil fun a101 h101 => ?_
          refine hK99 _ _ ?_
          refine wp_seq_k ?_
          intro K102 hK102
          refine fr_region ?_
          intro ops hops
          clear hops
          refine St.go h101 ?_; clear h101 a101
          refine sm trivial rfl rfl ?_
          refine sne trivial rfl rfl rfl ?_
          refine St.nil fun a103 h103 => ?_
          refine hK102 _ _ ?_
          refine fr_cond (t := 105) h103 rfl (fun hb => ?_) (fun hb => ?_)
          ·have h9 : ¬ (y.fin.form x.blocks.length) = 0 := bne_iff_ne.1 hb
           have hc104 : ¬ (y.fin.form x.blocks.length) = 0 := h9
           clear h9
           clear hb
           refine wp_seq_k ?_
           intro K105 hK105
           refine fr_region ?_
           intro ops hops
           clear hops
           refine St.go h103 ?_; clear h103 a103
           refine sm trivial rfl rfl ?_
           refine sm trivial rfl rfl ?_
           refine sm trivial rfl rfl ?_
           refine sc_2 cf29 hW100 (atEnd_any (f := fi) (b := bi) ⟨by omega, by omega⟩) trivial rfl rfl rfl ?_
           clear hW100; intro w106 hW106
           refine sc_2 cf48 hW106 (fF_any (xc := y.fin.form x.blocks.length) (xp := 10000 * (fi : Int) + 100 * (bi : Int) + 91)) trivial rfl rfl rfl ?_
           clear hW106; intro w107 hW107
           refine sT 2 hW107 rfl rfl infFault rfl rfl rfl ?_
           clear hW107; intro w108 hW108
           refine St.nil fun a109 h109 => ?_
           refine hK105 _ _ ?_
           refine wp_ret ?_
           repeat (first | with_reducible refine of_then_ret ?_ | with_reducible refine of_block_ret ?_)
           have := hc44.out
           have := hc48.out
           have := hc57.out
           have RC : y.code' x bi = 0 := (if_neg (by omega)).trans ((if_neg (by omega)).trans ((if_neg (fun h9 => takes_yes ⟨by omega, hc66⟩ h9.2)).trans ((if_neg (by omega)).trans (rfl))))
           have EF := MBlock.fault_eq m.length fi x bi y
           rw [if_pos RC] at EF
           have RI : firstF (fun i z => (MIns.form m.length z, (10000 * fi + 100 * bi + i : Int))) 0 y.code = (0, 0) := firstF_zero (fun k z hz => hall3 k z (by have := (List.getElem?_eq_some_iff.1 hz).1; omega) hz)
           rw [RI, if_pos rfl] at EF
           exact ret_box 2 h109 hW108 rfl rfl rfl Try.underlying26 rfl infFault ⟨by show Ending.returned (.agg #[.int .i64 (y.fin.form x.blocks.length), .int .i64 (10000 * (fi : Int) + 100 * (bi : Int) + 91)]) = _; rw [EF]; simp [atF, hc104], hW108.bel⟩
          ·have h9 : (y.fin.form x.blocks.length) = 0 := bne_eq_false_iff_eq.1 hb
           have hc110 : Hid ((y.fin.form x.blocks.length) = 0) := h9
           clear h9
           clear hb
           refine wp_skip ?_
           refine hK98 _ _ ?_
           refine wp_seq_k ?_
           intro K111 hK111
           refine fr_region ?_
           intro ops hops
           clear hops
           refine fr_pure (t := 111) (v := .agg #[.int .i64 0, .int .i64 0]) (w' := w100) h103 rfl rfl rfl (fun K hK => ?_) ?_
           ·go_simp
            exact hK
           clear h103; intro a112 hF112
           refine St.go hF112 ?_; clear hF112 a112
           refine sT 2 hW100 rfl rfl infFault rfl rfl rfl ?_
           clear hW100; intro w113 hW113
           refine St.nil fun a114 h114 => ?_
           refine hK111 _ _ ?_
           refine wp_ret ?_
           repeat (first | with_reducible refine of_then_ret ?_ | with_reducible refine of_block_ret ?_)
           have := hc44.out
           have := hc48.out
           have := hc57.out
           have := hc110.out
           have RC : y.code' x bi = 0 := (if_neg (by omega)).trans ((if_neg (by omega)).trans ((if_neg (fun h9 => takes_yes ⟨by omega, hc66⟩ h9.2)).trans ((if_neg (by omega)).trans (rfl))))
           have EF := MBlock.fault_eq m.length fi x bi y
           rw [if_pos RC] at EF
           have RI : firstF (fun i z => (MIns.form m.length z, (10000 * fi + 100 * bi + i : Int))) 0 y.code = (0, 0) := firstF_zero (fun k z hz => hall3 k z (by have := (List.getElem?_eq_some_iff.1 hz).1; omega) hz)
           rw [RI, if_pos rfl] at EF
           exact ret_box 2 h114 hW113 rfl rfl rfl Try.underlying26 rfl infFault ⟨by show Ending.returned (.agg #[.int .i64 0, .int .i64 0]) = _; rw [EF]; simp [atF, hc110.out], hW113.bel⟩
     ·rw [hb] at h47
      have h9 : ¬ bi = 0 := by have h8 := ne_of_beq_false hb; omega
      have hc115 : ¬ bi = 0 := h9
      clear h9
      clear hb
      refine St.go h47 ?_; clear h47 a47
      refine so hg2 rfl rfl rfl rfl ?_
      refine so hg2 rfl rfl rfl rfl ?_
      refine so hg2 rfl rfl rfl rfl ?_
      refine so hg2 rfl rfl rfl rfl ?_
      refine so hg2 rfl rfl rfl rfl ?_
      refine so hg2 rfl rfl rfl rfl ?_
      refine so hg8 rfl rfl rfl rfl ?_
      refine so hg8 rfl rfl rfl rfl ?_
      refine so hg8 rfl rfl rfl rfl ?_
      refine so hg8 rfl rfl rfl rfl ?_
      refine so hg8 rfl rfl rfl rfl ?_
      refine so hg8 rfl rfl rfl rfl ?_
      refine so hg2 rfl rfl rfl rfl ?_
      refine spf trivial rfl rfl rfl ?_
      refine St.nil fun a116 h116 => ?_
      refine hK46 _ _ ?_
      refine fr_false (t := 65) h116 rfl ?_
      refine wp_skip ?_
      refine hK45 _ _ ?_
      refine wp_seq_k ?_
      intro K117 hK117
      refine wp_seq_k ?_
      intro K118 hK118
      refine fr_region ?_
      intro ops hops
      clear hops
      refine St.go h116 ?_; clear h116 a116
      refine sfBlock2 trivial rfl rfl ?_
      refine sbInss 0 hW34 trivial rfl rfl rfl rfl ?_
      refine slInss trivial rfl rfl ?_
      refine sgt trivial rfl rfl rfl ?_
      refine St.nil fun a119 h119 => ?_
      refine hK118 _ _ ?_
      refine fr_cond (t := 73) h119 rfl (fun hb => ?_) (fun hb => ?_)
      ·have hc120 : 40 < y.code.length := by have := of_decide_eq_true hb; omega
       clear hb
       refine wp_seq_k ?_
       intro K121 hK121
       refine fr_region ?_
       intro ops hops
       clear hops
       refine St.go h119 ?_; clear h119 a119
       refine sm trivial rfl rfl ?_
       refine sm trivial rfl rfl ?_
       refine sc_2 cf27 hW34 (atBlock_any (f := fi) (b := bi) ⟨by omega, by omega⟩) trivial rfl rfl rfl ?_
       clear hW34; intro w122 hW122
       refine sc_2 cf48 hW122 (fF_any (xc := 2) (xp := 10000 * (fi : Int) + 100 * (bi : Int) + 90)) trivial rfl rfl rfl ?_
       clear hW122; intro w123 hW123
       refine sT 2 hW123 rfl rfl infFault rfl rfl rfl ?_
       clear hW123; intro w124 hW124
       refine St.nil fun a125 h125 => ?_
       refine hK121 _ _ ?_
       refine wp_ret ?_
       repeat (first | with_reducible refine of_then_ret ?_ | with_reducible refine of_block_ret ?_)
       have := hc44.out
       have RC : y.code' x bi = 2 := (if_neg (by omega)).trans ((if_neg (by omega)).trans ((if_neg (by omega)).trans (if_pos (by omega))))
       have EF := MBlock.fault_eq m.length fi x bi y
       rw [RC, if_neg (by omega)] at EF
       exact ret_box 2 h125 hW124 rfl rfl rfl Try.underlying26 rfl infFault ⟨by show Ending.returned (.agg #[.int .i64 2, .int .i64 (10000 * (fi : Int) + 100 * (bi : Int) + 90)]) = _; rw [EF], hW124.bel⟩
      ·have hc126 : ¬ (40 < y.code.length) := by have := of_decide_eq_false hb; omega
       clear hb
       refine wp_skip ?_
       refine hK117 _ _ ?_
       refine wp_seq_k ?_
       intro K127 hK127
       refine wp_seq_k ?_
       intro K128 hK128
       refine fr_region ?_
       intro ops hops
       clear hops
       refine St.go h119 ?_; clear h119 a119
       refine sa trivial rfl rfl ?_
       refine St.nil fun a129 h129 => ?_
       refine hK128 _ _ ?_
       refine wp_block ?_
       refine fr_loop (fun r a w' => ∃ q : Nat, q ≤ y.code.length ∧ r = y.code.length - q ∧ (∀ (j : Nat) z, j < q → y.code[j]? = some z → MIns.form m.length z = 0) ∧ Fr 112 a [(2, .int .i64 (bi : Int)), (1, .int .i64 (fi : Int)), (0, .agg #[.slice p m.length c]), (3, .pointer (some ⟨B2, 0, none⟩)), (6, .pointer (some ⟨B3, 0, none⟩)), (7, .pointer (some ⟨B6, 0, none⟩)), (8, .pointer (some ⟨B10, 0, none⟩)), (9, .int .i64 (listC y.regs y.params)), (10, .int .i64 (q : Int))] ∧ Wd w w' [(B10, #[.int .i64 y.regs, .slice b2.pP y.params.length b2.cP, .slice b2.pC y.code.length b2.cC, .int .i64 y.fin.op, .int .i64 y.fin.a, .int .i64 y.fin.yes.block, .slice b2.e.pYR y.fin.yes.regs.length b2.e.cYR, .slice b2.e.pYA y.fin.yes.args.length b2.e.cYA, .int .i64 y.fin.no.block, .slice b2.e.pNR y.fin.no.regs.length b2.e.cNR, .slice b2.e.pNA y.fin.no.args.length b2.e.cNA, .slice b2.e.pA y.fin.args.length b2.e.cA], 77), (B6, #[.int .i64 x.regs, .slice f1.pP x.params.length f1.cP, .slice f1.pR x.results.length f1.cR, .slice f1.pB x.blocks.length f1.cB], 50), (B3, #[.int .i64 0, .int .i64 0], 26), (B2, #[.slice p m.length c], 39)]) (y.code.length) ⟨0, Nat.zero_le _, rfl, (fun j z hj => by omega), (h129.keep (h129.keep (h129.keep (h129.keep (h129.keep (h129.keep (h129.keep (h129.keep (h129.keep h129.nil (t := 10) rfl) (t := 9) rfl) (t := 8) rfl) (t := 7) rfl) (t := 6) rfl) (t := 3) rfl) (t := 0) rfl) (t := 1) rfl) (t := 2) rfl), hW34⟩ ?_
       clear h129 hW34
       rintro r3 a130 w130 ⟨q, hq3, hr3, hall3, hF130, hW130⟩ KL3 hKL3
       refine wp_seq_k ?_
       intro K131 hK131
       refine wp_seq_k ?_
       intro K132 hK132
       refine fr_region ?_
       intro ops hops
       clear hops
       refine St.go hF130 ?_; clear hF130 a130
       refine sm trivial rfl rfl ?_
       refine sfBlock2 trivial rfl rfl ?_
       refine sbInss 0 hW130 trivial rfl rfl rfl rfl ?_
       refine slInss trivial rfl rfl ?_
       refine slt trivial rfl rfl rfl ?_
       refine St.nil fun a133 h133 => ?_
       refine hK132 _ _ ?_
       refine fr_cond (t := 82) h133 rfl (fun hb => ?_) (fun hb => ?_)
       ·have hlt3 : q < y.code.length := by have := of_decide_eq_true hb; omega
        clear hb
        obtain ⟨z, hx3⟩ : ∃ v9, (y.code)[q]? = some v9 := ⟨_, List.getElem?_eq_getElem hlt3⟩
        obtain ⟨g3, o3, i3, hp3, E3, In3⟩ := ins_at In2.out.code hx3
        replace In3 : Hid _ := In3
        replace hp3 : Hid _ := hp3
        replace hx3 : Hid _ := hx3
        replace E3 : Hid _ := E3
        refine wp_skip ?_
        refine hK131 _ _ ?_
        refine wp_seq_k ?_
        intro K134 hK134
        refine wp_block ?_
        refine wp_seq_k ?_
        intro K135 hK135
        have hF136 : Fr 112 a133 [(2, .int .i64 (bi : Int)), (1, .int .i64 (fi : Int)), (0, .agg #[.slice p m.length c]), (3, .pointer (some ⟨B2, 0, none⟩)), (6, .pointer (some ⟨B3, 0, none⟩)), (7, .pointer (some ⟨B6, 0, none⟩)), (8, .pointer (some ⟨B10, 0, none⟩)), (9, .int .i64 (listC y.regs y.params)), (10, .int .i64 (q : Int))] := (h133.keep (h133.keep (h133.keep (h133.keep (h133.keep (h133.keep (h133.keep (h133.keep (h133.keep h133.nil (t := 10) rfl) (t := 9) rfl) (t := 8) rfl) (t := 7) rfl) (t := 6) rfl) (t := 3) rfl) (t := 0) rfl) (t := 1) rfl) (t := 2) rfl)
        have ho3 : a133.tmps.getD 3 undef = .pointer (some ⟨B2, 0, none⟩) := h133.sl 3 _ rfl
        have ho8 : a133.tmps.getD 8 undef = .pointer (some ⟨B10, 0, none⟩) := h133.sl 8 _ rfl
        have ho10 : a133.tmps.getD 10 undef = .int .i64 (q : Int) := h133.sl 10 _ rfl
        refine fr_draw_k 8 ([(3, fun v _ => v = .pointer (some ⟨B2, 0, none⟩)), (8, fun v _ => v = .pointer (some ⟨B10, 0, none⟩)), (10, fun v _ => v = .int .i64 (q : Int)), (85, fun v _ => v = .agg #[.slice p m.length c]), (86, fun v _ => v = .pointer (some ⟨B10, 2, none⟩)), (87, fun v _ => v = .slice b2.pC y.code.length b2.cC), (88, fun v _ => v = .int .i64 (q : Int)), (89, fun v _ => v = .pointer (some ⟨g3, o3 + q * 8, none⟩)), (90, fun v _ => v = .agg #[.int .i64 z.op, .int .i64 z.a, .int .i64 z.b, .int .i64 z.c, .int .i64 z.k, .int .i64 z.n, .slice i3.pR z.regs.length i3.cR, .slice i3.pA z.args.length i3.cA]), (91, fun v _ => v = .int .i64 (MIns.form m.length z)), (11, fun v _ => v = .int .i64 (MIns.form m.length z))] : PTab) (fun w' => Wd w w' [(B10, #[.int .i64 y.regs, .slice b2.pP y.params.length b2.cP, .slice b2.pC y.code.length b2.cC, .int .i64 y.fin.op, .int .i64 y.fin.a, .int .i64 y.fin.yes.block, .slice b2.e.pYR y.fin.yes.regs.length b2.e.cYR, .slice b2.e.pYA y.fin.yes.args.length b2.e.cYA, .int .i64 y.fin.no.block, .slice b2.e.pNR y.fin.no.regs.length b2.e.cNR, .slice b2.e.pNA y.fin.no.args.length b2.e.cNA, .slice b2.e.pA y.fin.args.length b2.e.cA], 77), (B6, #[.int .i64 x.regs, .slice f1.pP x.params.length f1.cP, .slice f1.pR x.results.length f1.cR, .slice f1.pB x.blocks.length f1.cB], 50), (B3, #[.int .i64 0, .int .i64 0], 26), (B2, #[.slice p m.length c], 39)] ∧ Below w130.heap.size w130 w') (fun w w' => Below w.heap.size w w') (outs := [3, 8, 10]) (gs := []) (bs := [true, true, true, true, true, true, true, true]) (by kernel_rfl) hF136 rfl (by kernel_rfl) (by kernel_rfl) ?hR ?hG ⟨hW130.drewN 1, drewN_below (m := 1) (Below.refl _ _)⟩ ⟨ho3, ho8, ho10, trivial⟩ ?hA ?hend
        case hR => exact ⟨fun _ _ _ _ h => h, fun _ _ _ _ h => h, fun _ _ _ _ h => h, fun _ _ _ _ h => h, fun _ _ _ _ h => h, fun _ _ _ _ h => h, fun _ _ _ _ h => h, fun _ _ _ _ h => h, fun _ _ _ _ h => h, fun _ _ _ _ h => h, fun _ _ _ _ h => h, trivial⟩
        case hG => exact trivial
        case hA =>
         refine ⟨fun a w hW hk K hK => ?_, ?_⟩
         · obtain ⟨k0, -⟩ := hk
           have k0 : a.tmps.getD 3 undef = .pointer (some ⟨B2, 0, none⟩) := k0
           have c0 : w.cell? ⟨B2, 0, none⟩ = some (.slice p m.length c) := cellOf (hW.1.get 3 rfl) 0 _ rfl
           go_simp
           exact hK _ _ (Below.refl _ _) hW rfl
         refine ⟨fun a w hW hk K hK => ?_, ?_⟩
         · obtain ⟨k0, -⟩ := hk
           have k0 : a.tmps.getD 8 undef = .pointer (some ⟨B10, 0, none⟩) := k0
           go_simp
           exact hK _ _ (Below.refl _ _) hW rfl
         refine ⟨fun a w hW hk K hK => ?_, ?_⟩
         · obtain ⟨k0, -⟩ := hk
           have k0 : a.tmps.getD 86 undef = .pointer (some ⟨B10, 2, none⟩) := k0
           have c2 : w.cell? ⟨B10, 2, none⟩ = some (.slice b2.pC y.code.length b2.cC) := cellOf (hW.1.get 0 rfl) 2 _ rfl
           go_simp
           exact hK _ _ (Below.refl _ _) hW rfl
         refine ⟨fun a w hW hk K hK => ?_, ?_⟩
         · obtain ⟨k0, -⟩ := hk
           have k0 : a.tmps.getD 10 undef = .int .i64 (q : Int) := k0
           go_simp
           exact hK _ _ (Below.refl _ _) hW rfl
         refine ⟨fun a w hW hk K hK => ?_, ?_⟩
         · obtain ⟨k0, k1, -⟩ := hk
           have k0 : a.tmps.getD 87 undef = .slice b2.pC y.code.length b2.cC := k0
           have k1 : a.tmps.getD 88 undef = .int .i64 (q : Int) := k1
           have hpq := hp3.out
           have hk0 : (0 : Int) ≤ q := by omega
           have hk1 : (q : Int) < (y.code.length : Int) := by omega
           go_simp
           exact hK _ _ (Below.refl _ _) hW rfl
         refine ⟨fun a w hW hk K hK => ?_, ?_⟩
         · obtain ⟨k0, -⟩ := hk
           have k0 : a.tmps.getD 89 undef = .pointer (some ⟨g3, o3 + q * 8, none⟩) := k0
           have d0 : w.cell? ⟨g3, o3 + q * 8, none⟩ = some (.int .i64 z.op) := bel_cell hW.1.bel (E3.out 0 _ rfl)
           have d1 : w.cell? ⟨g3, o3 + q * 8 + 1, none⟩ = some (.int .i64 z.a) := bel_cell hW.1.bel (E3.out 1 _ rfl)
           have d2 : w.cell? ⟨g3, o3 + q * 8 + 2, none⟩ = some (.int .i64 z.b) := bel_cell hW.1.bel (E3.out 2 _ rfl)
           have d3 : w.cell? ⟨g3, o3 + q * 8 + 3, none⟩ = some (.int .i64 z.c) := bel_cell hW.1.bel (E3.out 3 _ rfl)
           have d4 : w.cell? ⟨g3, o3 + q * 8 + 4, none⟩ = some (.int .i64 z.k) := bel_cell hW.1.bel (E3.out 4 _ rfl)
           have d5 : w.cell? ⟨g3, o3 + q * 8 + 5, none⟩ = some (.int .i64 z.n) := bel_cell hW.1.bel (E3.out 5 _ rfl)
           have d6 : w.cell? ⟨g3, o3 + q * 8 + 6, none⟩ = some (.slice i3.pR z.regs.length i3.cR) := bel_cell hW.1.bel (E3.out 6 _ rfl)
           have d7 : w.cell? ⟨g3, o3 + q * 8 + 7, none⟩ = some (.slice i3.pA z.args.length i3.cA) := bel_cell hW.1.bel (E3.out 7 _ rfl)
           go_simp
           exact hK _ _ (Below.refl _ _) hW rfl
         refine ⟨fun a w hW hk K hK => ?_, ?_⟩
         · obtain ⟨k0, k1, -⟩ := hk
           have k0 : a.tmps.getD 85 undef = .agg #[.slice p m.length c] := k0
           have k1 : a.tmps.getD 90 undef = .agg #[.int .i64 z.op, .int .i64 z.a, .int .i64 z.b, .int .i64 z.c, .int .i64 z.k, .int .i64 z.n, .slice i3.pR z.regs.length i3.cR, .slice i3.pA z.args.length i3.cA] := k1
           have hC : Rd Try.prog 21 #[.agg #[.slice p m.length c], .agg #[.int .i64 z.op, .int .i64 z.a, .int .i64 z.b, .int .i64 z.c, .int .i64 z.k, .int .i64 z.n, .slice i3.pR z.regs.length i3.cR, .slice i3.pA z.args.length i3.cA]] w (.int .i64 (MIns.form m.length z)) := insForm_any m.length z i3 p c w
           go_simp
           refine hC.mono ?_
           rintro e w9 ⟨rfl, hb⟩
           exact hK _ _ hb ⟨hW.1.below hb, Below.andThen hW.2 hb⟩ rfl
         refine ⟨fun a w hW hk K hK => ?_, ?_⟩
         · obtain ⟨k0, -⟩ := hk
           have k0 : a.tmps.getD 91 undef = .int .i64 (MIns.form m.length z) := k0
           go_simp
           exact hK _ _ (Below.refl _ _) hW rfl
         trivial
        case hend =>
         intro ops a137 w137 hWD hE hFD
         have hd11 : a137.tmps.getD 11 undef = .int .i64 (MIns.form m.length z) := hE 11 rfl
         have hF137 : Fr 112 a137 [(11, .int .i64 (MIns.form m.length z)), (2, .int .i64 (bi : Int)), (1, .int .i64 (fi : Int)), (0, .agg #[.slice p m.length c]), (3, .pointer (some ⟨B2, 0, none⟩)), (6, .pointer (some ⟨B3, 0, none⟩)), (7, .pointer (some ⟨B6, 0, none⟩)), (8, .pointer (some ⟨B10, 0, none⟩)), (9, .int .i64 (listC y.regs y.params)), (10, .int .i64 (q : Int))] := (hFD.cons hd11)
         clear hd11
         have hW137 : Wd w w137 [(B10, #[.int .i64 y.regs, .slice b2.pP y.params.length b2.cP, .slice b2.pC y.code.length b2.cC, .int .i64 y.fin.op, .int .i64 y.fin.a, .int .i64 y.fin.yes.block, .slice b2.e.pYR y.fin.yes.regs.length b2.e.cYR, .slice b2.e.pYA y.fin.yes.args.length b2.e.cYA, .int .i64 y.fin.no.block, .slice b2.e.pNR y.fin.no.regs.length b2.e.cNR, .slice b2.e.pNA y.fin.no.args.length b2.e.cNA, .slice b2.e.pA y.fin.args.length b2.e.cA], 77), (B6, #[.int .i64 x.regs, .slice f1.pP x.params.length f1.cP, .slice f1.pR x.results.length f1.cR, .slice f1.pB x.blocks.length f1.cB], 50), (B3, #[.int .i64 0, .int .i64 0], 26), (B2, #[.slice p m.length c], 39)] := hWD.1
         clear hFD hWD hE hF136 h133
         clear hW130
         refine wpList_nil ?_
         refine hK135 _ _ ?_
         refine wp_seq_k ?_
         intro K138 hK138
         refine fr_region ?_
         intro ops hops
         clear hops
         refine St.go hF137 ?_; clear hF137 a137
         refine sm trivial rfl rfl ?_
         refine sne trivial rfl rfl rfl ?_
         refine St.nil fun a139 h139 => ?_
         refine hK138 _ _ ?_
         refine fr_cond (t := 93) h139 rfl (fun hb => ?_) (fun hb => ?_)
         ·have h9 : ¬ (MIns.form m.length z) = 0 := bne_iff_ne.1 hb
          have hc140 : ¬ (MIns.form m.length z) = 0 := h9
          clear h9
          clear hb
          refine wp_seq_k ?_
          intro K141 hK141
          refine fr_region ?_
          intro ops hops
          clear hops
          refine St.go h139 ?_; clear h139 a139
          refine sm trivial rfl rfl ?_
          refine sm trivial rfl rfl ?_
          refine sm trivial rfl rfl ?_
          refine sm trivial rfl rfl ?_
          refine sc_3 cf31 hW137 (atIns_any (f := fi) (b := bi) (i := q) ⟨by omega, by omega, by omega⟩) trivial rfl rfl rfl rfl ?_
          clear hW137; intro w142 hW142
          refine sc_2 cf48 hW142 (fF_any (xc := MIns.form m.length z) (xp := 10000 * (fi : Int) + 100 * (bi : Int) + (q : Int))) trivial rfl rfl rfl ?_
          clear hW142; intro w143 hW143
          refine sT 2 hW143 rfl rfl infFault rfl rfl rfl ?_
          clear hW143; intro w144 hW144
          refine St.nil fun a145 h145 => ?_
          refine hK141 _ _ ?_
          refine wp_ret ?_
          repeat (first | with_reducible refine of_then_ret ?_ | with_reducible refine of_block_ret ?_)
          have := hc44.out
          have RC : y.code' x bi = 0 := (if_neg (by omega)).trans ((if_neg (by omega)).trans ((if_neg (by omega)).trans ((if_neg (by omega)).trans (rfl))))
          have EF := MBlock.fault_eq m.length fi x bi y
          rw [if_pos RC] at EF
          have RI : firstF (fun i z => (MIns.form m.length z, (10000 * fi + 100 * bi + i : Int))) 0 y.code = (MIns.form m.length z, (10000 * fi + 100 * bi + q : Int)) := by
            have h9 := firstF_eq (f := fun i z => (MIns.form m.length z, (10000 * fi + 100 * bi + i : Int))) (j := 0) hx3.out (fun k z hk hz => hall3 k z hk hz) hc140
            rwa [Nat.zero_add] at h9
          rw [RI, if_neg hc140] at EF
          exact ret_box 2 h145 hW144 rfl rfl rfl Try.underlying26 rfl infFault ⟨by show Ending.returned (.agg #[.int .i64 (MIns.form m.length z), .int .i64 (10000 * (fi : Int) + 100 * (bi : Int) + (q : Int))]) = _; rw [EF], hW144.bel⟩
         ·have h9 : (MIns.form m.length z) = 0 := bne_eq_false_iff_eq.1 hb
          have hc146 : Hid ((MIns.form m.length z) = 0) := h9
          clear h9
          clear hb
          refine wp_skip ?_
          refine hK134 _ _ ?_
          refine fr_region ?_
          intro ops hops
          clear hops
          refine St.go h139 ?_; clear h139 a139
          refine sm trivial rfl rfl ?_
          refine sad (by omega) trivial rfl rfl rfl ?_
          refine sa trivial rfl rfl ?_
          refine St.nil fun a147 h147 => ?_
          refine hKL3 _ _ (y.code.length - (q + 1)) (by omega) ⟨q + 1, by omega, rfl, ?_, (h147.keep (h147.keep (h147.keep (h147.keep (h147.keep (h147.keep (h147.keep (h147.keep (h147.keep h147.nil (t := 10) rfl) (t := 9) rfl) (t := 8) rfl) (t := 7) rfl) (t := 6) rfl) (t := 3) rfl) (t := 0) rfl) (t := 1) rfl) (t := 2) rfl), hW137⟩
          ·intro j z hj hz
           by_cases e : j = q
           · subst e; rw [hx3.out] at hz; cases hz; exact hc146.out
           · exact hall3 j z (by omega) hz
       ·have hge3 : q = y.code.length := by have := of_decide_eq_false hb; omega
        clear hb
        refine wp_exit ?_
        refine hK127 _ _ ?_
        refine wp_seq_k ?_
        intro K148 hK148
        refine wp_seq_k ?_
        intro K149 hK149
        refine fr_region ?_
        intro ops hops
        clear hops
        refine St.go h133 ?_; clear h133 a133
        refine sS 1 4 Try.underlying50 rfl infFunc hW130 trivial rfl rfl rfl rfl ?_
        refine sfBlock3 trivial rfl rfl ?_
        refine sS 0 9 Try.underlying54 rfl infEnd hW130 trivial rfl rfl rfl rfl ?_
        refine sc_2 cf23 hW130 (endForm_any (x := y.fin) (e := b2.e) (fr := x.regs) (fp := f1.pP) (fl := x.params.length) (fc := f1.cP) (fq := f1.pR) (fm := x.results.length) (fd := f1.cR) (fb := f1.pB) (bl := x.blocks.length) (fe := f1.cB) (by have := hs2.out.2.2.1; exact ⟨by have := this.1.1; omega, by have := this.1.2; omega, by have := this.2.1.1; omega, by have := this.2.1.2; omega⟩) (by have := hs1.out.1; omega)) trivial rfl rfl rfl ?_
        clear hW130; intro w150 hW150
        refine sa trivial rfl rfl ?_
        refine St.nil fun a151 h151 => ?_
        refine hK149 _ _ ?_
        refine wp_seq_k ?_
        intro K152 hK152
        refine fr_region ?_
        intro ops hops
        clear hops
        refine St.go h151 ?_; clear h151 a151
        refine sm trivial rfl rfl ?_
        refine sne trivial rfl rfl rfl ?_
        refine St.nil fun a153 h153 => ?_
        refine hK152 _ _ ?_
        refine fr_cond (t := 105) h153 rfl (fun hb => ?_) (fun hb => ?_)
        ·have h9 : ¬ (y.fin.form x.blocks.length) = 0 := bne_iff_ne.1 hb
         have hc154 : ¬ (y.fin.form x.blocks.length) = 0 := h9
         clear h9
         clear hb
         refine wp_seq_k ?_
         intro K155 hK155
         refine fr_region ?_
         intro ops hops
         clear hops
         refine St.go h153 ?_; clear h153 a153
         refine sm trivial rfl rfl ?_
         refine sm trivial rfl rfl ?_
         refine sm trivial rfl rfl ?_
         refine sc_2 cf29 hW150 (atEnd_any (f := fi) (b := bi) ⟨by omega, by omega⟩) trivial rfl rfl rfl ?_
         clear hW150; intro w156 hW156
         refine sc_2 cf48 hW156 (fF_any (xc := y.fin.form x.blocks.length) (xp := 10000 * (fi : Int) + 100 * (bi : Int) + 91)) trivial rfl rfl rfl ?_
         clear hW156; intro w157 hW157
         refine sT 2 hW157 rfl rfl infFault rfl rfl rfl ?_
         clear hW157; intro w158 hW158
         refine St.nil fun a159 h159 => ?_
         refine hK155 _ _ ?_
         refine wp_ret ?_
         repeat (first | with_reducible refine of_then_ret ?_ | with_reducible refine of_block_ret ?_)
         have := hc44.out
         have RC : y.code' x bi = 0 := (if_neg (by omega)).trans ((if_neg (by omega)).trans ((if_neg (by omega)).trans ((if_neg (by omega)).trans (rfl))))
         have EF := MBlock.fault_eq m.length fi x bi y
         rw [if_pos RC] at EF
         have RI : firstF (fun i z => (MIns.form m.length z, (10000 * fi + 100 * bi + i : Int))) 0 y.code = (0, 0) := firstF_zero (fun k z hz => hall3 k z (by have := (List.getElem?_eq_some_iff.1 hz).1; omega) hz)
         rw [RI, if_pos rfl] at EF
         exact ret_box 2 h159 hW158 rfl rfl rfl Try.underlying26 rfl infFault ⟨by show Ending.returned (.agg #[.int .i64 (y.fin.form x.blocks.length), .int .i64 (10000 * (fi : Int) + 100 * (bi : Int) + 91)]) = _; rw [EF]; simp [atF, hc154], hW158.bel⟩
        ·have h9 : (y.fin.form x.blocks.length) = 0 := bne_eq_false_iff_eq.1 hb
         have hc160 : Hid ((y.fin.form x.blocks.length) = 0) := h9
         clear h9
         clear hb
         refine wp_skip ?_
         refine hK148 _ _ ?_
         refine wp_seq_k ?_
         intro K161 hK161
         refine fr_region ?_
         intro ops hops
         clear hops
         refine fr_pure (t := 111) (v := .agg #[.int .i64 0, .int .i64 0]) (w' := w150) h153 rfl rfl rfl (fun K hK => ?_) ?_
         ·go_simp
          exact hK
         clear h153; intro a162 hF162
         refine St.go hF162 ?_; clear hF162 a162
         refine sT 2 hW150 rfl rfl infFault rfl rfl rfl ?_
         clear hW150; intro w163 hW163
         refine St.nil fun a164 h164 => ?_
         refine hK161 _ _ ?_
         refine wp_ret ?_
         repeat (first | with_reducible refine of_then_ret ?_ | with_reducible refine of_block_ret ?_)
         have := hc44.out
         have := hc160.out
         have RC : y.code' x bi = 0 := (if_neg (by omega)).trans ((if_neg (by omega)).trans ((if_neg (by omega)).trans ((if_neg (by omega)).trans (rfl))))
         have EF := MBlock.fault_eq m.length fi x bi y
         rw [if_pos RC] at EF
         have RI : firstF (fun i z => (MIns.form m.length z, (10000 * fi + 100 * bi + i : Int))) 0 y.code = (0, 0) := firstF_zero (fun k z hz => hall3 k z (by have := (List.getElem?_eq_some_iff.1 hz).1; omega) hz)
         rw [RI, if_pos rfl] at EF
         exact ret_box 2 h164 hW163 rfl rfl rfl Try.underlying26 rfl infFault ⟨by show Ending.returned (.agg #[.int .i64 0, .int .i64 0]) = _; rw [EF]; simp [atF, hc160.out], hW163.bel⟩
end Go.Proofs.Ytmnmnokkojcodab
