/-
  greatTypes, GreatModule: more than is gone through in time?
-/
import Derived.Test.YtmnmnokkojcodabFrW
import Derived.Test.YtmnmnokkojcodabFrQ
import Derived.Test.YtmnmnokkojcodabCodMem
import Derived.Test.YtmnmnokkojcodabTypRead
namespace Go.Proofs.Ytmnmnokkojcodab
open Go.ChangeShapes Go.WideShapes Go.ChangeAt Go.RowKit
set_option linter.unusedVariables false
set_option linter.unusedSimpArgs false

set_option maxHeartbeats 4000000 in
set_option maxRecDepth 100000 in
theorem greatTypes_any (n : Nat) (l : List (TT n)) (p : Option Addr) (c : Nat) (w : World) (hl0 : LIn w All l p) :
    Rd Try.prog 41 #[.slice p l.length c] w (.bool (bdec (greatTs l))) := by
  have hl : Hid (LIn w All l p) := hl0
  clear hl0
  refine fr_enter (n := 18) Try.func41 rfl rfl rfl ?_
  intro a hF
  have hW := Wd.start w
  replace hF : Fr 18 a [(0, .slice p l.length c)] := hF
  refine wp_seq_k ?_
  intro K1 hK1
  refine fr_region ?_
  intro ops hops
  clear hops
  refine St.go hF ?_; clear hF a
  refine sa trivial rfl rfl ?_
  refine St.nil fun a2 h2 => ?_
  refine hK1 _ _ ?_
  refine wp_seq_k ?_
  intro K3 hK3
  refine wp_seq_k ?_
  intro K4 hK4
  refine fr_region ?_
  intro ops hops
  clear hops
  refine St.go h2 ?_; clear h2 a2
  refine sm trivial rfl rfl ?_
  refine slTypes trivial rfl rfl ?_
  refine sgt trivial rfl rfl rfl ?_
  refine St.nil fun a5 h5 => ?_
  refine hK4 _ _ ?_
  refine fr_cond (t := 6) h5 rfl (fun hb => ?_) (fun hb => ?_)
  ·have hlen : 200 < l.length := by have := of_decide_eq_true hb; omega
   refine wp_seq_k ?_
   intro K6 hK6
   refine fr_region ?_
   intro ops hops
   clear hops
   refine St.go h5 ?_; clear h5 a5
   refine sa trivial rfl rfl ?_
   refine St.nil fun a7 h7 => ?_
   refine hK6 _ _ ?_
   refine wp_ret ?_
   repeat (first | with_reducible refine of_then_ret ?_ | with_reducible refine of_block_ret ?_)
   have GR : greatTs l := by first | exact .inl hlen | exact .inr ⟨x, List.mem_of_getElem? hx.out, hcx⟩
   exact ret_tmp (t := 2) h7 rfl rfl ⟨by rw [bdec_true GR], hW.bel⟩
  ·have hlen : l.length ≤ 200 := by have := of_decide_eq_false hb; omega
   refine wp_skip ?_
   refine hK3 _ _ ?_
   refine wp_seq_k ?_
   intro K8 hK8
   refine wp_seq_k ?_
   intro K9 hK9
   refine fr_region ?_
   intro ops hops
   clear hops
   refine St.go h5 ?_; clear h5 a5
   refine sa trivial rfl rfl ?_
   refine St.nil fun a10 h10 => ?_
   refine hK9 _ _ ?_
   refine wp_block ?_
   refine fr_loop (fun r a w' => ∃ q : Nat, q ≤ l.length ∧ r = l.length - q ∧ (∀ (j : Nat) x, j < q → l[j]? = some x → x.count ≤ 2000) ∧ Fr 18 a [(0, .slice p l.length c), (2, .bool false), (3, .int .i64 (q : Int))] ∧ Wd w w' []) l.length ⟨0, Nat.zero_le _, rfl, fun j x hj => by omega, (h10.keep (h10.keep (h10.keep h10.nil (t := 3) rfl) (t := 2) rfl) (t := 0) rfl), hW⟩ ?_
   clear h10 hW
   rintro r a11 w11 ⟨q, hq, hr, hall, hF11, hW11⟩ KL hKL
   refine wp_seq_k ?_
   intro K12 hK12
   refine wp_seq_k ?_
   intro K13 hK13
   refine fr_region ?_
   intro ops hops
   clear hops
   refine St.go hF11 ?_; clear hF11 a11
   refine sm trivial rfl rfl ?_
   refine sm trivial rfl rfl ?_
   refine slTypes trivial rfl rfl ?_
   refine slt trivial rfl rfl rfl ?_
   refine St.nil fun a14 h14 => ?_
   refine hK13 _ _ ?_
   refine fr_cond (t := 10) h14 rfl (fun hb => ?_) (fun hb => ?_)
   ·have hlt : q < l.length := by have := of_decide_eq_true hb; omega
    clear hb
    obtain ⟨x, hx⟩ : ∃ x, l[q]? = some x := ⟨_, List.getElem?_eq_getElem hlt⟩
    obtain ⟨g, o, p', c', hp, E, H⟩ := lin_at hl.out hx
    replace hp : Hid _ := hp
    replace E : Hid _ := E
    replace H : Hid _ := H
    replace hx : Hid _ := hx
    refine wp_skip ?_
    refine hK12 _ _ ?_
    refine wp_seq_k ?_
    intro K15 hK15
    refine wp_block ?_
    refine wp_seq_k ?_
    intro K16 hK16
    refine fr_region ?_
    intro ops hops
    clear hops
    refine St.go h14 ?_; clear h14 a14
    refine sm trivial rfl rfl ?_
    refine sm trivial rfl rfl ?_
    refine siTypes hp.out hlt trivial rfl rfl rfl ?_
    refine sSE Try.underlying90 rfl (rangeAt_bel E.out hW11.bel) infType trivial rfl rfl ?_
    refine sc_1 cf67 hW11 (great_any n x p' c' w11 (H.out.below hW11.bel)) trivial rfl rfl ?_
    clear hW11; intro w17 hW17
    refine St.nil fun a18 h18 => ?_
    refine hK16 _ _ ?_
    refine fr_cond (t := 17) h18 rfl (fun hb => ?_) (fun hb => ?_)
    ·have hcx : 2000 < x.count := of_decide_eq_true hb
     refine wp_seq_k ?_
     intro K19 hK19
     refine fr_region ?_
     intro ops hops
     clear hops
     refine St.go h18 ?_; clear h18 a18
     refine sa trivial rfl rfl ?_
     refine St.nil fun a20 h20 => ?_
     refine hK19 _ _ ?_
     refine wp_ret ?_
     repeat (first | with_reducible refine of_then_ret ?_ | with_reducible refine of_block_ret ?_)
     have GR : greatTs l := by first | exact .inl hlen | exact .inr ⟨x, List.mem_of_getElem? hx.out, hcx⟩
     exact ret_tmp (t := 2) h20 rfl rfl ⟨by rw [bdec_true GR], hW17.bel⟩
    ·have hcx : x.count ≤ 2000 := by have := of_decide_eq_false hb; omega
     refine wp_skip ?_
     refine hK15 _ _ ?_
     refine fr_region ?_
     intro ops hops
     clear hops
     refine St.go h18 ?_; clear h18 a18
     refine sm trivial rfl rfl ?_
     refine sad (by omega) trivial rfl rfl rfl ?_
     refine sa trivial rfl rfl ?_
     refine St.nil fun a21 h21 => ?_
     refine hKL _ _ (l.length - (q + 1)) (by omega) ⟨q + 1, by omega, rfl, fun j y hj hy => ?_, (h21.keep (h21.keep (h21.keep h21.nil (t := 3) rfl) (t := 2) rfl) (t := 0) rfl), hW17⟩
     by_cases e : j = q
     · subst e; rw [hx.out] at hy; cases hy; exact hcx
     · exact hall j y (by omega) hy
   ·have hge : q = l.length := by have := of_decide_eq_false hb; omega
    refine wp_exit ?_
    refine hK8 _ _ ?_
    refine wp_seq_k ?_
    intro K22 hK22
    refine fr_region ?_
    intro ops hops
    clear hops
    refine St.go h14 ?_; clear h14 a14
    refine sa trivial rfl rfl ?_
    refine St.nil fun a23 h23 => ?_
    refine hK22 _ _ ?_
    refine wp_ret ?_
    repeat (first | with_reducible refine of_then_ret ?_ | with_reducible refine of_block_ret ?_)
    have GR : ¬ greatTs l := by
      rintro (h | ⟨x, hx, h⟩)
      · omega
      · obtain ⟨i, hi, rfl⟩ := List.mem_iff_getElem.1 hx
        have := hall i _ (by omega) (List.getElem?_eq_getElem hi)
        omega
    exact ret_tmp (t := 2) h23 rfl rfl ⟨by rw [bdec_false GR], hW11.bel⟩

set_option maxHeartbeats 4000000 in
set_option maxRecDepth 100000 in
theorem greatModule_any (n : Nat) (m : List (MFunc n)) (p : Option Addr) (c : Nat) (w : World) (hm0 : (modL n).In w All m [.slice p m.length c]) :
    Rd Try.prog 13 #[.agg #[.slice p m.length c]] w (.bool (bdec (greatMod m))) := by
  have hm : Hid ((modL n).In w All m [.slice p m.length c]) := hm0
  clear hm0
  refine fr_enter (n := 123) Try.func13 rfl rfl rfl ?_
  intro a hF
  have hW := Wd.start w
  replace hF : Fr 123 a [(0, .agg #[.slice p m.length c])] := hF
  refine wp_seq_k ?_
  intro K1 hK1
  refine fr_region ?_
  intro ops hops
  clear hops
  refine St.go hF ?_; clear hF a
  refine sB hW trivial rfl rfl ?_
  clear hW; intro w2 B2 hW2 hN; clear hN
  refine sa trivial rfl rfl ?_
  refine St.nil fun a3 h3 => ?_
  refine hK1 _ _ ?_
  refine wp_seq_k ?_
  intro K4 hK4
  refine wp_seq_k ?_
  intro K5 hK5
  refine fr_region ?_
  intro ops hops
  clear hops
  refine St.go h3 ?_; clear h3 a3
  refine sfModule0 trivial rfl rfl ?_
  refine sbFuncs 0 hW2 trivial rfl rfl rfl rfl ?_
  refine slFuncs trivial rfl rfl ?_
  refine sgt trivial rfl rfl rfl ?_
  refine St.nil fun a6 h6 => ?_
  refine hK5 _ _ ?_
  refine fr_cond (t := 11) h6 rfl (fun hb => ?_) (fun hb => ?_)
  ·have hc7 : 20 < m.length := by have := of_decide_eq_true hb; omega
   clear hb
   refine wp_seq_k ?_
   intro K8 hK8
   refine fr_region ?_
   intro ops hops
   clear hops
   refine St.go h6 ?_; clear h6 a6
   refine sa trivial rfl rfl ?_
   refine St.nil fun a9 h9 => ?_
   refine hK8 _ _ ?_
   refine wp_ret ?_
   repeat (first | with_reducible refine of_then_ret ?_ | with_reducible refine of_block_ret ?_)
   have GR : greatMod m := .inl hc7
   exact ret_tmp (t := 2) h9 rfl rfl ⟨by rw [bdec_true GR], hW2.bel⟩
  ·have hc10 : ¬ (20 < m.length) := by have := of_decide_eq_false hb; omega
   clear hb
   refine wp_skip ?_
   refine hK4 _ _ ?_
   refine wp_seq_k ?_
   intro K11 hK11
   refine wp_seq_k ?_
   intro K12 hK12
   refine fr_region ?_
   intro ops hops
   clear hops
   refine St.go h6 ?_; clear h6 a6
   refine sa trivial rfl rfl ?_
   refine St.nil fun a13 h13 => ?_
   refine hK12 _ _ ?_
   refine wp_block ?_
   refine fr_loop (fun r a w' => ∃ q1 : Nat, q1 ≤ m.length ∧ r = m.length - q1 ∧ (∀ (j : Nat) x, j < q1 → m[j]? = some x → ¬ x.great) ∧ Fr 123 a [(0, .agg #[.slice p m.length c]), (1, .pointer (some ⟨B2, 0, none⟩)), (2, .bool false), (3, .int .i64 (q1 : Int))] ∧ Wd w w' [(B2, #[.slice p m.length c], 39)]) (m.length) ⟨0, Nat.zero_le _, rfl, (fun j x hj => by omega), (h13.keep (h13.keep (h13.keep (h13.keep h13.nil (t := 3) rfl) (t := 2) rfl) (t := 1) rfl) (t := 0) rfl), hW2⟩ ?_
   clear h13 hW2
   rintro r1 a14 w14 ⟨q1, hq1, hr1, hall1, hF14, hW14⟩ KL1 hKL1
   refine wp_seq_k ?_
   intro K15 hK15
   refine wp_seq_k ?_
   intro K16 hK16
   refine fr_region ?_
   intro ops hops
   clear hops
   refine St.go hF14 ?_; clear hF14 a14
   refine sm trivial rfl rfl ?_
   refine sfModule0 trivial rfl rfl ?_
   refine sbFuncs 0 hW14 trivial rfl rfl rfl rfl ?_
   refine slFuncs trivial rfl rfl ?_
   refine slt trivial rfl rfl rfl ?_
   refine St.nil fun a17 h17 => ?_
   refine hK16 _ _ ?_
   refine fr_cond (t := 16) h17 rfl (fun hb => ?_) (fun hb => ?_)
   ·have hlt1 : q1 < m.length := by have := of_decide_eq_true hb; omega
    clear hb
    obtain ⟨x, hx1⟩ : ∃ v9, (m)[q1]? = some v9 := ⟨_, List.getElem?_eq_getElem hlt1⟩
    obtain ⟨g1, o1, f1, hp1, E1, In1⟩ := func_at hm.out hx1
    replace In1 : Hid _ := In1
    replace hp1 : Hid _ := hp1
    replace hx1 : Hid _ := hx1
    replace E1 : Hid _ := E1
    refine wp_skip ?_
    refine hK15 _ _ ?_
    refine wp_seq_k ?_
    intro K18 hK18
    refine wp_block ?_
    refine wp_seq_k ?_
    intro K19 hK19
    refine fr_region ?_
    intro ops hops
    clear hops
    refine St.go h17 ?_; clear h17 a17
    refine sfModule0 trivial rfl rfl ?_
    refine sbFuncs 0 hW14 trivial rfl rfl rfl rfl ?_
    refine sm trivial rfl rfl ?_
    refine siFuncs hp1.out hlt1 trivial rfl rfl rfl ?_
    refine sSE Try.underlying50 rfl (rangeAt_bel E1.out hW14.bel) infFunc trivial rfl rfl ?_
    refine sAFunc hW14 trivial rfl ?_
    clear hW14; intro w20 B20 hW20 hN; clear hN
    refine sT 0 hW20 rfl rfl infFunc rfl rfl rfl ?_
    clear hW20; intro w21 hW21
    refine St.nil fun a22 h22 => ?_
    refine hK19 _ _ ?_
    refine wp_seq_k ?_
    intro K23 hK23
    refine wp_seq_k ?_
    intro K24 hK24
    refine fr_region ?_
    intro ops hops
    have hg4 : (ops[4]?).bind (fun o : Oper => o.dst) = some 28 := hops 4
    have hg9 : (ops[9]?).bind (fun o : Oper => o.dst) = some 33 := hops 9
    clear hops
    refine St.go h22 ?_; clear h22 a22
    refine sfFunc3 trivial rfl rfl ?_
    refine sbBlocks 0 hW21 trivial rfl rfl rfl rfl ?_
    refine slBlocks trivial rfl rfl ?_
    refine sgt trivial rfl rfl rfl ?_
    refine sm trivial rfl rfl ?_
    intro a25 h25
    rcases Bool.eq_false_or_eq_true (decide (30 < (x.blocks.length : Int))) with hb | hb
    ·rw [hb] at h25
     have hc26 : 30 < x.blocks.length := by have := of_decide_eq_true hb; omega
     clear hb
     refine St.go h25 ?_; clear h25 a25
     refine so hg4 rfl rfl rfl rfl ?_
     refine so hg4 rfl rfl rfl rfl ?_
     refine so hg4 rfl rfl rfl rfl ?_
     refine sp trivial rfl rfl rfl ?_
     refine sm trivial rfl rfl ?_
     refine so hg9 rfl rfl rfl rfl ?_
     refine so hg9 rfl rfl rfl rfl ?_
     refine so hg9 rfl rfl rfl rfl ?_
     refine sp trivial rfl rfl rfl ?_
     refine St.nil fun a27 h27 => ?_
     refine hK24 _ _ ?_
     refine fr_true (t := 37) h27 rfl ?_
     refine wp_seq_k ?_
     intro K28 hK28
     refine fr_region ?_
     intro ops hops
     clear hops
     refine St.go h27 ?_; clear h27 a27
     refine sa trivial rfl rfl ?_
     refine St.nil fun a29 h29 => ?_
     refine hK28 _ _ ?_
     refine wp_ret ?_
     repeat (first | with_reducible refine of_then_ret ?_ | with_reducible refine of_block_ret ?_)
     have GR : greatMod m := .inr ⟨x, List.mem_of_getElem? hx1.out, .inl hc26⟩
     exact ret_tmp (t := 2) h29 rfl rfl ⟨by rw [bdec_true GR], hW21.bel⟩
    ·rw [hb] at h25
     have hc30 : ¬ (30 < x.blocks.length) := by have := of_decide_eq_false hb; omega
     clear hb
     refine St.go h25 ?_; clear h25 a25
     refine sfFunc1 ⟨_, hg4, rfl, rfl⟩ rfl rfl ?_
     refine sbTypes 0 hW21 ⟨_, hg4, rfl, rfl⟩ rfl rfl rfl rfl ?_
     refine sc_1 cf41 hW21 (greatTypes_any n x.params f1.pP f1.cP w21 ((types_lin In1.out.params).1.below hW21.bel)) ⟨_, hg4, rfl, rfl⟩ rfl rfl ?_
     clear hW21; intro w31 hW31
     refine spf trivial rfl rfl rfl ?_
     refine sm trivial rfl rfl ?_
     intro a32 h32
     rcases Bool.eq_false_or_eq_true (bdec (greatTs x.params)) with hb | hb
     ·rw [hb] at h32
      have hc33 : (greatTs x.params) := bdec_iff.1 hb
      clear hb
      refine St.go h32 ?_; clear h32 a32
      refine so hg9 rfl rfl rfl rfl ?_
      refine so hg9 rfl rfl rfl rfl ?_
      refine so hg9 rfl rfl rfl rfl ?_
      refine sp trivial rfl rfl rfl ?_
      refine St.nil fun a34 h34 => ?_
      refine hK24 _ _ ?_
      refine fr_true (t := 37) h34 rfl ?_
      refine wp_seq_k ?_
      intro K35 hK35
      refine fr_region ?_
      intro ops hops
      clear hops
      refine St.go h34 ?_; clear h34 a34
      refine sa trivial rfl rfl ?_
      refine St.nil fun a36 h36 => ?_
      refine hK35 _ _ ?_
      refine wp_ret ?_
      repeat (first | with_reducible refine of_then_ret ?_ | with_reducible refine of_block_ret ?_)
      have GR : greatMod m := .inr ⟨x, List.mem_of_getElem? hx1.out, .inr (.inl hc33)⟩
      exact ret_tmp (t := 2) h36 rfl rfl ⟨by rw [bdec_true GR], hW31.bel⟩
     ·rw [hb] at h32
      have hc37 : ¬ (greatTs x.params) := fun h => by rw [bdec_true h] at hb; cases hb
      clear hb
      refine St.go h32 ?_; clear h32 a32
      refine sfFunc2 ⟨_, hg9, rfl, rfl⟩ rfl rfl ?_
      refine sbTypes 0 hW31 ⟨_, hg9, rfl, rfl⟩ rfl rfl rfl rfl ?_
      refine sc_1 cf41 hW31 (greatTypes_any n x.results f1.pR f1.cR w31 ((types_lin In1.out.results).1.below hW31.bel)) ⟨_, hg9, rfl, rfl⟩ rfl rfl ?_
      clear hW31; intro w38 hW38
      refine spf trivial rfl rfl rfl ?_
      refine St.nil fun a39 h39 => ?_
      refine hK24 _ _ ?_
      refine fr_cond (t := 37) h39 rfl (fun hb => ?_) (fun hb => ?_)
      ·have hc40 : (greatTs x.results) := bdec_iff.1 hb
       clear hb
       refine wp_seq_k ?_
       intro K41 hK41
       refine fr_region ?_
       intro ops hops
       clear hops
       refine St.go h39 ?_; clear h39 a39
       refine sa trivial rfl rfl ?_
       refine St.nil fun a42 h42 => ?_
       refine hK41 _ _ ?_
       refine wp_ret ?_
       repeat (first | with_reducible refine of_then_ret ?_ | with_reducible refine of_block_ret ?_)
       have GR : greatMod m := .inr ⟨x, List.mem_of_getElem? hx1.out, .inr (.inr (.inl hc40))⟩
       exact ret_tmp (t := 2) h42 rfl rfl ⟨by rw [bdec_true GR], hW38.bel⟩
      ·have hc43 : ¬ (greatTs x.results) := fun h => by rw [bdec_true h] at hb; cases hb
       clear hb
       refine wp_skip ?_
       refine hK23 _ _ ?_
       refine wp_seq_k ?_
       intro K44 hK44
       refine fr_region ?_
       intro ops hops
       clear hops
       refine St.go h39 ?_; clear h39 a39
       refine sa trivial rfl rfl ?_
       refine St.nil fun a45 h45 => ?_
       refine hK44 _ _ ?_
       refine wp_block ?_
       refine fr_loop (fun r a w' => ∃ q2 : Nat, q2 ≤ x.blocks.length ∧ r = x.blocks.length - q2 ∧ (∀ (j : Nat) y, j < q2 → x.blocks[j]? = some y → ¬ y.great) ∧ Fr 123 a [(0, .agg #[.slice p m.length c]), (1, .pointer (some ⟨B2, 0, none⟩)), (2, .bool false), (3, .int .i64 (q1 : Int)), (4, .pointer (some ⟨B20, 0, none⟩)), (5, .int .i64 (q2 : Int))] ∧ Wd w w' [(B20, #[.int .i64 x.regs, .slice f1.pP x.params.length f1.cP, .slice f1.pR x.results.length f1.cR, .slice f1.pB x.blocks.length f1.cB], 50), (B2, #[.slice p m.length c], 39)]) (x.blocks.length) ⟨0, Nat.zero_le _, rfl, (fun j x hj => by omega), (h45.keep (h45.keep (h45.keep (h45.keep (h45.keep (h45.keep h45.nil (t := 5) rfl) (t := 4) rfl) (t := 3) rfl) (t := 2) rfl) (t := 1) rfl) (t := 0) rfl), hW38⟩ ?_
       clear h45 hW38
       rintro r2 a46 w46 ⟨q2, hq2, hr2, hall2, hF46, hW46⟩ KL2 hKL2
       refine wp_seq_k ?_
       intro K47 hK47
       refine wp_seq_k ?_
       intro K48 hK48
       refine fr_region ?_
       intro ops hops
       clear hops
       refine St.go hF46 ?_; clear hF46 a46
       refine sm trivial rfl rfl ?_
       refine sfFunc3 trivial rfl rfl ?_
       refine sbBlocks 0 hW46 trivial rfl rfl rfl rfl ?_
       refine slBlocks trivial rfl rfl ?_
       refine slt trivial rfl rfl rfl ?_
       refine St.nil fun a49 h49 => ?_
       refine hK48 _ _ ?_
       refine fr_cond (t := 42) h49 rfl (fun hb => ?_) (fun hb => ?_)
       ·have hlt2 : q2 < x.blocks.length := by have := of_decide_eq_true hb; omega
        clear hb
        obtain ⟨y, hx2⟩ : ∃ v9, (x.blocks)[q2]? = some v9 := ⟨_, List.getElem?_eq_getElem hlt2⟩
        obtain ⟨g2, o2, b2, hp2, E2, In2⟩ := block_at In1.out.blocks hx2
        replace In2 : Hid _ := In2
        replace hp2 : Hid _ := hp2
        replace hx2 : Hid _ := hx2
        replace E2 : Hid _ := E2
        refine wp_skip ?_
        refine hK47 _ _ ?_
        refine wp_seq_k ?_
        intro K50 hK50
        refine wp_block ?_
        refine wp_seq_k ?_
        intro K51 hK51
        refine fr_region ?_
        intro ops hops
        clear hops
        refine St.go h49 ?_; clear h49 a49
        refine sfFunc3 trivial rfl rfl ?_
        refine sbBlocks 0 hW46 trivial rfl rfl rfl rfl ?_
        refine sm trivial rfl rfl ?_
        refine siBlocks hp2.out hlt2 trivial rfl rfl rfl ?_
        refine sSE Try.underlying77 rfl (rangeAt_bel E2.out hW46.bel) infBlock trivial rfl rfl ?_
        refine sABlock hW46 trivial rfl ?_
        clear hW46; intro w52 B52 hW52 hN; clear hN
        refine sT 0 hW52 rfl rfl infBlock rfl rfl rfl ?_
        clear hW52; intro w53 hW53
        refine St.nil fun a54 h54 => ?_
        refine hK51 _ _ ?_
        refine wp_seq_k ?_
        intro K55 hK55
        refine wp_seq_k ?_
        intro K56 hK56
        refine fr_region ?_
        intro ops hops
        have hg4 : (ops[4]?).bind (fun o : Oper => o.dst) = some 54 := hops 4
        have hg9 : (ops[9]?).bind (fun o : Oper => o.dst) = some 59 := hops 9
        have hg16 : (ops[16]?).bind (fun o : Oper => o.dst) = some 66 := hops 16
        have hg24 : (ops[24]?).bind (fun o : Oper => o.dst) = some 74 := hops 24
        have hg32 : (ops[32]?).bind (fun o : Oper => o.dst) = some 82 := hops 32
        have hg40 : (ops[40]?).bind (fun o : Oper => o.dst) = some 90 := hops 40
        clear hops
        refine St.go h54 ?_; clear h54 a54
        refine sfBlock2 trivial rfl rfl ?_
        refine sbInss 0 hW53 trivial rfl rfl rfl rfl ?_
        refine slInss trivial rfl rfl ?_
        refine sgt trivial rfl rfl rfl ?_
        refine sm trivial rfl rfl ?_
        intro a57 h57
        rcases Bool.eq_false_or_eq_true (decide (200 < (y.code.length : Int))) with hb | hb
        ·rw [hb] at h57
         have hc58 : 200 < y.code.length := by have := of_decide_eq_true hb; omega
         clear hb
         refine St.go h57 ?_; clear h57 a57
         refine so hg4 rfl rfl rfl rfl ?_
         refine so hg4 rfl rfl rfl rfl ?_
         refine so hg4 rfl rfl rfl rfl ?_
         refine sp trivial rfl rfl rfl ?_
         refine sm trivial rfl rfl ?_
         refine so hg9 rfl rfl rfl rfl ?_
         refine so hg9 rfl rfl rfl rfl ?_
         refine so hg9 rfl rfl rfl rfl ?_
         refine so hg9 rfl rfl rfl rfl ?_
         refine so hg9 rfl rfl rfl rfl ?_
         refine sp trivial rfl rfl rfl ?_
         refine sm trivial rfl rfl ?_
         refine so hg16 rfl rfl rfl rfl ?_
         refine so hg16 rfl rfl rfl rfl ?_
         refine so hg16 rfl rfl rfl rfl ?_
         refine so hg16 rfl rfl rfl rfl ?_
         refine so hg16 rfl rfl rfl rfl ?_
         refine so hg16 rfl rfl rfl rfl ?_
         refine sp trivial rfl rfl rfl ?_
         refine sm trivial rfl rfl ?_
         refine so hg24 rfl rfl rfl rfl ?_
         refine so hg24 rfl rfl rfl rfl ?_
         refine so hg24 rfl rfl rfl rfl ?_
         refine so hg24 rfl rfl rfl rfl ?_
         refine so hg24 rfl rfl rfl rfl ?_
         refine so hg24 rfl rfl rfl rfl ?_
         refine sp trivial rfl rfl rfl ?_
         refine sm trivial rfl rfl ?_
         refine so hg32 rfl rfl rfl rfl ?_
         refine so hg32 rfl rfl rfl rfl ?_
         refine so hg32 rfl rfl rfl rfl ?_
         refine so hg32 rfl rfl rfl rfl ?_
         refine so hg32 rfl rfl rfl rfl ?_
         refine so hg32 rfl rfl rfl rfl ?_
         refine sp trivial rfl rfl rfl ?_
         refine sm trivial rfl rfl ?_
         refine so hg40 rfl rfl rfl rfl ?_
         refine so hg40 rfl rfl rfl rfl ?_
         refine so hg40 rfl rfl rfl rfl ?_
         refine so hg40 rfl rfl rfl rfl ?_
         refine so hg40 rfl rfl rfl rfl ?_
         refine so hg40 rfl rfl rfl rfl ?_
         refine sp trivial rfl rfl rfl ?_
         refine St.nil fun a59 h59 => ?_
         refine hK56 _ _ ?_
         refine fr_true (t := 97) h59 rfl ?_
         refine wp_seq_k ?_
         intro K60 hK60
         refine fr_region ?_
         intro ops hops
         clear hops
         refine St.go h59 ?_; clear h59 a59
         refine sa trivial rfl rfl ?_
         refine St.nil fun a61 h61 => ?_
         refine hK60 _ _ ?_
         refine wp_ret ?_
         repeat (first | with_reducible refine of_then_ret ?_ | with_reducible refine of_block_ret ?_)
         have GR : greatMod m := .inr ⟨x, List.mem_of_getElem? hx1.out, .inr (.inr (.inr ⟨y, List.mem_of_getElem? hx2.out, .inl hc58⟩))⟩
         exact ret_tmp (t := 2) h61 rfl rfl ⟨by rw [bdec_true GR], hW53.bel⟩
        ·rw [hb] at h57
         have hc62 : ¬ (200 < y.code.length) := by have := of_decide_eq_false hb; omega
         clear hb
         refine St.go h57 ?_; clear h57 a57
         refine sfBlock1 ⟨_, hg4, rfl, rfl⟩ rfl rfl ?_
         refine sbTypes 0 hW53 ⟨_, hg4, rfl, rfl⟩ rfl rfl rfl rfl ?_
         refine sc_1 cf41 hW53 (greatTypes_any n y.params b2.pP b2.cP w53 ((types_lin In2.out.params).1.below hW53.bel)) ⟨_, hg4, rfl, rfl⟩ rfl rfl ?_
         clear hW53; intro w63 hW63
         refine spf trivial rfl rfl rfl ?_
         refine sm trivial rfl rfl ?_
         intro a64 h64
         rcases Bool.eq_false_or_eq_true (bdec (greatTs y.params)) with hb | hb
         ·rw [hb] at h64
          have hc65 : (greatTs y.params) := bdec_iff.1 hb
          clear hb
          refine St.go h64 ?_; clear h64 a64
          refine so hg9 rfl rfl rfl rfl ?_
          refine so hg9 rfl rfl rfl rfl ?_
          refine so hg9 rfl rfl rfl rfl ?_
          refine so hg9 rfl rfl rfl rfl ?_
          refine so hg9 rfl rfl rfl rfl ?_
          refine sp trivial rfl rfl rfl ?_
          refine sm trivial rfl rfl ?_
          refine so hg16 rfl rfl rfl rfl ?_
          refine so hg16 rfl rfl rfl rfl ?_
          refine so hg16 rfl rfl rfl rfl ?_
          refine so hg16 rfl rfl rfl rfl ?_
          refine so hg16 rfl rfl rfl rfl ?_
          refine so hg16 rfl rfl rfl rfl ?_
          refine sp trivial rfl rfl rfl ?_
          refine sm trivial rfl rfl ?_
          refine so hg24 rfl rfl rfl rfl ?_
          refine so hg24 rfl rfl rfl rfl ?_
          refine so hg24 rfl rfl rfl rfl ?_
          refine so hg24 rfl rfl rfl rfl ?_
          refine so hg24 rfl rfl rfl rfl ?_
          refine so hg24 rfl rfl rfl rfl ?_
          refine sp trivial rfl rfl rfl ?_
          refine sm trivial rfl rfl ?_
          refine so hg32 rfl rfl rfl rfl ?_
          refine so hg32 rfl rfl rfl rfl ?_
          refine so hg32 rfl rfl rfl rfl ?_
          refine so hg32 rfl rfl rfl rfl ?_
          refine so hg32 rfl rfl rfl rfl ?_
          refine so hg32 rfl rfl rfl rfl ?_
          refine sp trivial rfl rfl rfl ?_
          refine sm trivial rfl rfl ?_
          refine so hg40 rfl rfl rfl rfl ?_
          refine so hg40 rfl rfl rfl rfl ?_
          refine so hg40 rfl rfl rfl rfl ?_
          refine so hg40 rfl rfl rfl rfl ?_
          refine so hg40 rfl rfl rfl rfl ?_
          refine so hg40 rfl rfl rfl rfl ?_
          refine sp trivial rfl rfl rfl ?_
          refine St.nil fun a66 h66 => ?_
          refine hK56 _ _ ?_
          refine fr_true (t := 97) h66 rfl ?_
          refine wp_seq_k ?_
          intro K67 hK67
          refine fr_region ?_
          intro ops hops
          clear hops
          refine St.go h66 ?_; clear h66 a66
          refine sa trivial rfl rfl ?_
          refine St.nil fun a68 h68 => ?_
          refine hK67 _ _ ?_
          refine wp_ret ?_
          repeat (first | with_reducible refine of_then_ret ?_ | with_reducible refine of_block_ret ?_)
          have GR : greatMod m := .inr ⟨x, List.mem_of_getElem? hx1.out, .inr (.inr (.inr ⟨y, List.mem_of_getElem? hx2.out, .inr (.inl hc65)⟩))⟩
          exact ret_tmp (t := 2) h68 rfl rfl ⟨by rw [bdec_true GR], hW63.bel⟩
         ·rw [hb] at h64
          have hc69 : ¬ (greatTs y.params) := fun h => by rw [bdec_true h] at hb; cases hb
          clear hb
          refine St.go h64 ?_; clear h64 a64
          refine sfBlock3 ⟨_, hg9, rfl, rfl⟩ rfl rfl ?_
          refine sfEnd4 ⟨_, hg9, rfl, rfl⟩ rfl rfl ?_
          refine sbInts 0 hW63 ⟨_, hg9, rfl, rfl⟩ rfl rfl rfl rfl ?_
          refine slInts ⟨_, hg9, rfl, rfl⟩ rfl rfl ?_
          refine sgt ⟨_, hg9, rfl, rfl⟩ rfl rfl rfl ?_
          refine spf trivial rfl rfl rfl ?_
          refine sm trivial rfl rfl ?_
          intro a70 h70
          rcases Bool.eq_false_or_eq_true (decide (300 < (y.fin.args.length : Int))) with hb | hb
          ·rw [hb] at h70
           have hc71 : 300 < y.fin.args.length := by have := of_decide_eq_true hb; omega
           clear hb
           refine St.go h70 ?_; clear h70 a70
           refine so hg16 rfl rfl rfl rfl ?_
           refine so hg16 rfl rfl rfl rfl ?_
           refine so hg16 rfl rfl rfl rfl ?_
           refine so hg16 rfl rfl rfl rfl ?_
           refine so hg16 rfl rfl rfl rfl ?_
           refine so hg16 rfl rfl rfl rfl ?_
           refine sp trivial rfl rfl rfl ?_
           refine sm trivial rfl rfl ?_
           refine so hg24 rfl rfl rfl rfl ?_
           refine so hg24 rfl rfl rfl rfl ?_
           refine so hg24 rfl rfl rfl rfl ?_
           refine so hg24 rfl rfl rfl rfl ?_
           refine so hg24 rfl rfl rfl rfl ?_
           refine so hg24 rfl rfl rfl rfl ?_
           refine sp trivial rfl rfl rfl ?_
           refine sm trivial rfl rfl ?_
           refine so hg32 rfl rfl rfl rfl ?_
           refine so hg32 rfl rfl rfl rfl ?_
           refine so hg32 rfl rfl rfl rfl ?_
           refine so hg32 rfl rfl rfl rfl ?_
           refine so hg32 rfl rfl rfl rfl ?_
           refine so hg32 rfl rfl rfl rfl ?_
           refine sp trivial rfl rfl rfl ?_
           refine sm trivial rfl rfl ?_
           refine so hg40 rfl rfl rfl rfl ?_
           refine so hg40 rfl rfl rfl rfl ?_
           refine so hg40 rfl rfl rfl rfl ?_
           refine so hg40 rfl rfl rfl rfl ?_
           refine so hg40 rfl rfl rfl rfl ?_
           refine so hg40 rfl rfl rfl rfl ?_
           refine sp trivial rfl rfl rfl ?_
           refine St.nil fun a72 h72 => ?_
           refine hK56 _ _ ?_
           refine fr_true (t := 97) h72 rfl ?_
           refine wp_seq_k ?_
           intro K73 hK73
           refine fr_region ?_
           intro ops hops
           clear hops
           refine St.go h72 ?_; clear h72 a72
           refine sa trivial rfl rfl ?_
           refine St.nil fun a74 h74 => ?_
           refine hK73 _ _ ?_
           refine wp_ret ?_
           repeat (first | with_reducible refine of_then_ret ?_ | with_reducible refine of_block_ret ?_)
           have GR : greatMod m := .inr ⟨x, List.mem_of_getElem? hx1.out, .inr (.inr (.inr ⟨y, List.mem_of_getElem? hx2.out, .inr (.inr (.inl hc71))⟩))⟩
           exact ret_tmp (t := 2) h74 rfl rfl ⟨by rw [bdec_true GR], hW63.bel⟩
          ·rw [hb] at h70
           have hc75 : ¬ (300 < y.fin.args.length) := by have := of_decide_eq_false hb; omega
           clear hb
           refine St.go h70 ?_; clear h70 a70
           refine sfBlock3 ⟨_, hg16, rfl, rfl⟩ rfl rfl ?_
           refine sfEnd2 ⟨_, hg16, rfl, rfl⟩ rfl rfl ?_
           refine sfTo1 ⟨_, hg16, rfl, rfl⟩ rfl rfl ?_
           refine sbInts 0 hW63 ⟨_, hg16, rfl, rfl⟩ rfl rfl rfl rfl ?_
           refine slInts ⟨_, hg16, rfl, rfl⟩ rfl rfl ?_
           refine sgt ⟨_, hg16, rfl, rfl⟩ rfl rfl rfl ?_
           refine spf trivial rfl rfl rfl ?_
           refine sm trivial rfl rfl ?_
           intro a76 h76
           rcases Bool.eq_false_or_eq_true (decide (300 < (y.fin.yes.regs.length : Int))) with hb | hb
           ·rw [hb] at h76
            have hc77 : 300 < y.fin.yes.regs.length := by have := of_decide_eq_true hb; omega
            clear hb
            refine St.go h76 ?_; clear h76 a76
            refine so hg24 rfl rfl rfl rfl ?_
            refine so hg24 rfl rfl rfl rfl ?_
            refine so hg24 rfl rfl rfl rfl ?_
            refine so hg24 rfl rfl rfl rfl ?_
            refine so hg24 rfl rfl rfl rfl ?_
            refine so hg24 rfl rfl rfl rfl ?_
            refine sp trivial rfl rfl rfl ?_
            refine sm trivial rfl rfl ?_
            refine so hg32 rfl rfl rfl rfl ?_
            refine so hg32 rfl rfl rfl rfl ?_
            refine so hg32 rfl rfl rfl rfl ?_
            refine so hg32 rfl rfl rfl rfl ?_
            refine so hg32 rfl rfl rfl rfl ?_
            refine so hg32 rfl rfl rfl rfl ?_
            refine sp trivial rfl rfl rfl ?_
            refine sm trivial rfl rfl ?_
            refine so hg40 rfl rfl rfl rfl ?_
            refine so hg40 rfl rfl rfl rfl ?_
            refine so hg40 rfl rfl rfl rfl ?_
            refine so hg40 rfl rfl rfl rfl ?_
            refine so hg40 rfl rfl rfl rfl ?_
            refine so hg40 rfl rfl rfl rfl ?_
            refine sp trivial rfl rfl rfl ?_
            refine St.nil fun a78 h78 => ?_
            refine hK56 _ _ ?_
            refine fr_true (t := 97) h78 rfl ?_
            refine wp_seq_k ?_
            intro K79 hK79
            refine fr_region ?_
            intro ops hops
            clear hops
            refine St.go h78 ?_; clear h78 a78
            refine sa trivial rfl rfl ?_
            refine St.nil fun a80 h80 => ?_
            refine hK79 _ _ ?_
            refine wp_ret ?_
            repeat (first | with_reducible refine of_then_ret ?_ | with_reducible refine of_block_ret ?_)
            have GR : greatMod m := .inr ⟨x, List.mem_of_getElem? hx1.out, .inr (.inr (.inr ⟨y, List.mem_of_getElem? hx2.out, .inr (.inr (.inr (.inl hc77)))⟩))⟩
            exact ret_tmp (t := 2) h80 rfl rfl ⟨by rw [bdec_true GR], hW63.bel⟩
           ·rw [hb] at h76
            have hc81 : ¬ (300 < y.fin.yes.regs.length) := by have := of_decide_eq_false hb; omega
            clear hb
            refine St.go h76 ?_; clear h76 a76
            refine sfBlock3 ⟨_, hg24, rfl, rfl⟩ rfl rfl ?_
            refine sfEnd2 ⟨_, hg24, rfl, rfl⟩ rfl rfl ?_
            refine sfTo2 ⟨_, hg24, rfl, rfl⟩ rfl rfl ?_
            refine sbInts 0 hW63 ⟨_, hg24, rfl, rfl⟩ rfl rfl rfl rfl ?_
            refine slInts ⟨_, hg24, rfl, rfl⟩ rfl rfl ?_
            refine sgt ⟨_, hg24, rfl, rfl⟩ rfl rfl rfl ?_
            refine spf trivial rfl rfl rfl ?_
            refine sm trivial rfl rfl ?_
            intro a82 h82
            rcases Bool.eq_false_or_eq_true (decide (300 < (y.fin.yes.args.length : Int))) with hb | hb
            ·rw [hb] at h82
             have hc83 : 300 < y.fin.yes.args.length := by have := of_decide_eq_true hb; omega
             clear hb
             refine St.go h82 ?_; clear h82 a82
             refine so hg32 rfl rfl rfl rfl ?_
             refine so hg32 rfl rfl rfl rfl ?_
             refine so hg32 rfl rfl rfl rfl ?_
             refine so hg32 rfl rfl rfl rfl ?_
             refine so hg32 rfl rfl rfl rfl ?_
             refine so hg32 rfl rfl rfl rfl ?_
             refine sp trivial rfl rfl rfl ?_
             refine sm trivial rfl rfl ?_
             refine so hg40 rfl rfl rfl rfl ?_
             refine so hg40 rfl rfl rfl rfl ?_
             refine so hg40 rfl rfl rfl rfl ?_
             refine so hg40 rfl rfl rfl rfl ?_
             refine so hg40 rfl rfl rfl rfl ?_
             refine so hg40 rfl rfl rfl rfl ?_
             refine sp trivial rfl rfl rfl ?_
             refine St.nil fun a84 h84 => ?_
             refine hK56 _ _ ?_
             refine fr_true (t := 97) h84 rfl ?_
             refine wp_seq_k ?_
             intro K85 hK85
             refine fr_region ?_
             intro ops hops
             clear hops
             refine St.go h84 ?_; clear h84 a84
             refine sa trivial rfl rfl ?_
             refine St.nil fun a86 h86 => ?_
             refine hK85 _ _ ?_
             refine wp_ret ?_
             repeat (first | with_reducible refine of_then_ret ?_ | with_reducible refine of_block_ret ?_)
             have GR : greatMod m := .inr ⟨x, List.mem_of_getElem? hx1.out, .inr (.inr (.inr ⟨y, List.mem_of_getElem? hx2.out, .inr (.inr (.inr (.inr (.inl hc83))))⟩))⟩
             exact ret_tmp (t := 2) h86 rfl rfl ⟨by rw [bdec_true GR], hW63.bel⟩
            ·rw [hb] at h82
             have hc87 : ¬ (300 < y.fin.yes.args.length) := by have := of_decide_eq_false hb; omega
             clear hb
             refine St.go h82 ?_; clear h82 a82
             refine sfBlock3 ⟨_, hg32, rfl, rfl⟩ rfl rfl ?_
             refine sfEnd3 ⟨_, hg32, rfl, rfl⟩ rfl rfl ?_
             refine sfTo1 ⟨_, hg32, rfl, rfl⟩ rfl rfl ?_
             refine sbInts 0 hW63 ⟨_, hg32, rfl, rfl⟩ rfl rfl rfl rfl ?_
             refine slInts ⟨_, hg32, rfl, rfl⟩ rfl rfl ?_
             refine sgt ⟨_, hg32, rfl, rfl⟩ rfl rfl rfl ?_
             refine spf trivial rfl rfl rfl ?_
             refine sm trivial rfl rfl ?_
             intro a88 h88
             rcases Bool.eq_false_or_eq_true (decide (300 < (y.fin.no.regs.length : Int))) with hb | hb
             ·rw [hb] at h88
              have hc89 : 300 < y.fin.no.regs.length := by have := of_decide_eq_true hb; omega
              clear hb
              refine St.go h88 ?_; clear h88 a88
              refine so hg40 rfl rfl rfl rfl ?_
              refine so hg40 rfl rfl rfl rfl ?_
              refine so hg40 rfl rfl rfl rfl ?_
              refine so hg40 rfl rfl rfl rfl ?_
              refine so hg40 rfl rfl rfl rfl ?_
              refine so hg40 rfl rfl rfl rfl ?_
              refine sp trivial rfl rfl rfl ?_
              refine St.nil fun a90 h90 => ?_
              refine hK56 _ _ ?_
              refine fr_true (t := 97) h90 rfl ?_
              refine wp_seq_k ?_
              intro K91 hK91
              refine fr_region ?_
              intro ops hops
              clear hops
              refine St.go h90 ?_; clear h90 a90
              refine sa trivial rfl rfl ?_
              refine St.nil fun a92 h92 => ?_
              refine hK91 _ _ ?_
              refine wp_ret ?_
              repeat (first | with_reducible refine of_then_ret ?_ | with_reducible refine of_block_ret ?_)
              have GR : greatMod m := .inr ⟨x, List.mem_of_getElem? hx1.out, .inr (.inr (.inr ⟨y, List.mem_of_getElem? hx2.out, .inr (.inr (.inr (.inr (.inr (.inl hc89)))))⟩))⟩
              exact ret_tmp (t := 2) h92 rfl rfl ⟨by rw [bdec_true GR], hW63.bel⟩
             ·rw [hb] at h88
              have hc93 : ¬ (300 < y.fin.no.regs.length) := by have := of_decide_eq_false hb; omega
              clear hb
              refine St.go h88 ?_; clear h88 a88
              refine sfBlock3 ⟨_, hg40, rfl, rfl⟩ rfl rfl ?_
              refine sfEnd3 ⟨_, hg40, rfl, rfl⟩ rfl rfl ?_
              refine sfTo2 ⟨_, hg40, rfl, rfl⟩ rfl rfl ?_
              refine sbInts 0 hW63 ⟨_, hg40, rfl, rfl⟩ rfl rfl rfl rfl ?_
              refine slInts ⟨_, hg40, rfl, rfl⟩ rfl rfl ?_
              refine sgt ⟨_, hg40, rfl, rfl⟩ rfl rfl rfl ?_
              refine spf trivial rfl rfl rfl ?_
              refine St.nil fun a94 h94 => ?_
              refine hK56 _ _ ?_
              refine fr_cond (t := 97) h94 rfl (fun hb => ?_) (fun hb => ?_)
              ·have hc95 : 300 < y.fin.no.args.length := by have := of_decide_eq_true hb; omega
               clear hb
               refine wp_seq_k ?_
               intro K96 hK96
               refine fr_region ?_
               intro ops hops
               clear hops
               refine St.go h94 ?_; clear h94 a94
               refine sa trivial rfl rfl ?_
               refine St.nil fun a97 h97 => ?_
               refine hK96 _ _ ?_
               refine wp_ret ?_
               repeat (first | with_reducible refine of_then_ret ?_ | with_reducible refine of_block_ret ?_)
               have GR : greatMod m := .inr ⟨x, List.mem_of_getElem? hx1.out, .inr (.inr (.inr ⟨y, List.mem_of_getElem? hx2.out, .inr (.inr (.inr (.inr (.inr (.inr (.inl hc95))))))⟩))⟩
               exact ret_tmp (t := 2) h97 rfl rfl ⟨by rw [bdec_true GR], hW63.bel⟩
              ·have hc98 : ¬ (300 < y.fin.no.args.length) := by have := of_decide_eq_false hb; omega
               clear hb
               refine wp_skip ?_
               refine hK55 _ _ ?_
               refine wp_seq_k ?_
               intro K99 hK99
               refine fr_region ?_
               intro ops hops
               clear hops
               refine St.go h94 ?_; clear h94 a94
               refine sa trivial rfl rfl ?_
               refine St.nil fun a100 h100 => ?_
               refine hK99 _ _ ?_
               refine wp_block ?_
               refine fr_loop (fun r a w' => ∃ q3 : Nat, q3 ≤ y.code.length ∧ r = y.code.length - q3 ∧ (∀ (j : Nat) z, j < q3 → y.code[j]? = some z → ¬ (300 < z.regs.length) ∧ ¬ (300 < z.args.length)) ∧ Fr 123 a [(0, .agg #[.slice p m.length c]), (1, .pointer (some ⟨B2, 0, none⟩)), (2, .bool false), (3, .int .i64 (q1 : Int)), (4, .pointer (some ⟨B20, 0, none⟩)), (5, .int .i64 (q2 : Int)), (6, .pointer (some ⟨B52, 0, none⟩)), (7, .int .i64 (q3 : Int))] ∧ Wd w w' [(B52, #[.int .i64 y.regs, .slice b2.pP y.params.length b2.cP, .slice b2.pC y.code.length b2.cC, .int .i64 y.fin.op, .int .i64 y.fin.a, .int .i64 y.fin.yes.block, .slice b2.e.pYR y.fin.yes.regs.length b2.e.cYR, .slice b2.e.pYA y.fin.yes.args.length b2.e.cYA, .int .i64 y.fin.no.block, .slice b2.e.pNR y.fin.no.regs.length b2.e.cNR, .slice b2.e.pNA y.fin.no.args.length b2.e.cNA, .slice b2.e.pA y.fin.args.length b2.e.cA], 77), (B20, #[.int .i64 x.regs, .slice f1.pP x.params.length f1.cP, .slice f1.pR x.results.length f1.cR, .slice f1.pB x.blocks.length f1.cB], 50), (B2, #[.slice p m.length c], 39)]) (y.code.length) ⟨0, Nat.zero_le _, rfl, (fun j x hj => by omega), (h100.keep (h100.keep (h100.keep (h100.keep (h100.keep (h100.keep (h100.keep (h100.keep h100.nil (t := 7) rfl) (t := 6) rfl) (t := 5) rfl) (t := 4) rfl) (t := 3) rfl) (t := 2) rfl) (t := 1) rfl) (t := 0) rfl), hW63⟩ ?_
               clear h100 hW63
               rintro r3 a101 w101 ⟨q3, hq3, hr3, hall3, hF101, hW101⟩ KL3 hKL3
               refine wp_seq_k ?_
               intro K102 hK102
               refine wp_seq_k ?_
               intro K103 hK103
               refine fr_region ?_
               intro ops hops
               clear hops
               refine St.go hF101 ?_; clear hF101 a101
               refine sm trivial rfl rfl ?_
               refine sfBlock2 trivial rfl rfl ?_
               refine sbInss 0 hW101 trivial rfl rfl rfl rfl ?_
               refine slInss trivial rfl rfl ?_
               refine slt trivial rfl rfl rfl ?_
               refine St.nil fun a104 h104 => ?_
               refine hK103 _ _ ?_
               refine fr_cond (t := 102) h104 rfl (fun hb => ?_) (fun hb => ?_)
               ·have hlt3 : q3 < y.code.length := by have := of_decide_eq_true hb; omega
                clear hb
                obtain ⟨z, hx3⟩ : ∃ v9, (y.code)[q3]? = some v9 := ⟨_, List.getElem?_eq_getElem hlt3⟩
                obtain ⟨g3, o3, i3, hp3, E3, In3⟩ := ins_at In2.out.code hx3
                replace In3 : Hid _ := In3
                replace hp3 : Hid _ := hp3
                replace hx3 : Hid _ := hx3
                replace E3 : Hid _ := E3
                refine wp_skip ?_
                refine hK102 _ _ ?_
                refine wp_seq_k ?_
                intro K105 hK105
                refine wp_block ?_
                refine wp_seq_k ?_
                intro K106 hK106
                refine fr_region ?_
                intro ops hops
                have hg8 : (ops[8]?).bind (fun o : Oper => o.dst) = some 113 := hops 8
                clear hops
                refine St.go h104 ?_; clear h104 a104
                refine sfBlock2 trivial rfl rfl ?_
                refine sbInss 0 hW101 trivial rfl rfl rfl rfl ?_
                refine sm trivial rfl rfl ?_
                refine siInss hp3.out hlt3 trivial rfl rfl rfl ?_
                refine sfIns6 trivial rfl rfl ?_
                refine scInts (bel_cell hW101.bel (E3.out 6 _ rfl)) trivial rfl rfl ?_
                refine slInts trivial rfl rfl ?_
                refine sgt trivial rfl rfl rfl ?_
                refine sm trivial rfl rfl ?_
                intro a107 h107
                rcases Bool.eq_false_or_eq_true (decide (300 < (z.regs.length : Int))) with hb | hb
                ·rw [hb] at h107
                 have hc108 : 300 < z.regs.length := by have := of_decide_eq_true hb; omega
                 clear hb
                 refine St.go h107 ?_; clear h107 a107
                 refine so hg8 rfl rfl rfl rfl ?_
                 refine so hg8 rfl rfl rfl rfl ?_
                 refine so hg8 rfl rfl rfl rfl ?_
                 refine so hg8 rfl rfl rfl rfl ?_
                 refine so hg8 rfl rfl rfl rfl ?_
                 refine so hg8 rfl rfl rfl rfl ?_
                 refine so hg8 rfl rfl rfl rfl ?_
                 refine so hg8 rfl rfl rfl rfl ?_
                 refine sp trivial rfl rfl rfl ?_
                 refine St.nil fun a109 h109 => ?_
                 refine hK106 _ _ ?_
                 refine fr_true (t := 122) h109 rfl ?_
                 refine wp_seq_k ?_
                 intro K110 hK110
                 refine fr_region ?_
                 intro ops hops
                 clear hops
                 refine St.go h109 ?_; clear h109 a109
                 refine sa trivial rfl rfl ?_
                 refine St.nil fun a111 h111 => ?_
                 refine hK110 _ _ ?_
                 refine wp_ret ?_
                 repeat (first | with_reducible refine of_then_ret ?_ | with_reducible refine of_block_ret ?_)
                 have GR : greatMod m := .inr ⟨x, List.mem_of_getElem? hx1.out, .inr (.inr (.inr ⟨y, List.mem_of_getElem? hx2.out, .inr (.inr (.inr (.inr (.inr (.inr (.inr ⟨z, List.mem_of_getElem? hx3.out, .inl hc108⟩))))))⟩))⟩
                 exact ret_tmp (t := 2) h111 rfl rfl ⟨by rw [bdec_true GR], hW101.bel⟩
                ·rw [hb] at h107
                 have hc112 : ¬ (300 < z.regs.length) := by have := of_decide_eq_false hb; omega
                 clear hb
                 refine St.go h107 ?_; clear h107 a107
                 refine sfBlock2 ⟨_, hg8, rfl, rfl⟩ rfl rfl ?_
                 refine sbInss 0 hW101 ⟨_, hg8, rfl, rfl⟩ rfl rfl rfl rfl ?_
                 refine sm ⟨_, hg8, rfl, rfl⟩ rfl rfl ?_
                 refine siInss hp3.out hlt3 ⟨_, hg8, rfl, rfl⟩ rfl rfl rfl ?_
                 refine sfIns7 ⟨_, hg8, rfl, rfl⟩ rfl rfl ?_
                 refine scInts (bel_cell hW101.bel (E3.out 7 _ rfl)) ⟨_, hg8, rfl, rfl⟩ rfl rfl ?_
                 refine slInts ⟨_, hg8, rfl, rfl⟩ rfl rfl ?_
                 refine sgt ⟨_, hg8, rfl, rfl⟩ rfl rfl rfl ?_
                 refine spf trivial rfl rfl rfl ?_
                 refine St.nil fun a113 h113 => ?_
                 refine hK106 _ _ ?_
                 refine fr_cond (t := 122) h113 rfl (fun hb => ?_) (fun hb => ?_)
                 ·have hc114 : 300 < z.args.length := by have := of_decide_eq_true hb; omega
                  clear hb
                  refine wp_seq_k ?_
                  intro K115 hK115
                  refine fr_region ?_
                  intro ops hops
                  clear hops
                  refine St.go h113 ?_; clear h113 a113
                  refine sa trivial rfl rfl ?_
                  refine St.nil fun a116 h116 => ?_
                  refine hK115 _ _ ?_
                  refine wp_ret ?_
                  repeat (first | with_reducible refine of_then_ret ?_ | with_reducible refine of_block_ret ?_)
                  have GR : greatMod m := .inr ⟨x, List.mem_of_getElem? hx1.out, .inr (.inr (.inr ⟨y, List.mem_of_getElem? hx2.out, .inr (.inr (.inr (.inr (.inr (.inr (.inr ⟨z, List.mem_of_getElem? hx3.out, .inr hc114⟩))))))⟩))⟩
                  exact ret_tmp (t := 2) h116 rfl rfl ⟨by rw [bdec_true GR], hW101.bel⟩
                 ·have hc117 : ¬ (300 < z.args.length) := by have := of_decide_eq_false hb; omega
                  clear hb
                  refine wp_skip ?_
                  refine hK105 _ _ ?_
                  refine fr_region ?_
                  intro ops hops
                  clear hops
                  refine St.go h113 ?_; clear h113 a113
                  refine sm trivial rfl rfl ?_
                  refine sad (by omega) trivial rfl rfl rfl ?_
                  refine sa trivial rfl rfl ?_
                  refine St.nil fun a118 h118 => ?_
                  refine hKL3 _ _ (y.code.length - (q3 + 1)) (by omega) ⟨q3 + 1, by omega, rfl, ?_, (h118.keep (h118.keep (h118.keep (h118.keep (h118.keep (h118.keep (h118.keep (h118.keep h118.nil (t := 7) rfl) (t := 6) rfl) (t := 5) rfl) (t := 4) rfl) (t := 3) rfl) (t := 2) rfl) (t := 1) rfl) (t := 0) rfl), hW101⟩
                  ·intro j y hj hy
                   by_cases e : j = q3
                   · subst e; rw [hx3.out] at hy; cases hy; exact ⟨hc112, hc117⟩
                   · exact hall3 j y (by omega) hy
               ·have hge3 : q3 = y.code.length := by have := of_decide_eq_false hb; omega
                clear hb
                have NG2 : ¬ y.great := by
                  rintro (h | h | h | h | h | h | h | ⟨z, hz, h⟩)
                  · exact absurd h hc62
                  · exact absurd h hc69
                  · exact absurd h hc75
                  · exact absurd h hc81
                  · exact absurd h hc87
                  · exact absurd h hc93
                  · exact absurd h hc98
                  · obtain ⟨i, hi, rfl⟩ := List.mem_iff_getElem.1 hz
                    have := hall3 i _ (by omega) (List.getElem?_eq_getElem hi)
                    omega
                refine wp_exit ?_
                refine hK50 _ _ ?_
                refine fr_region ?_
                intro ops hops
                clear hops
                refine St.go h104 ?_; clear h104 a104
                refine sm trivial rfl rfl ?_
                refine sad (by omega) trivial rfl rfl rfl ?_
                refine sa trivial rfl rfl ?_
                refine St.nil fun a119 h119 => ?_
                refine hKL2 _ _ (x.blocks.length - (q2 + 1)) (by omega) ⟨q2 + 1, by omega, rfl, ?_, (h119.keep (h119.keep (h119.keep (h119.keep (h119.keep (h119.keep h119.nil (t := 5) rfl) (t := 4) rfl) (t := 3) rfl) (t := 2) rfl) (t := 1) rfl) (t := 0) rfl), hW101.tail⟩
                ·intro j y hj hy
                 by_cases e : j = q2
                 · subst e; rw [hx2.out] at hy; cases hy; exact NG2
                 · exact hall2 j y (by omega) hy
       ·have hge2 : q2 = x.blocks.length := by have := of_decide_eq_false hb; omega
        clear hb
        have NG1 : ¬ x.great := by
          rintro (h | h | h | ⟨y, hy, h⟩)
          · exact absurd h hc30
          · exact absurd h hc37
          · exact absurd h hc43
          · obtain ⟨i, hi, rfl⟩ := List.mem_iff_getElem.1 hy
            exact hall2 i _ (by omega) (List.getElem?_eq_getElem hi) h
        refine wp_exit ?_
        refine hK18 _ _ ?_
        refine fr_region ?_
        intro ops hops
        clear hops
        refine St.go h49 ?_; clear h49 a49
        refine sm trivial rfl rfl ?_
        refine sad (by omega) trivial rfl rfl rfl ?_
        refine sa trivial rfl rfl ?_
        refine St.nil fun a120 h120 => ?_
        refine hKL1 _ _ (m.length - (q1 + 1)) (by omega) ⟨q1 + 1, by omega, rfl, ?_, (h120.keep (h120.keep (h120.keep (h120.keep h120.nil (t := 3) rfl) (t := 2) rfl) (t := 1) rfl) (t := 0) rfl), hW46.tail⟩
        ·intro j y hj hy
         by_cases e : j = q1
         · subst e; rw [hx1.out] at hy; cases hy; exact NG1
         · exact hall1 j y (by omega) hy
   ·have hge1 : q1 = m.length := by have := of_decide_eq_false hb; omega
    clear hb
    refine wp_exit ?_
    refine hK11 _ _ ?_
    refine wp_seq_k ?_
    intro K121 hK121
    refine fr_region ?_
    intro ops hops
    clear hops
    refine St.go h17 ?_; clear h17 a17
    refine sa trivial rfl rfl ?_
    refine St.nil fun a122 h122 => ?_
    refine hK121 _ _ ?_
    refine wp_ret ?_
    repeat (first | with_reducible refine of_then_ret ?_ | with_reducible refine of_block_ret ?_)
    have GR : ¬ greatMod m := by
      rintro (h | ⟨x, hx, h⟩)
      · omega
      · obtain ⟨i, hi, rfl⟩ := List.mem_iff_getElem.1 hx
        exact hall1 i _ (by omega) (List.getElem?_eq_getElem hi) h
    exact ret_tmp (t := 2) h122 rfl rfl ⟨by rw [bdec_false GR], hW14.bel⟩
end Go.Proofs.Ytmnmnokkojcodab
