/-
  Check: the first fault of lists, blocks, functions, modules (package code).
-/
import Derived.Test.YtmnmnokkojcodabCodChk2
namespace Go.Proofs.Ytmnmnokkojcodab
open Go.ChangeShapes Go.WideShapes Go.ChangeAt Go.RowKit
set_option linter.unusedVariables false
set_option linter.unusedSimpArgs false

set_option maxHeartbeats 4000000 in
set_option maxRecDepth 100000 in
theorem ffIns_any {l : List MIns} {p : Option Addr} {c Bc : Nat} {w : World} (G : Nat → MIns → Int × Int) (hl0 : insL.list.In w All l [.slice p l.length c]) (hsb : l.length ≤ 200)
    (hcl0 : ∀ (i : Nat) x (z : IP) wx, l[i]? = some x → IIn wx All x z → Below w.heap.size w wx → Rd Try.prog 97 #[.int .i64 (i : Int), .agg #[.int .i64 x.op, .int .i64 x.a, .int .i64 x.b, .int .i64 x.c, .int .i64 x.k, .int .i64 x.n, .slice z.pR x.regs.length z.cR, .slice z.pA x.args.length z.cA], .pointer (some ⟨Bc, 0, none⟩)] wx (faultV (G i x))) :
    Rd Try.prog 96 #[.slice p l.length c, .func (.func 97) #[] #[.pointer (some ⟨Bc, 0, none⟩)]] w (faultV (firstF G 0 l)) := by
  have hl : Hid _ := hl0
  have hcl : Hid _ := hcl0
  clear hl0 hcl0
  refine fr_enter (n := 25) Try.func96 rfl rfl rfl ?_
  intro a hF
  have hW := Wd.start w
  replace hF : Fr 25 a [(0, .slice p l.length c), (1, .func (.func 97) #[] #[.pointer (some ⟨Bc, 0, none⟩)])] := hF
  refine wp_seq_k ?_
  intro K1 hK1
  refine fr_region ?_
  intro ops hops
  clear hops
  refine St.go hF ?_; clear hF a
  refine sAFault hW trivial rfl ?_
  clear hW; intro w2 B2 hW2 hN; clear hN
  refine St.nil fun a3 h3 => ?_
  refine hK1 _ _ ?_
  refine wp_seq_k ?_
  intro K4 hK4
  refine wp_seq_k ?_
  intro K5 hK5
  refine fr_region ?_
  intro ops hops
  clear hops
  refine St.go h3 ?_; clear h3 a3
  refine sm trivial rfl rfl ?_
  refine slInss trivial rfl rfl ?_
  refine sm trivial rfl rfl ?_
  refine St.nil fun a6 h6 => ?_
  refine hK5 _ _ ?_
  refine wp_block ?_
  refine fr_loop (fun r a w' => ∃ q : Nat, q ≤ l.length ∧ r = l.length - q ∧ (∀ (j : Nat) y, j < q → l[j]? = some y → (G j y).1 = 0) ∧ Fr 25 a [(1, .func (.func 97) #[] #[.pointer (some ⟨Bc, 0, none⟩)]), (0, .slice p l.length c), (4, .pointer (some ⟨B2, 0, none⟩)), (8, .slice p l.length c), (9, .int .i64 (l.length : Int)), (10, .int .i64 (q : Int))] ∧ Wd w w' [(B2, #[.int .i64 0, .int .i64 0], 26)]) (l.length) ⟨0, Nat.zero_le _, rfl, (fun j y hj => by omega), (h6.keep (h6.keep (h6.keep (h6.keep (h6.keep (h6.keep h6.nil (t := 10) rfl) (t := 9) rfl) (t := 8) rfl) (t := 4) rfl) (t := 0) rfl) (t := 1) rfl), hW2⟩ ?_
  clear h6 hW2
  rintro r a7 w7 ⟨q, hq, hr, hall, hF7, hW7⟩ KL hKL
  refine wp_seq_k ?_
  intro K8 hK8
  refine fr_region ?_
  intro ops hops
  clear hops
  refine St.go hF7 ?_; clear hF7 a7
  refine slt trivial rfl rfl rfl ?_
  refine St.nil fun a9 h9 => ?_
  refine hK8 _ _ ?_
  refine wp_seq_k ?_
  intro K10 hK10
  refine fr_cond (t := 11) h9 rfl (fun hb => ?_) (fun hb => ?_)
  ·have hlt1 : q < l.length := by have := of_decide_eq_true hb; omega
   clear hb
   obtain ⟨x, hx1⟩ : ∃ v9, (l)[q]? = some v9 := ⟨_, List.getElem?_eq_getElem hlt1⟩
   obtain ⟨g1, o1, i1, hp1, E1, In1⟩ := ins_at hl.out hx1
   replace In1 : Hid _ := In1
   replace hp1 : Hid _ := hp1
   replace hx1 : Hid _ := hx1
   replace E1 : Hid _ := E1
   refine wp_skip ?_
   refine hK10 _ _ ?_
   refine wp_seq_k ?_
   intro K11 hK11
   refine wp_block ?_
   refine wp_seq_k ?_
   intro K12 hK12
   refine fr_region ?_
   intro ops hops
   clear hops
   refine St.go h9 ?_; clear h9 a9
   refine sm trivial rfl rfl ?_
   refine siInss hp1.out hlt1 trivial rfl rfl rfl ?_
   refine sSE Try.underlying46 rfl (rangeAt_bel E1.out hW7.bel) infIns trivial rfl rfl ?_
   refine sAIns hW7 trivial rfl ?_
   clear hW7; intro w13 B13 hW13 hN; clear hN
   refine sa trivial rfl rfl ?_
   refine sT 0 hW13 rfl rfl infIns rfl rfl rfl ?_
   clear hW13; intro w14 hW14
   refine St.nil fun a15 h15 => ?_
   refine hK12 _ _ ?_
   refine wp_seq_k ?_
   intro K16 hK16
   refine fr_region ?_
   intro ops hops
   clear hops
   refine St.go h15 ?_; clear h15 a15
   refine sm trivial rfl rfl ?_
   refine sm trivial rfl rfl ?_
   refine sS 0 8 Try.underlying46 rfl infIns hW14 trivial rfl rfl rfl rfl ?_
   refine sv_21 cf97 hW14 (hcl.out q x i1 w14 hx1.out (In1.out.below hW14.bel) hW14.bel) trivial rfl rfl rfl rfl ?_
   clear hW14; intro w17 hW17
   refine sAFault hW17 trivial rfl ?_
   clear hW17; intro w18 B18 hW18 hN; clear hN
   refine sT 0 hW18 rfl rfl infFault rfl rfl rfl ?_
   clear hW18; intro w19 hW19
   refine St.nil fun a20 h20 => ?_
   refine hK16 _ _ ?_
   refine wp_seq_k ?_
   intro K21 hK21
   refine fr_region ?_
   intro ops hops
   clear hops
   refine St.go h20 ?_; clear h20 a20
   refine sfFault0 trivial rfl rfl ?_
   refine sbInt 0 hW19 trivial rfl rfl rfl rfl ?_
   refine sne trivial rfl rfl rfl ?_
   refine St.nil fun a22 h22 => ?_
   refine hK21 _ _ ?_
   refine fr_cond (t := 21) h22 rfl (fun hb => ?_) (fun hb => ?_)
   ·have h9 : ¬ ((G q x).1) = 0 := bne_iff_ne.1 hb
    have hne : ¬ ((G q x).1) = 0 := h9
    clear h9
    clear hb
    refine wp_seq_k ?_
    intro K23 hK23
    refine fr_region ?_
    intro ops hops
    clear hops
    refine St.go h22 ?_; clear h22 a22
    refine sS 0 2 Try.underlying26 rfl infFault hW19 trivial rfl rfl rfl rfl ?_
    refine sT 2 hW19 rfl rfl infFault rfl rfl rfl ?_
    clear hW19; intro w24 hW24
    refine St.nil fun a25 h25 => ?_
    refine hK23 _ _ ?_
    refine wp_ret ?_
    repeat (first | with_reducible refine of_then_ret ?_ | with_reducible refine of_block_ret ?_)
    have R : firstF G 0 l = G q x := by have h9 := firstF_eq (f := G) (j := 0) hx1.out (fun k y hk hy => by rw [Nat.zero_add]; exact hall k y hk hy) (by rw [Nat.zero_add]; exact hne); rwa [Nat.zero_add] at h9
    exact ret_box 2 h25 hW24 rfl rfl rfl Try.underlying26 rfl infFault ⟨by show Ending.returned (.agg #[.int .i64 ((G q x).1), .int .i64 ((G q x).2)]) = _; rw [R], hW24.bel⟩
   ·have h9 : ((G q x).1) = 0 := bne_eq_false_iff_eq.1 hb
    have hne : Hid (((G q x).1) = 0) := h9
    clear h9
    clear hb
    refine wp_skip ?_
    refine hK11 _ _ ?_
    refine fr_region ?_
    intro ops hops
    clear hops
    refine St.go h22 ?_; clear h22 a22
    refine sad (by omega) trivial rfl rfl rfl ?_
    refine sm trivial rfl rfl ?_
    refine St.nil fun a26 h26 => ?_
    refine hKL _ _ (l.length - (q + 1)) (by omega) ⟨q + 1, by omega, rfl, ?_, (h26.keep (h26.keep (h26.keep (h26.keep (h26.keep (h26.keep h26.nil (t := 10) rfl) (t := 9) rfl) (t := 8) rfl) (t := 4) rfl) (t := 0) rfl) (t := 1) rfl), hW19.tail.tail⟩
    ·intro j y hj hy
     by_cases e : j = q
     · subst e; rw [hx1.out] at hy; cases hy; exact hne.out
     · exact hall j y (by omega) hy
  ·have hge : q = l.length := by have := of_decide_eq_false hb; omega
   clear hb
   refine wp_exit ?_
   refine hK4 _ _ ?_
   refine wp_seq_k ?_
   intro K27 hK27
   refine fr_region ?_
   intro ops hops
   clear hops
   refine fr_pure (t := 24) (v := .agg #[.int .i64 0, .int .i64 0]) (w' := w7) h9 rfl rfl rfl (fun K hK => ?_) ?_
   ·go_simp
    exact hK
   clear h9; intro a28 hF28
   refine St.go hF28 ?_; clear hF28 a28
   refine sT 0 hW7 rfl rfl infFault rfl rfl rfl ?_
   clear hW7; intro w29 hW29
   refine St.nil fun a30 h30 => ?_
   refine hK27 _ _ ?_
   refine wp_ret ?_
   repeat (first | with_reducible refine of_then_ret ?_ | with_reducible refine of_block_ret ?_)
   have R : firstF G 0 l = (0, 0) := firstF_zero (fun k y hy => by rw [Nat.zero_add]; exact hall k y (by have := (List.getElem?_eq_some_iff.1 hy).1; omega) hy)
   exact ret_box 0 h30 hW29 rfl rfl rfl Try.underlying26 rfl infFault ⟨by show Ending.returned (.agg #[.int .i64 0, .int .i64 0]) = _; rw [R], hW29.bel⟩

set_option maxHeartbeats 4000000 in
set_option maxRecDepth 100000 in
theorem ffBlock_any {n : Nat} {l : List (MBlock n)} {p : Option Addr} {c Bc : Nat} {w : World} (G : Nat → (MBlock n) → Int × Int) (hl0 : (blockL n).list.In w All l [.slice p l.length c]) (hsb : l.length ≤ 200)
    (hcl0 : ∀ (i : Nat) x (z : BP) wx, l[i]? = some x → BIn wx All x z → Below w.heap.size w wx → Rd Try.prog 72 #[.int .i64 (i : Int), .agg #[.int .i64 x.regs, .slice z.pP x.params.length z.cP, .slice z.pC x.code.length z.cC, .int .i64 x.fin.op, .int .i64 x.fin.a, .int .i64 x.fin.yes.block, .slice z.e.pYR x.fin.yes.regs.length z.e.cYR, .slice z.e.pYA x.fin.yes.args.length z.e.cYA, .int .i64 x.fin.no.block, .slice z.e.pNR x.fin.no.regs.length z.e.cNR, .slice z.e.pNA x.fin.no.args.length z.e.cNA, .slice z.e.pA x.fin.args.length z.e.cA], .pointer (some ⟨Bc, 0, none⟩)] wx (faultV (G i x))) :
    Rd Try.prog 71 #[.slice p l.length c, .func (.func 72) #[] #[.pointer (some ⟨Bc, 0, none⟩)]] w (faultV (firstF G 0 l)) := by
  have hl : Hid _ := hl0
  have hcl : Hid _ := hcl0
  clear hl0 hcl0
  refine fr_enter (n := 25) Try.func71 rfl rfl rfl ?_
  intro a hF
  have hW := Wd.start w
  replace hF : Fr 25 a [(0, .slice p l.length c), (1, .func (.func 72) #[] #[.pointer (some ⟨Bc, 0, none⟩)])] := hF
  refine wp_seq_k ?_
  intro K1 hK1
  refine fr_region ?_
  intro ops hops
  clear hops
  refine St.go hF ?_; clear hF a
  refine sAFault hW trivial rfl ?_
  clear hW; intro w2 B2 hW2 hN; clear hN
  refine St.nil fun a3 h3 => ?_
  refine hK1 _ _ ?_
  refine wp_seq_k ?_
  intro K4 hK4
  refine wp_seq_k ?_
  intro K5 hK5
  refine fr_region ?_
  intro ops hops
  clear hops
  refine St.go h3 ?_; clear h3 a3
  refine sm trivial rfl rfl ?_
  refine slBlocks trivial rfl rfl ?_
  refine sm trivial rfl rfl ?_
  refine St.nil fun a6 h6 => ?_
  refine hK5 _ _ ?_
  refine wp_block ?_
  refine fr_loop (fun r a w' => ∃ q : Nat, q ≤ l.length ∧ r = l.length - q ∧ (∀ (j : Nat) y, j < q → l[j]? = some y → (G j y).1 = 0) ∧ Fr 25 a [(1, .func (.func 72) #[] #[.pointer (some ⟨Bc, 0, none⟩)]), (0, .slice p l.length c), (4, .pointer (some ⟨B2, 0, none⟩)), (8, .slice p l.length c), (9, .int .i64 (l.length : Int)), (10, .int .i64 (q : Int))] ∧ Wd w w' [(B2, #[.int .i64 0, .int .i64 0], 26)]) (l.length) ⟨0, Nat.zero_le _, rfl, (fun j y hj => by omega), (h6.keep (h6.keep (h6.keep (h6.keep (h6.keep (h6.keep h6.nil (t := 10) rfl) (t := 9) rfl) (t := 8) rfl) (t := 4) rfl) (t := 0) rfl) (t := 1) rfl), hW2⟩ ?_
  clear h6 hW2
  rintro r a7 w7 ⟨q, hq, hr, hall, hF7, hW7⟩ KL hKL
  refine wp_seq_k ?_
  intro K8 hK8
  refine fr_region ?_
  intro ops hops
  clear hops
  refine St.go hF7 ?_; clear hF7 a7
  refine slt trivial rfl rfl rfl ?_
  refine St.nil fun a9 h9 => ?_
  refine hK8 _ _ ?_
  refine wp_seq_k ?_
  intro K10 hK10
  refine fr_cond (t := 11) h9 rfl (fun hb => ?_) (fun hb => ?_)
  ·have hlt1 : q < l.length := by have := of_decide_eq_true hb; omega
   clear hb
   obtain ⟨x, hx1⟩ : ∃ v9, (l)[q]? = some v9 := ⟨_, List.getElem?_eq_getElem hlt1⟩
   obtain ⟨g1, o1, b1, hp1, E1, In1⟩ := block_at hl.out hx1
   replace In1 : Hid _ := In1
   replace hp1 : Hid _ := hp1
   replace hx1 : Hid _ := hx1
   replace E1 : Hid _ := E1
   refine wp_skip ?_
   refine hK10 _ _ ?_
   refine wp_seq_k ?_
   intro K11 hK11
   refine wp_block ?_
   refine wp_seq_k ?_
   intro K12 hK12
   refine fr_region ?_
   intro ops hops
   clear hops
   refine St.go h9 ?_; clear h9 a9
   refine sm trivial rfl rfl ?_
   refine siBlocks hp1.out hlt1 trivial rfl rfl rfl ?_
   refine sSE Try.underlying77 rfl (rangeAt_bel E1.out hW7.bel) infBlock trivial rfl rfl ?_
   refine sABlock hW7 trivial rfl ?_
   clear hW7; intro w13 B13 hW13 hN; clear hN
   refine sa trivial rfl rfl ?_
   refine sT 0 hW13 rfl rfl infBlock rfl rfl rfl ?_
   clear hW13; intro w14 hW14
   refine St.nil fun a15 h15 => ?_
   refine hK12 _ _ ?_
   refine wp_seq_k ?_
   intro K16 hK16
   refine fr_region ?_
   intro ops hops
   clear hops
   refine St.go h15 ?_; clear h15 a15
   refine sm trivial rfl rfl ?_
   refine sm trivial rfl rfl ?_
   refine sS 0 12 Try.underlying77 rfl infBlock hW14 trivial rfl rfl rfl rfl ?_
   refine sv_21 cf72 hW14 (hcl.out q x b1 w14 hx1.out (In1.out.below hW14.bel) hW14.bel) trivial rfl rfl rfl rfl ?_
   clear hW14; intro w17 hW17
   refine sAFault hW17 trivial rfl ?_
   clear hW17; intro w18 B18 hW18 hN; clear hN
   refine sT 0 hW18 rfl rfl infFault rfl rfl rfl ?_
   clear hW18; intro w19 hW19
   refine St.nil fun a20 h20 => ?_
   refine hK16 _ _ ?_
   refine wp_seq_k ?_
   intro K21 hK21
   refine fr_region ?_
   intro ops hops
   clear hops
   refine St.go h20 ?_; clear h20 a20
   refine sfFault0 trivial rfl rfl ?_
   refine sbInt 0 hW19 trivial rfl rfl rfl rfl ?_
   refine sne trivial rfl rfl rfl ?_
   refine St.nil fun a22 h22 => ?_
   refine hK21 _ _ ?_
   refine fr_cond (t := 21) h22 rfl (fun hb => ?_) (fun hb => ?_)
   ·have h9 : ¬ ((G q x).1) = 0 := bne_iff_ne.1 hb
    have hne : ¬ ((G q x).1) = 0 := h9
    clear h9
    clear hb
    refine wp_seq_k ?_
    intro K23 hK23
    refine fr_region ?_
    intro ops hops
    clear hops
    refine St.go h22 ?_; clear h22 a22
    refine sS 0 2 Try.underlying26 rfl infFault hW19 trivial rfl rfl rfl rfl ?_
    refine sT 2 hW19 rfl rfl infFault rfl rfl rfl ?_
    clear hW19; intro w24 hW24
    refine St.nil fun a25 h25 => ?_
    refine hK23 _ _ ?_
    refine wp_ret ?_
    repeat (first | with_reducible refine of_then_ret ?_ | with_reducible refine of_block_ret ?_)
    have R : firstF G 0 l = G q x := by have h9 := firstF_eq (f := G) (j := 0) hx1.out (fun k y hk hy => by rw [Nat.zero_add]; exact hall k y hk hy) (by rw [Nat.zero_add]; exact hne); rwa [Nat.zero_add] at h9
    exact ret_box 2 h25 hW24 rfl rfl rfl Try.underlying26 rfl infFault ⟨by show Ending.returned (.agg #[.int .i64 ((G q x).1), .int .i64 ((G q x).2)]) = _; rw [R], hW24.bel⟩
   ·have h9 : ((G q x).1) = 0 := bne_eq_false_iff_eq.1 hb
    have hne : Hid (((G q x).1) = 0) := h9
    clear h9
    clear hb
    refine wp_skip ?_
    refine hK11 _ _ ?_
    refine fr_region ?_
    intro ops hops
    clear hops
    refine St.go h22 ?_; clear h22 a22
    refine sad (by omega) trivial rfl rfl rfl ?_
    refine sm trivial rfl rfl ?_
    refine St.nil fun a26 h26 => ?_
    refine hKL _ _ (l.length - (q + 1)) (by omega) ⟨q + 1, by omega, rfl, ?_, (h26.keep (h26.keep (h26.keep (h26.keep (h26.keep (h26.keep h26.nil (t := 10) rfl) (t := 9) rfl) (t := 8) rfl) (t := 4) rfl) (t := 0) rfl) (t := 1) rfl), hW19.tail.tail⟩
    ·intro j y hj hy
     by_cases e : j = q
     · subst e; rw [hx1.out] at hy; cases hy; exact hne.out
     · exact hall j y (by omega) hy
  ·have hge : q = l.length := by have := of_decide_eq_false hb; omega
   clear hb
   refine wp_exit ?_
   refine hK4 _ _ ?_
   refine wp_seq_k ?_
   intro K27 hK27
   refine fr_region ?_
   intro ops hops
   clear hops
   refine fr_pure (t := 24) (v := .agg #[.int .i64 0, .int .i64 0]) (w' := w7) h9 rfl rfl rfl (fun K hK => ?_) ?_
   ·go_simp
    exact hK
   clear h9; intro a28 hF28
   refine St.go hF28 ?_; clear hF28 a28
   refine sT 0 hW7 rfl rfl infFault rfl rfl rfl ?_
   clear hW7; intro w29 hW29
   refine St.nil fun a30 h30 => ?_
   refine hK27 _ _ ?_
   refine wp_ret ?_
   repeat (first | with_reducible refine of_then_ret ?_ | with_reducible refine of_block_ret ?_)
   have R : firstF G 0 l = (0, 0) := firstF_zero (fun k y hy => by rw [Nat.zero_add]; exact hall k y (by have := (List.getElem?_eq_some_iff.1 hy).1; omega) hy)
   exact ret_box 0 h30 hW29 rfl rfl rfl Try.underlying26 rfl infFault ⟨by show Ending.returned (.agg #[.int .i64 0, .int .i64 0]) = _; rw [R], hW29.bel⟩

set_option maxHeartbeats 4000000 in
set_option maxRecDepth 100000 in
theorem ffFunc_any {n : Nat} {l : List (MFunc n)} {p : Option Addr} {c Bc : Nat} {w : World} (G : Nat → (MFunc n) → Int × Int) (hl0 : (modL n).In w All l [.slice p l.length c]) (hsb : l.length ≤ 200)
    (hcl0 : ∀ (i : Nat) x (z : FP) wx, l[i]? = some x → FIn wx All x z → Below w.heap.size w wx → Rd Try.prog 46 #[.int .i64 (i : Int), .agg #[.int .i64 x.regs, .slice z.pP x.params.length z.cP, .slice z.pR x.results.length z.cR, .slice z.pB x.blocks.length z.cB], .pointer (some ⟨Bc, 0, none⟩)] wx (faultV (G i x))) :
    Rd Try.prog 45 #[.slice p l.length c, .func (.func 46) #[] #[.pointer (some ⟨Bc, 0, none⟩)]] w (faultV (firstF G 0 l)) := by
  have hl : Hid _ := hl0
  have hcl : Hid _ := hcl0
  clear hl0 hcl0
  refine fr_enter (n := 25) Try.func45 rfl rfl rfl ?_
  intro a hF
  have hW := Wd.start w
  replace hF : Fr 25 a [(0, .slice p l.length c), (1, .func (.func 46) #[] #[.pointer (some ⟨Bc, 0, none⟩)])] := hF
  refine wp_seq_k ?_
  intro K1 hK1
  refine fr_region ?_
  intro ops hops
  clear hops
  refine St.go hF ?_; clear hF a
  refine sAFault hW trivial rfl ?_
  clear hW; intro w2 B2 hW2 hN; clear hN
  refine St.nil fun a3 h3 => ?_
  refine hK1 _ _ ?_
  refine wp_seq_k ?_
  intro K4 hK4
  refine wp_seq_k ?_
  intro K5 hK5
  refine fr_region ?_
  intro ops hops
  clear hops
  refine St.go h3 ?_; clear h3 a3
  refine sm trivial rfl rfl ?_
  refine slFuncs trivial rfl rfl ?_
  refine sm trivial rfl rfl ?_
  refine St.nil fun a6 h6 => ?_
  refine hK5 _ _ ?_
  refine wp_block ?_
  refine fr_loop (fun r a w' => ∃ q : Nat, q ≤ l.length ∧ r = l.length - q ∧ (∀ (j : Nat) y, j < q → l[j]? = some y → (G j y).1 = 0) ∧ Fr 25 a [(1, .func (.func 46) #[] #[.pointer (some ⟨Bc, 0, none⟩)]), (0, .slice p l.length c), (4, .pointer (some ⟨B2, 0, none⟩)), (8, .slice p l.length c), (9, .int .i64 (l.length : Int)), (10, .int .i64 (q : Int))] ∧ Wd w w' [(B2, #[.int .i64 0, .int .i64 0], 26)]) (l.length) ⟨0, Nat.zero_le _, rfl, (fun j y hj => by omega), (h6.keep (h6.keep (h6.keep (h6.keep (h6.keep (h6.keep h6.nil (t := 10) rfl) (t := 9) rfl) (t := 8) rfl) (t := 4) rfl) (t := 0) rfl) (t := 1) rfl), hW2⟩ ?_
  clear h6 hW2
  rintro r a7 w7 ⟨q, hq, hr, hall, hF7, hW7⟩ KL hKL
  refine wp_seq_k ?_
  intro K8 hK8
  refine fr_region ?_
  intro ops hops
  clear hops
  refine St.go hF7 ?_; clear hF7 a7
  refine slt trivial rfl rfl rfl ?_
  refine St.nil fun a9 h9 => ?_
  refine hK8 _ _ ?_
  refine wp_seq_k ?_
  intro K10 hK10
  refine fr_cond (t := 11) h9 rfl (fun hb => ?_) (fun hb => ?_)
  ·have hlt1 : q < l.length := by have := of_decide_eq_true hb; omega
   clear hb
   obtain ⟨x, hx1⟩ : ∃ v9, (l)[q]? = some v9 := ⟨_, List.getElem?_eq_getElem hlt1⟩
   obtain ⟨g1, o1, f1, hp1, E1, In1⟩ := func_at hl.out hx1
   replace In1 : Hid _ := In1
   replace hp1 : Hid _ := hp1
   replace hx1 : Hid _ := hx1
   replace E1 : Hid _ := E1
   refine wp_skip ?_
   refine hK10 _ _ ?_
   refine wp_seq_k ?_
   intro K11 hK11
   refine wp_block ?_
   refine wp_seq_k ?_
   intro K12 hK12
   refine fr_region ?_
   intro ops hops
   clear hops
   refine St.go h9 ?_; clear h9 a9
   refine sm trivial rfl rfl ?_
   refine siFuncs hp1.out hlt1 trivial rfl rfl rfl ?_
   refine sSE Try.underlying50 rfl (rangeAt_bel E1.out hW7.bel) infFunc trivial rfl rfl ?_
   refine sAFunc hW7 trivial rfl ?_
   clear hW7; intro w13 B13 hW13 hN; clear hN
   refine sa trivial rfl rfl ?_
   refine sT 0 hW13 rfl rfl infFunc rfl rfl rfl ?_
   clear hW13; intro w14 hW14
   refine St.nil fun a15 h15 => ?_
   refine hK12 _ _ ?_
   refine wp_seq_k ?_
   intro K16 hK16
   refine fr_region ?_
   intro ops hops
   clear hops
   refine St.go h15 ?_; clear h15 a15
   refine sm trivial rfl rfl ?_
   refine sm trivial rfl rfl ?_
   refine sS 0 4 Try.underlying50 rfl infFunc hW14 trivial rfl rfl rfl rfl ?_
   refine sv_21 cf46 hW14 (hcl.out q x f1 w14 hx1.out (In1.out.below hW14.bel) hW14.bel) trivial rfl rfl rfl rfl ?_
   clear hW14; intro w17 hW17
   refine sAFault hW17 trivial rfl ?_
   clear hW17; intro w18 B18 hW18 hN; clear hN
   refine sT 0 hW18 rfl rfl infFault rfl rfl rfl ?_
   clear hW18; intro w19 hW19
   refine St.nil fun a20 h20 => ?_
   refine hK16 _ _ ?_
   refine wp_seq_k ?_
   intro K21 hK21
   refine fr_region ?_
   intro ops hops
   clear hops
   refine St.go h20 ?_; clear h20 a20
   refine sfFault0 trivial rfl rfl ?_
   refine sbInt 0 hW19 trivial rfl rfl rfl rfl ?_
   refine sne trivial rfl rfl rfl ?_
   refine St.nil fun a22 h22 => ?_
   refine hK21 _ _ ?_
   refine fr_cond (t := 21) h22 rfl (fun hb => ?_) (fun hb => ?_)
   ·have h9 : ¬ ((G q x).1) = 0 := bne_iff_ne.1 hb
    have hne : ¬ ((G q x).1) = 0 := h9
    clear h9
    clear hb
    refine wp_seq_k ?_
    intro K23 hK23
    refine fr_region ?_
    intro ops hops
    clear hops
    refine St.go h22 ?_; clear h22 a22
    refine sS 0 2 Try.underlying26 rfl infFault hW19 trivial rfl rfl rfl rfl ?_
    refine sT 2 hW19 rfl rfl infFault rfl rfl rfl ?_
    clear hW19; intro w24 hW24
    refine St.nil fun a25 h25 => ?_
    refine hK23 _ _ ?_
    refine wp_ret ?_
    repeat (first | with_reducible refine of_then_ret ?_ | with_reducible refine of_block_ret ?_)
    have R : firstF G 0 l = G q x := by have h9 := firstF_eq (f := G) (j := 0) hx1.out (fun k y hk hy => by rw [Nat.zero_add]; exact hall k y hk hy) (by rw [Nat.zero_add]; exact hne); rwa [Nat.zero_add] at h9
    exact ret_box 2 h25 hW24 rfl rfl rfl Try.underlying26 rfl infFault ⟨by show Ending.returned (.agg #[.int .i64 ((G q x).1), .int .i64 ((G q x).2)]) = _; rw [R], hW24.bel⟩
   ·have h9 : ((G q x).1) = 0 := bne_eq_false_iff_eq.1 hb
    have hne : Hid (((G q x).1) = 0) := h9
    clear h9
    clear hb
    refine wp_skip ?_
    refine hK11 _ _ ?_
    refine fr_region ?_
    intro ops hops
    clear hops
    refine St.go h22 ?_; clear h22 a22
    refine sad (by omega) trivial rfl rfl rfl ?_
    refine sm trivial rfl rfl ?_
    refine St.nil fun a26 h26 => ?_
    refine hKL _ _ (l.length - (q + 1)) (by omega) ⟨q + 1, by omega, rfl, ?_, (h26.keep (h26.keep (h26.keep (h26.keep (h26.keep (h26.keep h26.nil (t := 10) rfl) (t := 9) rfl) (t := 8) rfl) (t := 4) rfl) (t := 0) rfl) (t := 1) rfl), hW19.tail.tail⟩
    ·intro j y hj hy
     by_cases e : j = q
     · subst e; rw [hx1.out] at hy; cases hy; exact hne.out
     · exact hall j y (by omega) hy
  ·have hge : q = l.length := by have := of_decide_eq_false hb; omega
   clear hb
   refine wp_exit ?_
   refine hK4 _ _ ?_
   refine wp_seq_k ?_
   intro K27 hK27
   refine fr_region ?_
   intro ops hops
   clear hops
   refine fr_pure (t := 24) (v := .agg #[.int .i64 0, .int .i64 0]) (w' := w7) h9 rfl rfl rfl (fun K hK => ?_) ?_
   ·go_simp
    exact hK
   clear h9; intro a28 hF28
   refine St.go hF28 ?_; clear hF28 a28
   refine sT 0 hW7 rfl rfl infFault rfl rfl rfl ?_
   clear hW7; intro w29 hW29
   refine St.nil fun a30 h30 => ?_
   refine hK27 _ _ ?_
   refine wp_ret ?_
   repeat (first | with_reducible refine of_then_ret ?_ | with_reducible refine of_block_ret ?_)
   have R : firstF G 0 l = (0, 0) := firstF_zero (fun k y hy => by rw [Nat.zero_add]; exact hall k y (by have := (List.getElem?_eq_some_iff.1 hy).1; omega) hy)
   exact ret_box 0 h30 hW29 rfl rfl rfl Try.underlying26 rfl infFault ⟨by show Ending.returned (.agg #[.int .i64 0, .int .i64 0]) = _; rw [R], hW29.bel⟩
end Go.Proofs.Ytmnmnokkojcodab
