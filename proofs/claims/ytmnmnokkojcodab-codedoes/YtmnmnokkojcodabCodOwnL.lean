/-
  code.ownList: a list in new memory, element by element.
-/
import Derived.Test.YtmnmnokkojcodabCodRow
namespace Go.Proofs.Ytmnmnokkojcodab
open Go.ChangeShapes Go.WideShapes Go.ChangeAt Go.RowKit
set_option linter.unusedVariables false
set_option linter.unusedSimpArgs false

set_option maxHeartbeats 4000000 in
set_option maxRecDepth 100000 in
theorem ownTypes_any {n : Nat} (l : List (TT n)) (p : Option Addr) (c : Nat) (w : World) (hl0 : (Lay.tt n).list.In w All l [.slice p l.length c]) (hb0 : l.length ≤ 4294967296)
    (hf : ∀ x ∈ l, ∀ (i : TP) (w : World), YIn w All x i → Calls Try.prog 79 #[.agg #[.int .i64 x.kind, .int .i64 x.r, .slice i.p x.len i.c]] w fun e w' => ∃ v, e = .returned v ∧ (∃ i' : TP, v = .agg #[.int .i64 x.kind, .int .i64 x.r, .slice i'.p x.len i'.c] ∧ YIn w' (From w.heap.size) x i') ∧ Below w.heap.size w w') :
    Calls Try.prog 78 #[.slice p l.length c, .func (.func 79) #[] #[]] w fun e w' => LyOut (Lay.tt n) w w' l e := by
  have hl : Hid _ := hl0
  clear hl0
  obtain ⟨i0, hi, hz0, hz1, hz2⟩ := infoT_parts
  refine fr_enter (n := 26) Try.func78 rfl rfl rfl ?_
  intro a hF
  have hW := Wd.start w
  replace hF : Fr 26 a [(0, .slice p l.length c), (1, .func (.func 79) #[] #[])] := hF
  refine wp_seq_k ?_
  intro K1 hK1
  refine fr_region ?_
  intro ops hops
  clear hops
  refine St.go hF ?_; clear hF a
  refine sa trivial rfl rfl ?_
  refine St.nil fun a2 h2 => ?_
  refine hK1 _ _ ?_
  refine wp_seq_k ?_
  intro K3 hK3
  refine fr_region ?_
  intro ops hops
  clear hops
  refine St.go h2 ?_; clear h2 a2
  refine sm trivial rfl rfl ?_
  refine slTypes trivial rfl rfl ?_
  refine sMake underTs hi hz0 hz1 (by rw [hz2]; omega) (by unfold maxLen; omega) hW trivial rfl rfl ?_
  rintro w4 g xs0 rfl hO hbl hW4
  clear hW
  refine sa trivial rfl rfl ?_
  refine St.nil fun a5 h5 => ?_
  refine hK3 _ _ ?_
  refine wp_seq_k ?_
  intro K6 hK6
  refine wp_seq_k ?_
  intro K7 hK7
  refine fr_region ?_
  intro ops hops
  clear hops
  refine St.go h5 ?_; clear h5 a5
  refine sm trivial rfl rfl ?_
  refine slTypes trivial rfl rfl ?_
  refine sm trivial rfl rfl ?_
  refine St.nil fun a8 h8 => ?_
  refine hK7 _ _ ?_
  refine wp_block ?_
  refine fr_loop (fun r a w' => ∃ q : Nat, q ≤ l.length ∧ r = l.length - q ∧ (∃ xs, ARow (Lay.tt n) 90 w' w.heap.size (.slice (some ⟨w.heap.size, 0, none⟩) q l.length) (l.take q) xs) ∧ Fr 26 a [(1, .func (.func 79) #[] #[]), (0, .slice p l.length c), (4, .slice none 0 0), (5, .slice (some ⟨w.heap.size, 0, none⟩) l.length l.length), (11, .slice p l.length c), (12, .int .i64 (l.length : Int)), (13, .int .i64 (q : Int))] ∧ Below w.heap.size w w') l.length ⟨0, Nat.zero_le _, rfl, ⟨_, ARow.start rfl hO⟩, (h8.keep (h8.keep (h8.keep (h8.keep (h8.keep (h8.keep (h8.keep h8.nil (t := 13) rfl) (t := 12) rfl) (t := 11) rfl) (t := 5) rfl) (t := 4) rfl) (t := 0) rfl) (t := 1) rfl), hbl⟩ ?_
  clear h8 hW4 hO hbl
  rintro r a9 w9 ⟨q, hq, hr, ⟨xs, hA0⟩, hF9, hB0⟩ KL hKL
  have hA : Hid _ := hA0
  have hB : Hid _ := hB0
  clear hA0 hB0
  have hW9 := Wd.start w9
  refine wp_seq_k ?_
  intro K10 hK10
  refine fr_region ?_
  intro ops hops
  clear hops
  refine St.go hF9 ?_; clear hF9 a9
  refine slt trivial rfl rfl rfl ?_
  refine St.nil fun a11 h11 => ?_
  refine hK10 _ _ ?_
  refine wp_seq_k ?_
  intro K12 hK12
  refine fr_cond (t := 14) h11 rfl (fun hb => ?_) (fun hb => ?_)
  ·have hlt1 : q < l.length := by have := of_decide_eq_true hb; omega
   clear hb
   obtain ⟨x, hx1⟩ : ∃ v9, (l)[q]? = some v9 := ⟨_, List.getElem?_eq_getElem hlt1⟩
   obtain ⟨g1, o1, y1, hp1, E1, In1⟩ := type_at (Lay.below hl.out hB.out) hx1
   replace In1 : Hid _ := In1
   replace hp1 : Hid _ := hp1
   replace hx1 : Hid _ := hx1
   replace E1 : Hid _ := E1
   have hpg : Hid ((some ⟨w.heap.size, 0, none⟩ : Option Addr) = some ⟨w.heap.size, 0, none⟩) := rfl
   refine wp_skip ?_
   refine hK12 _ _ ?_
   refine wp_seq_k ?_
   intro K13 hK13
   refine wp_block ?_
   refine wp_seq_k ?_
   intro K14 hK14
   refine fr_region ?_
   intro ops hops
   clear hops
   refine St.go h11 ?_; clear h11 a11
   refine sm trivial rfl rfl ?_
   refine siTypes hp1.out hlt1 trivial rfl rfl rfl ?_
   refine sSE Try.underlying90 rfl (rangeAt_bel E1.out hW9.bel) infType trivial rfl rfl ?_
   refine sAType hW9 trivial rfl ?_
   clear hW9; intro w15 B15 hW15 hN; clear hN
   refine sa trivial rfl rfl ?_
   refine sT 0 hW15 rfl rfl infType rfl rfl rfl ?_
   clear hW15; intro w16 hW16
   refine St.nil fun a17 h17 => ?_
   refine hK14 _ _ ?_
   refine fr_region ?_
   intro ops hops
   clear hops
   refine St.go h17 ?_; clear h17 a17
   refine sm trivial rfl rfl ?_
   refine sm trivial rfl rfl ?_
   refine sm trivial rfl rfl ?_
   refine sS 0 3 Try.underlying90 rfl infType hW16 trivial rfl rfl rfl rfl ?_
   refine snv_1 cf79 hW16 (hf x (List.mem_of_getElem? hx1.out) y1 _ (In1.out.below hW16.bel)) trivial rfl rfl rfl ?_
   rintro v9 w18 ⟨i2, rfl, hI⟩ hb9 hW18
   refine siTypes hpg.out hlt1 trivial rfl rfl rfl ?_
   intro a19 h19
   refine St.go h19 ?_; clear h19 a19
   have hA2 := hA.out.below hW18.bel
   obtain ⟨cg, hBk, hcs⟩ := hA2.blk (s := 3) rfl
   have hb8 : Below w.heap.size w w18 := Below.andThen hB.out hW18.bel
   have hs1 : w9.heap.size ≤ w16.heap.size := hW16.bel.size
   have hs2 : w.heap.size ≤ w9.heap.size := hB.out.size
   have hs3 := (hA.out.lo_le (g := w.heap.size) rfl).2
   have hI2 : (Lay.tt n).In w18 (fun k => w.heap.size ≤ k ∧ k ≠ w.heap.size) x [.int .i64 x.kind, .int .i64 x.r, .slice i2.p x.len i2.c] := Lay.mono (type_shut hI) (fun k hk _ => ⟨by have : _ ≤ k := hk; omega, by have : _ ≤ k := hk; omega⟩)
   clear hW18 hW16
   refine sRowk (Wd.of hb8) (Nat.le_refl _) (fun i x h => by simp at h) hBk rfl rfl infType rfl (by simp only [List.length_cons, List.length_nil]; omega) ?_
   intro w20 hW20 hwe
   obtain ⟨xs2, hA3⟩ := hA2.fillq (s := 3) (w' := w20) rfl hlt1 rfl hx1.out hI2 hwe
   clear hwe hA2 hBk hcs hI2
   refine St.nil fun a21 h21 => ?_
   refine hK13 _ _ ?_
   refine fr_region ?_
   intro ops hops
   clear hops
   refine St.go h21 ?_; clear h21 a21
   refine sad (by omega) trivial rfl rfl rfl ?_
   refine sm trivial rfl rfl ?_
   refine St.nil fun a22 h22 => ?_
   exact hKL _ _ (l.length - (q + 1)) (by omega) ⟨q + 1, by omega, rfl, ⟨_, hA3⟩, (h22.keep (h22.keep (h22.keep (h22.keep (h22.keep (h22.keep (h22.keep h22.nil (t := 13) rfl) (t := 12) rfl) (t := 11) rfl) (t := 5) rfl) (t := 4) rfl) (t := 0) rfl) (t := 1) rfl), hW20.bel⟩
  ·have hge : q = l.length := by have := of_decide_eq_false hb; omega
   clear hb
   refine wp_exit ?_
   refine hK6 _ _ ?_
   refine wp_seq_k ?_
   intro K23 hK23
   refine fr_region ?_
   intro ops hops
   clear hops
   refine St.go h11 ?_; clear h11 a11
   refine sm trivial rfl rfl ?_
   refine sa trivial rfl rfl ?_
   refine St.nil fun a24 h24 => ?_
   refine hK23 _ _ ?_
   refine wp_ret ?_
   repeat (first | with_reducible refine of_then_ret ?_ | with_reducible refine of_block_ret ?_)
   exact ret_tmp (t := 4) h24 rfl rfl ⟨_, _, rfl, hA.out.done hge, hB.out⟩

set_option maxHeartbeats 4000000 in
set_option maxRecDepth 100000 in
theorem ownInss_any (l : List (MIns)) (p : Option Addr) (c : Nat) (w : World) (hl0 : insL.list.In w All l [.slice p l.length c]) (hb0 : l.length ≤ 4294967296)
    (hf : ∀ x ∈ l, ∀ (i : IP) (w : World), IIn w All x i → Calls Try.prog 101 #[.agg #[.int .i64 x.op, .int .i64 x.a, .int .i64 x.b, .int .i64 x.c, .int .i64 x.k, .int .i64 x.n, .slice i.pR x.regs.length i.cR, .slice i.pA x.args.length i.cA]] w fun e w' => ∃ v, e = .returned v ∧ (∃ i' : IP, v = .agg #[.int .i64 x.op, .int .i64 x.a, .int .i64 x.b, .int .i64 x.c, .int .i64 x.k, .int .i64 x.n, .slice i'.pR x.regs.length i'.cR, .slice i'.pA x.args.length i'.cA] ∧ IIn w' (From w.heap.size) x i') ∧ Below w.heap.size w w') :
    Calls Try.prog 100 #[.slice p l.length c, .func (.func 101) #[] #[]] w fun e w' => LyOut insL w w' l e := by
  have hl : Hid _ := hl0
  clear hl0
  obtain ⟨i0, hi, hz0, hz1, hz2⟩ := (parts_of infoIns)
  refine fr_enter (n := 26) Try.func100 rfl rfl rfl ?_
  intro a hF
  have hW := Wd.start w
  replace hF : Fr 26 a [(0, .slice p l.length c), (1, .func (.func 101) #[] #[])] := hF
  refine wp_seq_k ?_
  intro K1 hK1
  refine fr_region ?_
  intro ops hops
  clear hops
  refine St.go hF ?_; clear hF a
  refine sa trivial rfl rfl ?_
  refine St.nil fun a2 h2 => ?_
  refine hK1 _ _ ?_
  refine wp_seq_k ?_
  intro K3 hK3
  refine fr_region ?_
  intro ops hops
  clear hops
  refine St.go h2 ?_; clear h2 a2
  refine sm trivial rfl rfl ?_
  refine slInss trivial rfl rfl ?_
  refine sMake underIns hi hz0 hz1 (by rw [hz2]; omega) (by unfold maxLen; omega) hW trivial rfl rfl ?_
  rintro w4 g xs0 rfl hO hbl hW4
  clear hW
  refine sa trivial rfl rfl ?_
  refine St.nil fun a5 h5 => ?_
  refine hK3 _ _ ?_
  refine wp_seq_k ?_
  intro K6 hK6
  refine wp_seq_k ?_
  intro K7 hK7
  refine fr_region ?_
  intro ops hops
  clear hops
  refine St.go h5 ?_; clear h5 a5
  refine sm trivial rfl rfl ?_
  refine slInss trivial rfl rfl ?_
  refine sm trivial rfl rfl ?_
  refine St.nil fun a8 h8 => ?_
  refine hK7 _ _ ?_
  refine wp_block ?_
  refine fr_loop (fun r a w' => ∃ q : Nat, q ≤ l.length ∧ r = l.length - q ∧ (∃ xs, ARow insL 46 w' w.heap.size (.slice (some ⟨w.heap.size, 0, none⟩) q l.length) (l.take q) xs) ∧ Fr 26 a [(1, .func (.func 101) #[] #[]), (0, .slice p l.length c), (4, .slice none 0 0), (5, .slice (some ⟨w.heap.size, 0, none⟩) l.length l.length), (11, .slice p l.length c), (12, .int .i64 (l.length : Int)), (13, .int .i64 (q : Int))] ∧ Below w.heap.size w w') l.length ⟨0, Nat.zero_le _, rfl, ⟨_, ARow.start rfl hO⟩, (h8.keep (h8.keep (h8.keep (h8.keep (h8.keep (h8.keep (h8.keep h8.nil (t := 13) rfl) (t := 12) rfl) (t := 11) rfl) (t := 5) rfl) (t := 4) rfl) (t := 0) rfl) (t := 1) rfl), hbl⟩ ?_
  clear h8 hW4 hO hbl
  rintro r a9 w9 ⟨q, hq, hr, ⟨xs, hA0⟩, hF9, hB0⟩ KL hKL
  have hA : Hid _ := hA0
  have hB : Hid _ := hB0
  clear hA0 hB0
  have hW9 := Wd.start w9
  refine wp_seq_k ?_
  intro K10 hK10
  refine fr_region ?_
  intro ops hops
  clear hops
  refine St.go hF9 ?_; clear hF9 a9
  refine slt trivial rfl rfl rfl ?_
  refine St.nil fun a11 h11 => ?_
  refine hK10 _ _ ?_
  refine wp_seq_k ?_
  intro K12 hK12
  refine fr_cond (t := 14) h11 rfl (fun hb => ?_) (fun hb => ?_)
  ·have hlt1 : q < l.length := by have := of_decide_eq_true hb; omega
   clear hb
   obtain ⟨x, hx1⟩ : ∃ v9, (l)[q]? = some v9 := ⟨_, List.getElem?_eq_getElem hlt1⟩
   obtain ⟨g1, o1, i1, hp1, E1, In1⟩ := ins_at (Lay.below hl.out hB.out) hx1
   replace In1 : Hid _ := In1
   replace hp1 : Hid _ := hp1
   replace hx1 : Hid _ := hx1
   replace E1 : Hid _ := E1
   have hpg : Hid ((some ⟨w.heap.size, 0, none⟩ : Option Addr) = some ⟨w.heap.size, 0, none⟩) := rfl
   refine wp_skip ?_
   refine hK12 _ _ ?_
   refine wp_seq_k ?_
   intro K13 hK13
   refine wp_block ?_
   refine wp_seq_k ?_
   intro K14 hK14
   refine fr_region ?_
   intro ops hops
   clear hops
   refine St.go h11 ?_; clear h11 a11
   refine sm trivial rfl rfl ?_
   refine siInss hp1.out hlt1 trivial rfl rfl rfl ?_
   refine sSE Try.underlying46 rfl (rangeAt_bel E1.out hW9.bel) infIns trivial rfl rfl ?_
   refine sAIns hW9 trivial rfl ?_
   clear hW9; intro w15 B15 hW15 hN; clear hN
   refine sa trivial rfl rfl ?_
   refine sT 0 hW15 rfl rfl infIns rfl rfl rfl ?_
   clear hW15; intro w16 hW16
   refine St.nil fun a17 h17 => ?_
   refine hK14 _ _ ?_
   refine fr_region ?_
   intro ops hops
   clear hops
   refine St.go h17 ?_; clear h17 a17
   refine sm trivial rfl rfl ?_
   refine sm trivial rfl rfl ?_
   refine sm trivial rfl rfl ?_
   refine sS 0 8 Try.underlying46 rfl infIns hW16 trivial rfl rfl rfl rfl ?_
   refine snv_1 cf101 hW16 (hf x (List.mem_of_getElem? hx1.out) i1 _ (In1.out.below hW16.bel)) trivial rfl rfl rfl ?_
   rintro v9 w18 ⟨i2, rfl, hI⟩ hb9 hW18
   refine siInss hpg.out hlt1 trivial rfl rfl rfl ?_
   intro a19 h19
   refine St.go h19 ?_; clear h19 a19
   have hA2 := hA.out.below hW18.bel
   obtain ⟨cg, hBk, hcs⟩ := hA2.blk (s := 8) rfl
   have hb8 : Below w.heap.size w w18 := Below.andThen hB.out hW18.bel
   have hs1 : w9.heap.size ≤ w16.heap.size := hW16.bel.size
   have hs2 : w.heap.size ≤ w9.heap.size := hB.out.size
   have hs3 := (hA.out.lo_le (g := w.heap.size) rfl).2
   have hI2 : insL.In w18 (fun k => w.heap.size ≤ k ∧ k ≠ w.heap.size) x [.int .i64 x.op, .int .i64 x.a, .int .i64 x.b, .int .i64 x.c, .int .i64 x.k, .int .i64 x.n, .slice i2.pR x.regs.length i2.cR, .slice i2.pA x.args.length i2.cA] := Lay.mono (ins_shut hI) (fun k hk _ => ⟨by have : _ ≤ k := hk; omega, by have : _ ≤ k := hk; omega⟩)
   clear hW18 hW16
   refine sRowk (Wd.of hb8) (Nat.le_refl _) (fun i x h => by simp at h) hBk rfl rfl infIns rfl (by simp only [List.length_cons, List.length_nil]; omega) ?_
   intro w20 hW20 hwe
   obtain ⟨xs2, hA3⟩ := hA2.fillq (s := 8) (w' := w20) rfl hlt1 rfl hx1.out hI2 hwe
   clear hwe hA2 hBk hcs hI2
   refine St.nil fun a21 h21 => ?_
   refine hK13 _ _ ?_
   refine fr_region ?_
   intro ops hops
   clear hops
   refine St.go h21 ?_; clear h21 a21
   refine sad (by omega) trivial rfl rfl rfl ?_
   refine sm trivial rfl rfl ?_
   refine St.nil fun a22 h22 => ?_
   exact hKL _ _ (l.length - (q + 1)) (by omega) ⟨q + 1, by omega, rfl, ⟨_, hA3⟩, (h22.keep (h22.keep (h22.keep (h22.keep (h22.keep (h22.keep (h22.keep h22.nil (t := 13) rfl) (t := 12) rfl) (t := 11) rfl) (t := 5) rfl) (t := 4) rfl) (t := 0) rfl) (t := 1) rfl), hW20.bel⟩
  ·have hge : q = l.length := by have := of_decide_eq_false hb; omega
   clear hb
   refine wp_exit ?_
   refine hK6 _ _ ?_
   refine wp_seq_k ?_
   intro K23 hK23
   refine fr_region ?_
   intro ops hops
   clear hops
   refine St.go h11 ?_; clear h11 a11
   refine sm trivial rfl rfl ?_
   refine sa trivial rfl rfl ?_
   refine St.nil fun a24 h24 => ?_
   refine hK23 _ _ ?_
   refine wp_ret ?_
   repeat (first | with_reducible refine of_then_ret ?_ | with_reducible refine of_block_ret ?_)
   exact ret_tmp (t := 4) h24 rfl rfl ⟨_, _, rfl, hA.out.done hge, hB.out⟩

set_option maxHeartbeats 4000000 in
set_option maxRecDepth 100000 in
theorem ownBlocks_any {n : Nat} (l : List (MBlock n)) (p : Option Addr) (c : Nat) (w : World) (hl0 : (blockL n).list.In w All l [.slice p l.length c]) (hb0 : l.length ≤ 4294967296)
    (hf : ∀ x ∈ l, ∀ (i : BP) (w : World), BIn w All x i → Calls Try.prog 81 #[.agg #[.int .i64 x.regs, .slice i.pP x.params.length i.cP, .slice i.pC x.code.length i.cC, .int .i64 x.fin.op, .int .i64 x.fin.a, .int .i64 x.fin.yes.block, .slice i.e.pYR x.fin.yes.regs.length i.e.cYR, .slice i.e.pYA x.fin.yes.args.length i.e.cYA, .int .i64 x.fin.no.block, .slice i.e.pNR x.fin.no.regs.length i.e.cNR, .slice i.e.pNA x.fin.no.args.length i.e.cNA, .slice i.e.pA x.fin.args.length i.e.cA]] w fun e w' => ∃ v, e = .returned v ∧ (∃ i' : BP, v = .agg #[.int .i64 x.regs, .slice i'.pP x.params.length i'.cP, .slice i'.pC x.code.length i'.cC, .int .i64 x.fin.op, .int .i64 x.fin.a, .int .i64 x.fin.yes.block, .slice i'.e.pYR x.fin.yes.regs.length i'.e.cYR, .slice i'.e.pYA x.fin.yes.args.length i'.e.cYA, .int .i64 x.fin.no.block, .slice i'.e.pNR x.fin.no.regs.length i'.e.cNR, .slice i'.e.pNA x.fin.no.args.length i'.e.cNA, .slice i'.e.pA x.fin.args.length i'.e.cA] ∧ BIn w' (From w.heap.size) x i') ∧ Below w.heap.size w w') :
    Calls Try.prog 80 #[.slice p l.length c, .func (.func 81) #[] #[]] w fun e w' => LyOut (blockL n) w w' l e := by
  have hl : Hid _ := hl0
  clear hl0
  obtain ⟨i0, hi, hz0, hz1, hz2⟩ := (parts_of infoBlock)
  refine fr_enter (n := 26) Try.func80 rfl rfl rfl ?_
  intro a hF
  have hW := Wd.start w
  replace hF : Fr 26 a [(0, .slice p l.length c), (1, .func (.func 81) #[] #[])] := hF
  refine wp_seq_k ?_
  intro K1 hK1
  refine fr_region ?_
  intro ops hops
  clear hops
  refine St.go hF ?_; clear hF a
  refine sa trivial rfl rfl ?_
  refine St.nil fun a2 h2 => ?_
  refine hK1 _ _ ?_
  refine wp_seq_k ?_
  intro K3 hK3
  refine fr_region ?_
  intro ops hops
  clear hops
  refine St.go h2 ?_; clear h2 a2
  refine sm trivial rfl rfl ?_
  refine slBlocks trivial rfl rfl ?_
  refine sMake underBlocks hi hz0 hz1 (by rw [hz2]; omega) (by unfold maxLen; omega) hW trivial rfl rfl ?_
  rintro w4 g xs0 rfl hO hbl hW4
  clear hW
  refine sa trivial rfl rfl ?_
  refine St.nil fun a5 h5 => ?_
  refine hK3 _ _ ?_
  refine wp_seq_k ?_
  intro K6 hK6
  refine wp_seq_k ?_
  intro K7 hK7
  refine fr_region ?_
  intro ops hops
  clear hops
  refine St.go h5 ?_; clear h5 a5
  refine sm trivial rfl rfl ?_
  refine slBlocks trivial rfl rfl ?_
  refine sm trivial rfl rfl ?_
  refine St.nil fun a8 h8 => ?_
  refine hK7 _ _ ?_
  refine wp_block ?_
  refine fr_loop (fun r a w' => ∃ q : Nat, q ≤ l.length ∧ r = l.length - q ∧ (∃ xs, ARow (blockL n) 77 w' w.heap.size (.slice (some ⟨w.heap.size, 0, none⟩) q l.length) (l.take q) xs) ∧ Fr 26 a [(1, .func (.func 81) #[] #[]), (0, .slice p l.length c), (4, .slice none 0 0), (5, .slice (some ⟨w.heap.size, 0, none⟩) l.length l.length), (11, .slice p l.length c), (12, .int .i64 (l.length : Int)), (13, .int .i64 (q : Int))] ∧ Below w.heap.size w w') l.length ⟨0, Nat.zero_le _, rfl, ⟨_, ARow.start rfl hO⟩, (h8.keep (h8.keep (h8.keep (h8.keep (h8.keep (h8.keep (h8.keep h8.nil (t := 13) rfl) (t := 12) rfl) (t := 11) rfl) (t := 5) rfl) (t := 4) rfl) (t := 0) rfl) (t := 1) rfl), hbl⟩ ?_
  clear h8 hW4 hO hbl
  rintro r a9 w9 ⟨q, hq, hr, ⟨xs, hA0⟩, hF9, hB0⟩ KL hKL
  have hA : Hid _ := hA0
  have hB : Hid _ := hB0
  clear hA0 hB0
  have hW9 := Wd.start w9
  refine wp_seq_k ?_
  intro K10 hK10
  refine fr_region ?_
  intro ops hops
  clear hops
  refine St.go hF9 ?_; clear hF9 a9
  refine slt trivial rfl rfl rfl ?_
  refine St.nil fun a11 h11 => ?_
  refine hK10 _ _ ?_
  refine wp_seq_k ?_
  intro K12 hK12
  refine fr_cond (t := 14) h11 rfl (fun hb => ?_) (fun hb => ?_)
  ·have hlt1 : q < l.length := by have := of_decide_eq_true hb; omega
   clear hb
   obtain ⟨x, hx1⟩ : ∃ v9, (l)[q]? = some v9 := ⟨_, List.getElem?_eq_getElem hlt1⟩
   obtain ⟨g1, o1, b1, hp1, E1, In1⟩ := block_at (Lay.below hl.out hB.out) hx1
   replace In1 : Hid _ := In1
   replace hp1 : Hid _ := hp1
   replace hx1 : Hid _ := hx1
   replace E1 : Hid _ := E1
   have hpg : Hid ((some ⟨w.heap.size, 0, none⟩ : Option Addr) = some ⟨w.heap.size, 0, none⟩) := rfl
   refine wp_skip ?_
   refine hK12 _ _ ?_
   refine wp_seq_k ?_
   intro K13 hK13
   refine wp_block ?_
   refine wp_seq_k ?_
   intro K14 hK14
   refine fr_region ?_
   intro ops hops
   clear hops
   refine St.go h11 ?_; clear h11 a11
   refine sm trivial rfl rfl ?_
   refine siBlocks hp1.out hlt1 trivial rfl rfl rfl ?_
   refine sSE Try.underlying77 rfl (rangeAt_bel E1.out hW9.bel) infBlock trivial rfl rfl ?_
   refine sABlock hW9 trivial rfl ?_
   clear hW9; intro w15 B15 hW15 hN; clear hN
   refine sa trivial rfl rfl ?_
   refine sT 0 hW15 rfl rfl infBlock rfl rfl rfl ?_
   clear hW15; intro w16 hW16
   refine St.nil fun a17 h17 => ?_
   refine hK14 _ _ ?_
   refine fr_region ?_
   intro ops hops
   clear hops
   refine St.go h17 ?_; clear h17 a17
   refine sm trivial rfl rfl ?_
   refine sm trivial rfl rfl ?_
   refine sm trivial rfl rfl ?_
   refine sS 0 12 Try.underlying77 rfl infBlock hW16 trivial rfl rfl rfl rfl ?_
   refine snv_1 cf81 hW16 (hf x (List.mem_of_getElem? hx1.out) b1 _ (In1.out.below hW16.bel)) trivial rfl rfl rfl ?_
   rintro v9 w18 ⟨i2, rfl, hI⟩ hb9 hW18
   refine siBlocks hpg.out hlt1 trivial rfl rfl rfl ?_
   intro a19 h19
   refine St.go h19 ?_; clear h19 a19
   have hA2 := hA.out.below hW18.bel
   obtain ⟨cg, hBk, hcs⟩ := hA2.blk (s := 12) rfl
   have hb8 : Below w.heap.size w w18 := Below.andThen hB.out hW18.bel
   have hs1 : w9.heap.size ≤ w16.heap.size := hW16.bel.size
   have hs2 : w.heap.size ≤ w9.heap.size := hB.out.size
   have hs3 := (hA.out.lo_le (g := w.heap.size) rfl).2
   have hI2 : (blockL n).In w18 (fun k => w.heap.size ≤ k ∧ k ≠ w.heap.size) x [.int .i64 x.regs, .slice i2.pP x.params.length i2.cP, .slice i2.pC x.code.length i2.cC, .int .i64 x.fin.op, .int .i64 x.fin.a, .int .i64 x.fin.yes.block, .slice i2.e.pYR x.fin.yes.regs.length i2.e.cYR, .slice i2.e.pYA x.fin.yes.args.length i2.e.cYA, .int .i64 x.fin.no.block, .slice i2.e.pNR x.fin.no.regs.length i2.e.cNR, .slice i2.e.pNA x.fin.no.args.length i2.e.cNA, .slice i2.e.pA x.fin.args.length i2.e.cA] := Lay.mono (block_shut hI) (fun k hk _ => ⟨by have : _ ≤ k := hk; omega, by have : _ ≤ k := hk; omega⟩)
   clear hW18 hW16
   refine sRowk (Wd.of hb8) (Nat.le_refl _) (fun i x h => by simp at h) hBk rfl rfl infBlock rfl (by simp only [List.length_cons, List.length_nil]; omega) ?_
   intro w20 hW20 hwe
   obtain ⟨xs2, hA3⟩ := hA2.fillq (s := 12) (w' := w20) rfl hlt1 rfl hx1.out hI2 hwe
   clear hwe hA2 hBk hcs hI2
   refine St.nil fun a21 h21 => ?_
   refine hK13 _ _ ?_
   refine fr_region ?_
   intro ops hops
   clear hops
   refine St.go h21 ?_; clear h21 a21
   refine sad (by omega) trivial rfl rfl rfl ?_
   refine sm trivial rfl rfl ?_
   refine St.nil fun a22 h22 => ?_
   exact hKL _ _ (l.length - (q + 1)) (by omega) ⟨q + 1, by omega, rfl, ⟨_, hA3⟩, (h22.keep (h22.keep (h22.keep (h22.keep (h22.keep (h22.keep (h22.keep h22.nil (t := 13) rfl) (t := 12) rfl) (t := 11) rfl) (t := 5) rfl) (t := 4) rfl) (t := 0) rfl) (t := 1) rfl), hW20.bel⟩
  ·have hge : q = l.length := by have := of_decide_eq_false hb; omega
   clear hb
   refine wp_exit ?_
   refine hK6 _ _ ?_
   refine wp_seq_k ?_
   intro K23 hK23
   refine fr_region ?_
   intro ops hops
   clear hops
   refine St.go h11 ?_; clear h11 a11
   refine sm trivial rfl rfl ?_
   refine sa trivial rfl rfl ?_
   refine St.nil fun a24 h24 => ?_
   refine hK23 _ _ ?_
   refine wp_ret ?_
   repeat (first | with_reducible refine of_then_ret ?_ | with_reducible refine of_block_ret ?_)
   exact ret_tmp (t := 4) h24 rfl rfl ⟨_, _, rfl, hA.out.done hge, hB.out⟩

set_option maxHeartbeats 4000000 in
set_option maxRecDepth 100000 in
theorem ownFuncs_any {n : Nat} (l : List (MFunc n)) (p : Option Addr) (c : Nat) (w : World) (hl0 : (funcL n).list.In w All l [.slice p l.length c]) (hb0 : l.length ≤ 4294967296)
    (hf : ∀ x ∈ l, ∀ (i : FP) (w : World), FIn w All x i → Calls Try.prog 54 #[.agg #[.int .i64 x.regs, .slice i.pP x.params.length i.cP, .slice i.pR x.results.length i.cR, .slice i.pB x.blocks.length i.cB]] w fun e w' => ∃ v, e = .returned v ∧ (∃ i' : FP, v = .agg #[.int .i64 x.regs, .slice i'.pP x.params.length i'.cP, .slice i'.pR x.results.length i'.cR, .slice i'.pB x.blocks.length i'.cB] ∧ FIn w' (From w.heap.size) x i') ∧ Below w.heap.size w w') :
    Calls Try.prog 53 #[.slice p l.length c, .func (.func 54) #[] #[]] w fun e w' => LyOut (funcL n) w w' l e := by
  have hl : Hid _ := hl0
  clear hl0
  obtain ⟨i0, hi, hz0, hz1, hz2⟩ := (parts_of infoFunc)
  refine fr_enter (n := 26) Try.func53 rfl rfl rfl ?_
  intro a hF
  have hW := Wd.start w
  replace hF : Fr 26 a [(0, .slice p l.length c), (1, .func (.func 54) #[] #[])] := hF
  refine wp_seq_k ?_
  intro K1 hK1
  refine fr_region ?_
  intro ops hops
  clear hops
  refine St.go hF ?_; clear hF a
  refine sa trivial rfl rfl ?_
  refine St.nil fun a2 h2 => ?_
  refine hK1 _ _ ?_
  refine wp_seq_k ?_
  intro K3 hK3
  refine fr_region ?_
  intro ops hops
  clear hops
  refine St.go h2 ?_; clear h2 a2
  refine sm trivial rfl rfl ?_
  refine slFuncs trivial rfl rfl ?_
  refine sMake underFuncs hi hz0 hz1 (by rw [hz2]; omega) (by unfold maxLen; omega) hW trivial rfl rfl ?_
  rintro w4 g xs0 rfl hO hbl hW4
  clear hW
  refine sa trivial rfl rfl ?_
  refine St.nil fun a5 h5 => ?_
  refine hK3 _ _ ?_
  refine wp_seq_k ?_
  intro K6 hK6
  refine wp_seq_k ?_
  intro K7 hK7
  refine fr_region ?_
  intro ops hops
  clear hops
  refine St.go h5 ?_; clear h5 a5
  refine sm trivial rfl rfl ?_
  refine slFuncs trivial rfl rfl ?_
  refine sm trivial rfl rfl ?_
  refine St.nil fun a8 h8 => ?_
  refine hK7 _ _ ?_
  refine wp_block ?_
  refine fr_loop (fun r a w' => ∃ q : Nat, q ≤ l.length ∧ r = l.length - q ∧ (∃ xs, ARow (funcL n) 50 w' w.heap.size (.slice (some ⟨w.heap.size, 0, none⟩) q l.length) (l.take q) xs) ∧ Fr 26 a [(1, .func (.func 54) #[] #[]), (0, .slice p l.length c), (4, .slice none 0 0), (5, .slice (some ⟨w.heap.size, 0, none⟩) l.length l.length), (11, .slice p l.length c), (12, .int .i64 (l.length : Int)), (13, .int .i64 (q : Int))] ∧ Below w.heap.size w w') l.length ⟨0, Nat.zero_le _, rfl, ⟨_, ARow.start rfl hO⟩, (h8.keep (h8.keep (h8.keep (h8.keep (h8.keep (h8.keep (h8.keep h8.nil (t := 13) rfl) (t := 12) rfl) (t := 11) rfl) (t := 5) rfl) (t := 4) rfl) (t := 0) rfl) (t := 1) rfl), hbl⟩ ?_
  clear h8 hW4 hO hbl
  rintro r a9 w9 ⟨q, hq, hr, ⟨xs, hA0⟩, hF9, hB0⟩ KL hKL
  have hA : Hid _ := hA0
  have hB : Hid _ := hB0
  clear hA0 hB0
  have hW9 := Wd.start w9
  refine wp_seq_k ?_
  intro K10 hK10
  refine fr_region ?_
  intro ops hops
  clear hops
  refine St.go hF9 ?_; clear hF9 a9
  refine slt trivial rfl rfl rfl ?_
  refine St.nil fun a11 h11 => ?_
  refine hK10 _ _ ?_
  refine wp_seq_k ?_
  intro K12 hK12
  refine fr_cond (t := 14) h11 rfl (fun hb => ?_) (fun hb => ?_)
  ·have hlt1 : q < l.length := by have := of_decide_eq_true hb; omega
   clear hb
   obtain ⟨x, hx1⟩ : ∃ v9, (l)[q]? = some v9 := ⟨_, List.getElem?_eq_getElem hlt1⟩
   obtain ⟨g1, o1, f1, hp1, E1, In1⟩ := func_at (Lay.below hl.out hB.out) hx1
   replace In1 : Hid _ := In1
   replace hp1 : Hid _ := hp1
   replace hx1 : Hid _ := hx1
   replace E1 : Hid _ := E1
   have hpg : Hid ((some ⟨w.heap.size, 0, none⟩ : Option Addr) = some ⟨w.heap.size, 0, none⟩) := rfl
   refine wp_skip ?_
   refine hK12 _ _ ?_
   refine wp_seq_k ?_
   intro K13 hK13
   refine wp_block ?_
   refine wp_seq_k ?_
   intro K14 hK14
   refine fr_region ?_
   intro ops hops
   clear hops
   refine St.go h11 ?_; clear h11 a11
   refine sm trivial rfl rfl ?_
   refine siFuncs hp1.out hlt1 trivial rfl rfl rfl ?_
   refine sSE Try.underlying50 rfl (rangeAt_bel E1.out hW9.bel) infFunc trivial rfl rfl ?_
   refine sAFunc hW9 trivial rfl ?_
   clear hW9; intro w15 B15 hW15 hN; clear hN
   refine sa trivial rfl rfl ?_
   refine sT 0 hW15 rfl rfl infFunc rfl rfl rfl ?_
   clear hW15; intro w16 hW16
   refine St.nil fun a17 h17 => ?_
   refine hK14 _ _ ?_
   refine fr_region ?_
   intro ops hops
   clear hops
   refine St.go h17 ?_; clear h17 a17
   refine sm trivial rfl rfl ?_
   refine sm trivial rfl rfl ?_
   refine sm trivial rfl rfl ?_
   refine sS 0 4 Try.underlying50 rfl infFunc hW16 trivial rfl rfl rfl rfl ?_
   refine snv_1 cf54 hW16 (hf x (List.mem_of_getElem? hx1.out) f1 _ (In1.out.below hW16.bel)) trivial rfl rfl rfl ?_
   rintro v9 w18 ⟨i2, rfl, hI⟩ hb9 hW18
   refine siFuncs hpg.out hlt1 trivial rfl rfl rfl ?_
   intro a19 h19
   refine St.go h19 ?_; clear h19 a19
   have hA2 := hA.out.below hW18.bel
   obtain ⟨cg, hBk, hcs⟩ := hA2.blk (s := 4) rfl
   have hb8 : Below w.heap.size w w18 := Below.andThen hB.out hW18.bel
   have hs1 : w9.heap.size ≤ w16.heap.size := hW16.bel.size
   have hs2 : w.heap.size ≤ w9.heap.size := hB.out.size
   have hs3 := (hA.out.lo_le (g := w.heap.size) rfl).2
   have hI2 : (funcL n).In w18 (fun k => w.heap.size ≤ k ∧ k ≠ w.heap.size) x [.int .i64 x.regs, .slice i2.pP x.params.length i2.cP, .slice i2.pR x.results.length i2.cR, .slice i2.pB x.blocks.length i2.cB] := Lay.mono (func_shut hI) (fun k hk _ => ⟨by have : _ ≤ k := hk; omega, by have : _ ≤ k := hk; omega⟩)
   clear hW18 hW16
   refine sRowk (Wd.of hb8) (Nat.le_refl _) (fun i x h => by simp at h) hBk rfl rfl infFunc rfl (by simp only [List.length_cons, List.length_nil]; omega) ?_
   intro w20 hW20 hwe
   obtain ⟨xs2, hA3⟩ := hA2.fillq (s := 4) (w' := w20) rfl hlt1 rfl hx1.out hI2 hwe
   clear hwe hA2 hBk hcs hI2
   refine St.nil fun a21 h21 => ?_
   refine hK13 _ _ ?_
   refine fr_region ?_
   intro ops hops
   clear hops
   refine St.go h21 ?_; clear h21 a21
   refine sad (by omega) trivial rfl rfl rfl ?_
   refine sm trivial rfl rfl ?_
   refine St.nil fun a22 h22 => ?_
   exact hKL _ _ (l.length - (q + 1)) (by omega) ⟨q + 1, by omega, rfl, ⟨_, hA3⟩, (h22.keep (h22.keep (h22.keep (h22.keep (h22.keep (h22.keep (h22.keep h22.nil (t := 13) rfl) (t := 12) rfl) (t := 11) rfl) (t := 5) rfl) (t := 4) rfl) (t := 0) rfl) (t := 1) rfl), hW20.bel⟩
  ·have hge : q = l.length := by have := of_decide_eq_false hb; omega
   clear hb
   refine wp_exit ?_
   refine hK6 _ _ ?_
   refine wp_seq_k ?_
   intro K23 hK23
   refine fr_region ?_
   intro ops hops
   clear hops
   refine St.go h11 ?_; clear h11 a11
   refine sm trivial rfl rfl ?_
   refine sa trivial rfl rfl ?_
   refine St.nil fun a24 h24 => ?_
   refine hK23 _ _ ?_
   refine wp_ret ?_
   repeat (first | with_reducible refine of_then_ret ?_ | with_reducible refine of_block_ret ?_)
   exact ret_tmp (t := 4) h24 rfl rfl ⟨_, _, rfl, hA.out.done hge, hB.out⟩
end Go.Proofs.Ytmnmnokkojcodab
