/-
  The forms of ends and instructions: the reference, and package code.
-/
import Derived.Test.YtmnmnokkojcodabCodFormR
import Derived.Test.YtmnmnokkojcodabCodMem
namespace Go.Proofs.Ytmnmnokkojcodab
open Go.ChangeShapes Go.WideShapes Go.ChangeAt Go.RowKit
set_option linter.unusedVariables false
set_option linter.unusedSimpArgs false

def rangeC (x l m : Int) : Int := if x < l ∨ m < x then 1 else 0
def manyC (len : Nat) (m : Int) : Int := if m < len then 2 else 0
def handedC (r : Nat) (m : Int) (s : Nat) : Int := if manyC r m ≠ 0 then manyC r m else manyC s 8
theorem wrap_add (p q : Nat) (h : p + q < 4611686018427387904) : IntKind.i64.wrap ((p : Int) + (q : Int)) = (p : Int) + (q : Int) := by
  have e1 : ((p : Int) + (q : Int)) % 2 ^ 64 = (p : Int) + (q : Int) := by omega
  simp only [IntKind.wrap, IntKind.signed, IntKind.bits, e1, Bool.true_and]
  rw [if_neg (by simp only [decide_eq_true_eq]; omega)]

set_option maxHeartbeats 4000000 in
set_option maxRecDepth 100000 in
theorem rangeCode_any {x l m : Int} {w : World}  :
    Rd Try.prog 86 #[.int .i64 x, .int .i64 l, .int .i64 m] w (.int .i64 (rangeC x l m)) := by
  refine fr_enter (n := 15) Try.func86 rfl rfl rfl ?_
  intro a hF
  have hW := Wd.start w
  replace hF : Fr 15 a [(0, .int .i64 x), (1, .int .i64 l), (2, .int .i64 m)] := hF
  refine wp_seq_k ?_
  intro K1 hK1
  refine fr_region ?_
  intro ops hops
  clear hops
  refine St.go hF ?_; clear hF a
  refine sa trivial rfl rfl ?_
  refine St.nil fun a2 h2 => ?_
  refine hK1 _ _ ?_
  refine wp_seq_k ?_
  intro K3 hK3
  refine wp_seq_k ?_
  intro K4 hK4
  refine fr_region ?_
  intro ops hops
  have hg3 : (ops[3]?).bind (fun o : Oper => o.dst) = some 10 := hops 3
  clear hops
  refine St.go h2 ?_; clear h2 a2
  refine sm trivial rfl rfl ?_
  refine sm trivial rfl rfl ?_
  refine slt trivial rfl rfl rfl ?_
  refine sm trivial rfl rfl ?_
  intro a5 h5
  rcases Bool.eq_false_or_eq_true (decide (x < l)) with hb | hb
  ·rw [hb] at h5
   have hc6 : x < l := of_decide_eq_true hb
   clear hb
   refine St.go h5 ?_; clear h5 a5
   refine so hg3 rfl rfl rfl rfl ?_
   refine so hg3 rfl rfl rfl rfl ?_
   refine so hg3 rfl rfl rfl rfl ?_
   refine sp trivial rfl rfl rfl ?_
   refine St.nil fun a7 h7 => ?_
   refine hK4 _ _ ?_
   refine fr_true (t := 14) h7 rfl ?_
   refine wp_seq_k ?_
   intro K8 hK8
   refine fr_region ?_
   intro ops hops
   clear hops
   refine St.go h7 ?_; clear h7 a7
   refine sa trivial rfl rfl ?_
   refine St.nil fun a9 h9 => ?_
   refine hK8 _ _ ?_
   refine wp_ret ?_
   repeat (first | with_reducible refine of_then_ret ?_ | with_reducible refine of_block_ret ?_)
   have R : rangeC x l m = 1 := by simp [rangeC, hc6]
   exact ret_tmp (t := 6) h9 rfl rfl ⟨by rw [R], hW.bel⟩
  ·rw [hb] at h5
   have hc10 : ¬ (x < l) := of_decide_eq_false hb
   clear hb
   refine St.go h5 ?_; clear h5 a5
   refine sm ⟨_, hg3, rfl, rfl⟩ rfl rfl ?_
   refine sm ⟨_, hg3, rfl, rfl⟩ rfl rfl ?_
   refine sgt ⟨_, hg3, rfl, rfl⟩ rfl rfl rfl ?_
   refine spf trivial rfl rfl rfl ?_
   refine St.nil fun a11 h11 => ?_
   refine hK4 _ _ ?_
   refine fr_cond (t := 14) h11 rfl (fun hb => ?_) (fun hb => ?_)
   ·have hc12 : m < x := of_decide_eq_true hb
    clear hb
    refine wp_seq_k ?_
    intro K13 hK13
    refine fr_region ?_
    intro ops hops
    clear hops
    refine St.go h11 ?_; clear h11 a11
    refine sa trivial rfl rfl ?_
    refine St.nil fun a14 h14 => ?_
    refine hK13 _ _ ?_
    refine wp_ret ?_
    repeat (first | with_reducible refine of_then_ret ?_ | with_reducible refine of_block_ret ?_)
    have R : rangeC x l m = 1 := by simp [rangeC, hc10, hc12]
    exact ret_tmp (t := 6) h14 rfl rfl ⟨by rw [R], hW.bel⟩
   ·have hc15 : ¬ (m < x) := of_decide_eq_false hb
    clear hb
    refine wp_skip ?_
    refine hK3 _ _ ?_
    refine wp_seq_k ?_
    intro K16 hK16
    refine fr_region ?_
    intro ops hops
    clear hops
    refine St.go h11 ?_; clear h11 a11
    refine sa trivial rfl rfl ?_
    refine St.nil fun a17 h17 => ?_
    refine hK16 _ _ ?_
    refine wp_ret ?_
    repeat (first | with_reducible refine of_then_ret ?_ | with_reducible refine of_block_ret ?_)
    have R : rangeC x l m = 0 := by simp [rangeC, hc10, hc15]
    exact ret_tmp (t := 6) h17 rfl rfl ⟨by rw [R], hW.bel⟩

set_option maxHeartbeats 4000000 in
set_option maxRecDepth 100000 in
theorem manyCode_any {p : Option Addr} {len c : Nat} {m : Int} {w : World}  :
    Rd Try.prog 87 #[.slice p len c, .int .i64 m] w (.int .i64 (manyC len m)) := by
  refine fr_enter (n := 9) Try.func87 rfl rfl rfl ?_
  intro a hF
  have hW := Wd.start w
  replace hF : Fr 9 a [(0, .slice p len c), (1, .int .i64 m)] := hF
  refine wp_seq_k ?_
  intro K1 hK1
  refine fr_region ?_
  intro ops hops
  clear hops
  refine St.go hF ?_; clear hF a
  refine sa trivial rfl rfl ?_
  refine St.nil fun a2 h2 => ?_
  refine hK1 _ _ ?_
  refine wp_seq_k ?_
  intro K3 hK3
  refine wp_seq_k ?_
  intro K4 hK4
  refine fr_region ?_
  intro ops hops
  clear hops
  refine St.go h2 ?_; clear h2 a2
  refine sm trivial rfl rfl ?_
  refine slInts trivial rfl rfl ?_
  refine sm trivial rfl rfl ?_
  refine sgt trivial rfl rfl rfl ?_
  refine St.nil fun a5 h5 => ?_
  refine hK4 _ _ ?_
  refine fr_cond (t := 8) h5 rfl (fun hb => ?_) (fun hb => ?_)
  ·have hc6 : m < (len : Int) := of_decide_eq_true hb
   clear hb
   refine wp_seq_k ?_
   intro K7 hK7
   refine fr_region ?_
   intro ops hops
   clear hops
   refine St.go h5 ?_; clear h5 a5
   refine sa trivial rfl rfl ?_
   refine St.nil fun a8 h8 => ?_
   refine hK7 _ _ ?_
   refine wp_ret ?_
   repeat (first | with_reducible refine of_then_ret ?_ | with_reducible refine of_block_ret ?_)
   have R : manyC len m = 2 := by simp [manyC, hc6]
   exact ret_tmp (t := 4) h8 rfl rfl ⟨by rw [R], hW.bel⟩
  ·have hc9 : ¬ (m < (len : Int)) := of_decide_eq_false hb
   clear hb
   refine wp_skip ?_
   refine hK3 _ _ ?_
   refine wp_seq_k ?_
   intro K10 hK10
   refine fr_region ?_
   intro ops hops
   clear hops
   refine St.go h5 ?_; clear h5 a5
   refine sa trivial rfl rfl ?_
   refine St.nil fun a11 h11 => ?_
   refine hK10 _ _ ?_
   refine wp_ret ?_
   repeat (first | with_reducible refine of_then_ret ?_ | with_reducible refine of_block_ret ?_)
   have R : manyC len m = 0 := by simp [manyC, hc9]
   exact ret_tmp (t := 4) h11 rfl rfl ⟨by rw [R], hW.bel⟩

set_option maxHeartbeats 4000000 in
set_option maxRecDepth 100000 in
theorem handedCode_any {p q : Option Addr} {r c s d : Nat} {m : Int} {w : World}  :
    Rd Try.prog 88 #[.slice p r c, .int .i64 m, .slice q s d] w (.int .i64 (handedC r m s)) := by
  refine fr_enter (n := 16) Try.func88 rfl rfl rfl ?_
  intro a hF
  have hW := Wd.start w
  replace hF : Fr 16 a [(0, .slice p r c), (1, .int .i64 m), (2, .slice q s d)] := hF
  refine wp_seq_k ?_
  intro K1 hK1
  refine fr_region ?_
  intro ops hops
  clear hops
  refine St.go hF ?_; clear hF a
  refine sa trivial rfl rfl ?_
  refine St.nil fun a2 h2 => ?_
  refine hK1 _ _ ?_
  refine wp_seq_k ?_
  intro K3 hK3
  refine wp_seq_k ?_
  intro K4 hK4
  refine fr_region ?_
  intro ops hops
  clear hops
  refine St.go h2 ?_; clear h2 a2
  refine sm trivial rfl rfl ?_
  refine sm trivial rfl rfl ?_
  refine sc_2 cf87 hW (manyCode_any) trivial rfl rfl rfl ?_
  clear hW; intro w5 hW5
  refine sa trivial rfl rfl ?_
  refine St.nil fun a6 h6 => ?_
  refine hK4 _ _ ?_
  refine wp_seq_k ?_
  intro K7 hK7
  refine fr_region ?_
  intro ops hops
  clear hops
  refine St.go h6 ?_; clear h6 a6
  refine sm trivial rfl rfl ?_
  refine sne trivial rfl rfl rfl ?_
  refine St.nil fun a8 h8 => ?_
  refine hK7 _ _ ?_
  refine fr_cond (t := 12) h8 rfl (fun hb => ?_) (fun hb => ?_)
  ·have h9 : ¬ (manyC r m) = 0 := bne_iff_ne.1 hb
   have hc9 : ¬ (manyC r m) = 0 := h9
   clear h9
   clear hb
   refine wp_seq_k ?_
   intro K10 hK10
   refine fr_region ?_
   intro ops hops
   clear hops
   refine St.go h8 ?_; clear h8 a8
   refine sm trivial rfl rfl ?_
   refine sa trivial rfl rfl ?_
   refine St.nil fun a11 h11 => ?_
   refine hK10 _ _ ?_
   refine wp_ret ?_
   repeat (first | with_reducible refine of_then_ret ?_ | with_reducible refine of_block_ret ?_)
   have R : handedC r m s = manyC r m := by simp [handedC, hc9]
   exact ret_tmp (t := 6) h11 rfl rfl ⟨by rw [R], hW5.bel⟩
  ·have h9 : (manyC r m) = 0 := bne_eq_false_iff_eq.1 hb
   have hc12 : Hid ((manyC r m) = 0) := h9
   clear h9
   clear hb
   refine wp_skip ?_
   refine hK3 _ _ ?_
   refine wp_seq_k ?_
   intro K13 hK13
   refine fr_region ?_
   intro ops hops
   clear hops
   refine St.go h8 ?_; clear h8 a8
   refine sm trivial rfl rfl ?_
   refine sc_2 cf87 hW5 (manyCode_any) trivial rfl rfl rfl ?_
   clear hW5; intro w14 hW14
   refine sa trivial rfl rfl ?_
   refine St.nil fun a15 h15 => ?_
   refine hK13 _ _ ?_
   refine wp_ret ?_
   repeat (first | with_reducible refine of_then_ret ?_ | with_reducible refine of_block_ret ?_)
   have R : handedC r m s = manyC s 8 := by simp [handedC, hc12.out]
   exact ret_tmp (t := 6) h15 rfl rfl ⟨by rw [R], hW14.bel⟩

theorem wrap_pred (p : Nat) (h : p < 4611686018427387904) : IntKind.i64.wrap ((p : Int) - 1) = (p : Int) - 1 := by
  rcases Nat.eq_zero_or_pos p with rfl | hp
  · decide +kernel
  · have e1 : ((p : Int) - 1) % 2 ^ 64 = (p : Int) - 1 := by omega
    simp only [IntKind.wrap, IntKind.signed, IntKind.bits, e1, Bool.true_and]
    rw [if_neg (by simp only [decide_eq_true_eq]; omega)]
theorem toForm_eq (x : MTo) (bl : Nat) : x.form bl true = if rangeC x.block 0 ((bl : Int) - 1) = 0 then handedC x.regs.length 16 x.args.length else rangeC x.block 0 ((bl : Int) - 1) := by
  unfold MTo.form rangeC handedC manyC
  simp only [Bool.true_eq_false, if_false]
  repeat' split
  all_goals omega
theorem toForm_no (x : MTo) (bl : Nat) : x.form bl false = if x.block = 0 ∧ x.regs.length = 0 ∧ x.args.length = 0 then 0 else 4 := by
  unfold MTo.form
  simp only [if_true]
  repeat' split
  all_goals omega
/-- An end's form, in the order of the tests. -/
theorem endForm_eq (e : MEnd) (bl : Nat) : e.form bl = if e.op < 1 ∨ 3 < e.op then 3 else if (e.op ≠ 2 ∧ e.a ≠ 0) ∨ (e.op ≠ 3 ∧ 0 < e.args.length) then 4 else if 8 < e.args.length then 2
    else if e.yes.form bl (e.op != 3) = 0 then e.no.form bl (e.op == 2) else e.yes.form bl (e.op != 3) := by
  unfold MEnd.form
  have h1 : decide (e.op ≠ 3) = (e.op != 3) := by by_cases h : e.op = 3 <;> simp [h]
  have h2 : decide (e.op = 2) = (e.op == 2) := by by_cases h : e.op = 2 <;> simp [h]
  rw [h1, h2]
  by_cases c1 : e.op < 1 ∨ 3 < e.op
  · simp [c1]
  · rw [if_neg c1, if_neg c1]
    by_cases c2 : (e.op ≠ 2 ∧ e.a ≠ 0) ∨ (e.op ≠ 3 ∧ 0 < e.args.length)
    · rw [if_pos c2, if_pos (c2.imp (fun h => ⟨h.2, h.1⟩) (fun h => ⟨h.2, h.1⟩))]
    · rw [if_neg c2, if_neg (fun h => c2 (h.imp (fun h => ⟨h.2, h.1⟩) (fun h => ⟨h.2, h.1⟩)))]
      by_cases c3 : 8 < e.args.length
      · simp [c3]
      · rw [if_neg c3, if_neg c3]
        by_cases c4 : e.yes.form bl (e.op != 3) = 0
        · simp [c4]
        · simp [c4]

set_option maxHeartbeats 4000000 in
set_option maxRecDepth 100000 in
theorem toFormF {x : MTo} {pR pA : Option Addr} {cR cA : Nat} {fr : Int} {fp fq fb : Option Addr} {fl fc fm fd bl fe : Nat} {w : World} (hr : x.regs.length < 2305843009213693952) (ha : x.args.length < 2305843009213693952) (hbl : bl < 2305843009213693952) :
    Rd Try.prog 62 #[.agg #[.int .i64 fr, .slice fp fl fc, .slice fq fm fd, .slice fb bl fe], .agg #[.int .i64 x.block, .slice pR x.regs.length cR, .slice pA x.args.length cA], .bool false] w (.int .i64 (x.form bl false)) := by
  refine fr_enter (n := 43) Try.func62 rfl rfl rfl ?_
  intro a hF
  have hW := Wd.start w
  replace hF : Fr 43 a [(0, .agg #[.int .i64 fr, .slice fp fl fc, .slice fq fm fd, .slice fb bl fe]), (1, .agg #[.int .i64 x.block, .slice pR x.regs.length cR, .slice pA x.args.length cA]), (2, .bool false)] := hF
  refine wp_seq_k ?_
  intro K1 hK1
  refine fr_region ?_
  intro ops hops
  clear hops
  refine St.go hF ?_; clear hF a
  refine sB hW trivial rfl rfl ?_
  clear hW; intro w2 B2 hW2 hN; clear hN
  refine sB hW2 trivial rfl rfl ?_
  clear hW2; intro w3 B3 hW3 hN; clear hN
  refine sa trivial rfl rfl ?_
  refine St.nil fun a4 h4 => ?_
  refine hK1 _ _ ?_
  refine wp_seq_k ?_
  intro K5 hK5
  refine wp_seq_k ?_
  intro K6 hK6
  refine fr_region ?_
  intro ops hops
  clear hops
  refine St.go h4 ?_; clear h4 a4
  refine sm trivial rfl rfl ?_
  refine sn trivial rfl rfl ?_
  refine St.nil fun a7 h7 => ?_
  refine hK6 _ _ ?_
  refine fr_true (t := 8) h7 rfl ?_
  refine wp_seq_k ?_
  intro K8 hK8
  refine wp_seq_k ?_
  intro K9 hK9
  refine fr_region ?_
  intro ops hops
  have hg3 : (ops[3]?).bind (fun o : Oper => o.dst) = some 12 := hops 3
  clear hops
  refine St.go h7 ?_; clear h7 a7
  refine sfTo0 trivial rfl rfl ?_
  refine sbInt 0 hW3 trivial rfl rfl rfl rfl ?_
  refine sne trivial rfl rfl rfl ?_
  refine sm trivial rfl rfl ?_
  intro a10 h10
  rcases Bool.eq_false_or_eq_true (x.block != 0) with hb | hb
  ·rw [hb] at h10
   have h9 : ¬ x.block = 0 := bne_iff_ne.1 hb
   have hc11 : ¬ x.block = 0 := h9
   clear h9
   clear hb
   refine St.go h10 ?_; clear h10 a10
   refine so hg3 rfl rfl rfl rfl ?_
   refine so hg3 rfl rfl rfl rfl ?_
   refine so hg3 rfl rfl rfl rfl ?_
   refine so hg3 rfl rfl rfl rfl ?_
   refine so hg3 rfl rfl rfl rfl ?_
   refine so hg3 rfl rfl rfl rfl ?_
   refine so hg3 rfl rfl rfl rfl ?_
   refine so hg3 rfl rfl rfl rfl ?_
   refine sp trivial rfl rfl rfl ?_
   refine St.nil fun a12 h12 => ?_
   refine hK9 _ _ ?_
   refine fr_true (t := 21) h12 rfl ?_
   refine wp_seq_k ?_
   intro K13 hK13
   refine fr_region ?_
   intro ops hops
   clear hops
   refine St.go h12 ?_; clear h12 a12
   refine sa trivial rfl rfl ?_
   refine St.nil fun a14 h14 => ?_
   refine hK13 _ _ ?_
   refine wp_ret ?_
   repeat (first | with_reducible refine of_then_ret ?_ | with_reducible refine of_block_ret ?_)
   have R : x.form bl false = 4 := by have := hc11; rw [toForm_no]; split <;> omega
   exact ret_tmp (t := 6) h14 rfl rfl ⟨by rw [R], hW3.bel⟩
  ·rw [hb] at h10
   have h9 : x.block = 0 := bne_eq_false_iff_eq.1 hb
   have hc15 : Hid (x.block = 0) := h9
   clear h9
   clear hb
   refine St.go h10 ?_; clear h10 a10
   refine sfTo1 ⟨_, hg3, rfl, rfl⟩ rfl rfl ?_
   refine sbInts 0 hW3 ⟨_, hg3, rfl, rfl⟩ rfl rfl rfl rfl ?_
   refine slInts ⟨_, hg3, rfl, rfl⟩ rfl rfl ?_
   refine sfTo2 ⟨_, hg3, rfl, rfl⟩ rfl rfl ?_
   refine sbInts 0 hW3 ⟨_, hg3, rfl, rfl⟩ rfl rfl rfl rfl ?_
   refine slInts ⟨_, hg3, rfl, rfl⟩ rfl rfl ?_
   intro a16 h16
   refine fr_pure_g (t := 19) (g := 3) (tg := 12) (want := false) (v := .int .i64 ((x.regs.length + x.args.length : Nat) : Int)) (w' := w3) h16 rfl rfl hg3 rfl rfl rfl (fun K hK => ?_) ?_
   ·have k0 : a16.tmps.getD 15 undef = .int .i64 (x.regs.length : Int) := h16.sl 15 _ rfl
    have k1 : a16.tmps.getD 18 undef = .int .i64 (x.args.length : Int) := h16.sl 18 _ rfl
    have hwr : IntKind.i64.wrap ((x.regs.length : Int) + (x.args.length : Int)) = (x.regs.length : Int) + (x.args.length : Int) := wrap_add _ _ (by omega)
    go_simp
    exact hK
   clear h16; intro a17 hF17
   refine St.go hF17 ?_; clear hF17 a17
   refine sgt ⟨_, hg3, rfl, rfl⟩ rfl rfl rfl ?_
   refine spf trivial rfl rfl rfl ?_
   refine St.nil fun a18 h18 => ?_
   refine hK9 _ _ ?_
   refine fr_cond (t := 21) h18 rfl (fun hb => ?_) (fun hb => ?_)
   ·have hc19 : 0 < ((x.regs.length + x.args.length : Nat) : Int) := of_decide_eq_true hb
    clear hb
    refine wp_seq_k ?_
    intro K20 hK20
    refine fr_region ?_
    intro ops hops
    clear hops
    refine St.go h18 ?_; clear h18 a18
    refine sa trivial rfl rfl ?_
    refine St.nil fun a21 h21 => ?_
    refine hK20 _ _ ?_
    refine wp_ret ?_
    repeat (first | with_reducible refine of_then_ret ?_ | with_reducible refine of_block_ret ?_)
    have R : x.form bl false = 4 := by have := hc15.out; have := hc19; rw [toForm_no]; split <;> omega
    exact ret_tmp (t := 6) h21 rfl rfl ⟨by rw [R], hW3.bel⟩
   ·have hc22 : ¬ (0 < ((x.regs.length + x.args.length : Nat) : Int)) := of_decide_eq_false hb
    clear hb
    refine wp_skip ?_
    refine hK8 _ _ ?_
    refine wp_seq_k ?_
    intro K23 hK23
    refine fr_region ?_
    intro ops hops
    clear hops
    refine St.go h18 ?_; clear h18 a18
    refine sa trivial rfl rfl ?_
    refine St.nil fun a24 h24 => ?_
    refine hK23 _ _ ?_
    refine wp_ret ?_
    repeat (first | with_reducible refine of_then_ret ?_ | with_reducible refine of_block_ret ?_)
    have R : x.form bl false = 0 := by have := hc15.out; have := hc22; rw [toForm_no]; split <;> omega
    exact ret_tmp (t := 6) h24 rfl rfl ⟨by rw [R], hW3.bel⟩

set_option maxHeartbeats 4000000 in
set_option maxRecDepth 100000 in
theorem toFormT {x : MTo} {pR pA : Option Addr} {cR cA : Nat} {fr : Int} {fp fq fb : Option Addr} {fl fc fm fd bl fe : Nat} {w : World} (hr : x.regs.length < 2305843009213693952) (ha : x.args.length < 2305843009213693952) (hbl : bl < 2305843009213693952) :
    Rd Try.prog 62 #[.agg #[.int .i64 fr, .slice fp fl fc, .slice fq fm fd, .slice fb bl fe], .agg #[.int .i64 x.block, .slice pR x.regs.length cR, .slice pA x.args.length cA], .bool true] w (.int .i64 (x.form bl true)) := by
  refine fr_enter (n := 43) Try.func62 rfl rfl rfl ?_
  intro a hF
  have hW := Wd.start w
  replace hF : Fr 43 a [(0, .agg #[.int .i64 fr, .slice fp fl fc, .slice fq fm fd, .slice fb bl fe]), (1, .agg #[.int .i64 x.block, .slice pR x.regs.length cR, .slice pA x.args.length cA]), (2, .bool true)] := hF
  refine wp_seq_k ?_
  intro K1 hK1
  refine fr_region ?_
  intro ops hops
  clear hops
  refine St.go hF ?_; clear hF a
  refine sB hW trivial rfl rfl ?_
  clear hW; intro w2 B2 hW2 hN; clear hN
  refine sB hW2 trivial rfl rfl ?_
  clear hW2; intro w3 B3 hW3 hN; clear hN
  refine sa trivial rfl rfl ?_
  refine St.nil fun a4 h4 => ?_
  refine hK1 _ _ ?_
  refine wp_seq_k ?_
  intro K5 hK5
  refine wp_seq_k ?_
  intro K6 hK6
  refine fr_region ?_
  intro ops hops
  clear hops
  refine St.go h4 ?_; clear h4 a4
  refine sm trivial rfl rfl ?_
  refine sn trivial rfl rfl ?_
  refine St.nil fun a7 h7 => ?_
  refine hK6 _ _ ?_
  refine fr_false (t := 8) h7 rfl ?_
  refine wp_skip ?_
  refine hK5 _ _ ?_
  refine wp_seq_k ?_
  intro K8 hK8
  refine wp_seq_k ?_
  intro K9 hK9
  refine fr_region ?_
  intro ops hops
  have hg3 : (ops[3]?).bind (fun o : Oper => o.dst) = some 25 := hops 3
  clear hops
  refine St.go h7 ?_; clear h7 a7
  refine sfTo0 trivial rfl rfl ?_
  refine sbInt 0 hW3 trivial rfl rfl rfl rfl ?_
  refine slt trivial rfl rfl rfl ?_
  refine sm trivial rfl rfl ?_
  intro a10 h10
  rcases Bool.eq_false_or_eq_true (decide (x.block < 0)) with hb | hb
  ·rw [hb] at h10
   have hc11 : x.block < 0 := of_decide_eq_true hb
   clear hb
   refine St.go h10 ?_; clear h10 a10
   refine so hg3 rfl rfl rfl rfl ?_
   refine so hg3 rfl rfl rfl rfl ?_
   refine so hg3 rfl rfl rfl rfl ?_
   refine so hg3 rfl rfl rfl rfl ?_
   refine so hg3 rfl rfl rfl rfl ?_
   refine so hg3 rfl rfl rfl rfl ?_
   refine sp trivial rfl rfl rfl ?_
   refine St.nil fun a12 h12 => ?_
   refine hK9 _ _ ?_
   refine fr_true (t := 32) h12 rfl ?_
   refine wp_seq_k ?_
   intro K13 hK13
   refine fr_region ?_
   intro ops hops
   clear hops
   refine St.go h12 ?_; clear h12 a12
   refine sa trivial rfl rfl ?_
   refine St.nil fun a14 h14 => ?_
   refine hK13 _ _ ?_
   refine wp_ret ?_
   repeat (first | with_reducible refine of_then_ret ?_ | with_reducible refine of_block_ret ?_)
   have R : x.form bl true = 1 := by simp [MTo.form, hc11]
   exact ret_tmp (t := 6) h14 rfl rfl ⟨by rw [R], hW3.bel⟩
  ·rw [hb] at h10
   have hc15 : ¬ (x.block < 0) := of_decide_eq_false hb
   clear hb
   refine St.go h10 ?_; clear h10 a10
   refine sfTo0 ⟨_, hg3, rfl, rfl⟩ rfl rfl ?_
   refine sbInt 0 hW3 ⟨_, hg3, rfl, rfl⟩ rfl rfl rfl rfl ?_
   refine sfFunc3 ⟨_, hg3, rfl, rfl⟩ rfl rfl ?_
   refine sbBlocks 1 hW3 ⟨_, hg3, rfl, rfl⟩ rfl rfl rfl rfl ?_
   refine slBlocks ⟨_, hg3, rfl, rfl⟩ rfl rfl ?_
   refine sge ⟨_, hg3, rfl, rfl⟩ rfl rfl rfl ?_
   refine spf trivial rfl rfl rfl ?_
   refine St.nil fun a16 h16 => ?_
   refine hK9 _ _ ?_
   refine fr_cond (t := 32) h16 rfl (fun hb => ?_) (fun hb => ?_)
   ·have hc17 : (bl : Int) ≤ x.block := of_decide_eq_true hb
    clear hb
    refine wp_seq_k ?_
    intro K18 hK18
    refine fr_region ?_
    intro ops hops
    clear hops
    refine St.go h16 ?_; clear h16 a16
    refine sa trivial rfl rfl ?_
    refine St.nil fun a19 h19 => ?_
    refine hK18 _ _ ?_
    refine wp_ret ?_
    repeat (first | with_reducible refine of_then_ret ?_ | with_reducible refine of_block_ret ?_)
    have R : x.form bl true = 1 := by simp [MTo.form, hc15, hc17]
    exact ret_tmp (t := 6) h19 rfl rfl ⟨by rw [R], hW3.bel⟩
   ·have hc20 : ¬ ((bl : Int) ≤ x.block) := of_decide_eq_false hb
    clear hb
    refine wp_skip ?_
    refine hK8 _ _ ?_
    refine wp_seq_k ?_
    intro K21 hK21
    refine wp_seq_k ?_
    intro K22 hK22
    refine fr_region ?_
    intro ops hops
    have hg4 : (ops[4]?).bind (fun o : Oper => o.dst) = some 37 := hops 4
    clear hops
    refine St.go h16 ?_; clear h16 a16
    refine sfTo1 trivial rfl rfl ?_
    refine sbInts 0 hW3 trivial rfl rfl rfl rfl ?_
    refine slInts trivial rfl rfl ?_
    refine sgt trivial rfl rfl rfl ?_
    refine sm trivial rfl rfl ?_
    intro a23 h23
    rcases Bool.eq_false_or_eq_true (decide (16 < (x.regs.length : Int))) with hb | hb
    ·rw [hb] at h23
     have hc24 : 16 < x.regs.length := by have := of_decide_eq_true hb; omega
     clear hb
     refine St.go h23 ?_; clear h23 a23
     refine so hg4 rfl rfl rfl rfl ?_
     refine so hg4 rfl rfl rfl rfl ?_
     refine so hg4 rfl rfl rfl rfl ?_
     refine so hg4 rfl rfl rfl rfl ?_
     refine sp trivial rfl rfl rfl ?_
     refine St.nil fun a25 h25 => ?_
     refine hK22 _ _ ?_
     refine fr_true (t := 42) h25 rfl ?_
     refine wp_seq_k ?_
     intro K26 hK26
     refine fr_region ?_
     intro ops hops
     clear hops
     refine St.go h25 ?_; clear h25 a25
     refine sa trivial rfl rfl ?_
     refine St.nil fun a27 h27 => ?_
     refine hK26 _ _ ?_
     refine wp_ret ?_
     repeat (first | with_reducible refine of_then_ret ?_ | with_reducible refine of_block_ret ?_)
     have R : x.form bl true = 2 := by simp [MTo.form, hc15, hc20, hc24]
     exact ret_tmp (t := 6) h27 rfl rfl ⟨by rw [R], hW3.bel⟩
    ·rw [hb] at h23
     have hc28 : ¬ (16 < x.regs.length) := by have := of_decide_eq_false hb; omega
     clear hb
     refine St.go h23 ?_; clear h23 a23
     refine sfTo2 ⟨_, hg4, rfl, rfl⟩ rfl rfl ?_
     refine sbInts 0 hW3 ⟨_, hg4, rfl, rfl⟩ rfl rfl rfl rfl ?_
     refine slInts ⟨_, hg4, rfl, rfl⟩ rfl rfl ?_
     refine sgt ⟨_, hg4, rfl, rfl⟩ rfl rfl rfl ?_
     refine spf trivial rfl rfl rfl ?_
     refine St.nil fun a29 h29 => ?_
     refine hK22 _ _ ?_
     refine fr_cond (t := 42) h29 rfl (fun hb => ?_) (fun hb => ?_)
     ·have hc30 : 8 < x.args.length := by have := of_decide_eq_true hb; omega
      clear hb
      refine wp_seq_k ?_
      intro K31 hK31
      refine fr_region ?_
      intro ops hops
      clear hops
      refine St.go h29 ?_; clear h29 a29
      refine sa trivial rfl rfl ?_
      refine St.nil fun a32 h32 => ?_
      refine hK31 _ _ ?_
      refine wp_ret ?_
      repeat (first | with_reducible refine of_then_ret ?_ | with_reducible refine of_block_ret ?_)
      have R : x.form bl true = 2 := by simp [MTo.form, hc15, hc20, hc28, hc30]
      exact ret_tmp (t := 6) h32 rfl rfl ⟨by rw [R], hW3.bel⟩
     ·have hc33 : ¬ (8 < x.args.length) := by have := of_decide_eq_false hb; omega
      clear hb
      refine wp_skip ?_
      refine hK21 _ _ ?_
      refine wp_seq_k ?_
      intro K34 hK34
      refine fr_region ?_
      intro ops hops
      clear hops
      refine St.go h29 ?_; clear h29 a29
      refine sa trivial rfl rfl ?_
      refine St.nil fun a35 h35 => ?_
      refine hK34 _ _ ?_
      refine wp_ret ?_
      repeat (first | with_reducible refine of_then_ret ?_ | with_reducible refine of_block_ret ?_)
      have R : x.form bl true = 0 := by simp [MTo.form, hc15, hc20, hc28, hc33]
      exact ret_tmp (t := 6) h35 rfl rfl ⟨by rw [R], hW3.bel⟩
theorem toForm_any {x : MTo} {pR pA : Option Addr} {cR cA : Nat} {fr : Int} {fp fq fb : Option Addr} {fl fc fm fd bl fe : Nat} (has : Bool) {w : World} (hr : x.regs.length < 2305843009213693952) (ha : x.args.length < 2305843009213693952) (hbl : bl < 2305843009213693952) :
    Rd Try.prog 62 #[.agg #[.int .i64 fr, .slice fp fl fc, .slice fq fm fd, .slice fb bl fe], .agg #[.int .i64 x.block, .slice pR x.regs.length cR, .slice pA x.args.length cA], .bool has] w (.int .i64 (x.form bl has)) := by
  cases has
  · exact toFormF hr ha hbl
  · exact toFormT hr ha hbl

set_option maxHeartbeats 4000000 in
set_option maxRecDepth 100000 in
theorem toCodeF {x : MTo} {pR pA : Option Addr} {cR cA : Nat} {fr : Int} {fp fq fb : Option Addr} {fl fc fm fd bl fe : Nat} {w : World} (hr : x.regs.length < 2305843009213693952) (ha : x.args.length < 2305843009213693952) (hbl : bl < 2305843009213693952) :
    Rd Try.prog 61 #[.agg #[.int .i64 fr, .slice fp fl fc, .slice fq fm fd, .slice fb bl fe], .agg #[.int .i64 x.block, .slice pR x.regs.length cR, .slice pA x.args.length cA], .bool false] w (.int .i64 (x.form bl false)) := by
  refine fr_enter (n := 40) Try.func61 rfl rfl rfl ?_
  intro a hF
  have hW := Wd.start w
  replace hF : Fr 40 a [(0, .agg #[.int .i64 fr, .slice fp fl fc, .slice fq fm fd, .slice fb bl fe]), (1, .agg #[.int .i64 x.block, .slice pR x.regs.length cR, .slice pA x.args.length cA]), (2, .bool false)] := hF
  refine wp_seq_k ?_
  intro K1 hK1
  refine fr_region ?_
  intro ops hops
  clear hops
  refine St.go hF ?_; clear hF a
  refine sB hW trivial rfl rfl ?_
  clear hW; intro w2 B2 hW2 hN; clear hN
  refine sB hW2 trivial rfl rfl ?_
  clear hW2; intro w3 B3 hW3 hN; clear hN
  refine sa trivial rfl rfl ?_
  refine St.nil fun a4 h4 => ?_
  refine hK1 _ _ ?_
  refine wp_seq_k ?_
  intro K5 hK5
  refine wp_seq_k ?_
  intro K6 hK6
  refine fr_region ?_
  intro ops hops
  clear hops
  refine St.go h4 ?_; clear h4 a4
  refine sm trivial rfl rfl ?_
  refine sn trivial rfl rfl ?_
  refine St.nil fun a7 h7 => ?_
  refine hK6 _ _ ?_
  refine fr_true (t := 9) h7 rfl ?_
  refine wp_seq_k ?_
  intro K8 hK8
  refine wp_seq_k ?_
  intro K9 hK9
  refine fr_region ?_
  intro ops hops
  have hg3 : (ops[3]?).bind (fun o : Oper => o.dst) = some 13 := hops 3
  have hg9 : (ops[9]?).bind (fun o : Oper => o.dst) = some 19 := hops 9
  clear hops
  refine St.go h7 ?_; clear h7 a7
  refine sfTo0 trivial rfl rfl ?_
  refine sbInt 0 hW3 trivial rfl rfl rfl rfl ?_
  refine sne trivial rfl rfl rfl ?_
  refine sm trivial rfl rfl ?_
  intro a10 h10
  rcases Bool.eq_false_or_eq_true (x.block != 0) with hb | hb
  ·rw [hb] at h10
   have h9 : ¬ x.block = 0 := bne_iff_ne.1 hb
   have hc11 : ¬ x.block = 0 := h9
   clear h9
   clear hb
   refine St.go h10 ?_; clear h10 a10
   refine so hg3 rfl rfl rfl rfl ?_
   refine so hg3 rfl rfl rfl rfl ?_
   refine so hg3 rfl rfl rfl rfl ?_
   refine so hg3 rfl rfl rfl rfl ?_
   refine sp trivial rfl rfl rfl ?_
   refine sm trivial rfl rfl ?_
   refine so hg9 rfl rfl rfl rfl ?_
   refine so hg9 rfl rfl rfl rfl ?_
   refine so hg9 rfl rfl rfl rfl ?_
   refine so hg9 rfl rfl rfl rfl ?_
   refine sp trivial rfl rfl rfl ?_
   refine St.nil fun a12 h12 => ?_
   refine hK9 _ _ ?_
   refine fr_true (t := 24) h12 rfl ?_
   refine wp_seq_k ?_
   intro K13 hK13
   refine fr_region ?_
   intro ops hops
   clear hops
   refine St.go h12 ?_; clear h12 a12
   refine sa trivial rfl rfl ?_
   refine St.nil fun a14 h14 => ?_
   refine hK13 _ _ ?_
   refine wp_ret ?_
   repeat (first | with_reducible refine of_then_ret ?_ | with_reducible refine of_block_ret ?_)
   have R : x.form bl false = 4 := by have := hc11; rw [toForm_no]; split <;> omega
   exact ret_tmp (t := 6) h14 rfl rfl ⟨by rw [R], hW3.bel⟩
  ·rw [hb] at h10
   have h9 : x.block = 0 := bne_eq_false_iff_eq.1 hb
   have hc15 : Hid (x.block = 0) := h9
   clear h9
   clear hb
   refine St.go h10 ?_; clear h10 a10
   refine sfTo1 ⟨_, hg3, rfl, rfl⟩ rfl rfl ?_
   refine sbInts 0 hW3 ⟨_, hg3, rfl, rfl⟩ rfl rfl rfl rfl ?_
   refine slInts ⟨_, hg3, rfl, rfl⟩ rfl rfl ?_
   refine sgt ⟨_, hg3, rfl, rfl⟩ rfl rfl rfl ?_
   refine spf trivial rfl rfl rfl ?_
   refine sm trivial rfl rfl ?_
   intro a16 h16
   rcases Bool.eq_false_or_eq_true (decide (0 < (x.regs.length : Int))) with hb | hb
   ·rw [hb] at h16
    have hc17 : 0 < x.regs.length := by have := of_decide_eq_true hb; omega
    clear hb
    refine St.go h16 ?_; clear h16 a16
    refine so hg9 rfl rfl rfl rfl ?_
    refine so hg9 rfl rfl rfl rfl ?_
    refine so hg9 rfl rfl rfl rfl ?_
    refine so hg9 rfl rfl rfl rfl ?_
    refine sp trivial rfl rfl rfl ?_
    refine St.nil fun a18 h18 => ?_
    refine hK9 _ _ ?_
    refine fr_true (t := 24) h18 rfl ?_
    refine wp_seq_k ?_
    intro K19 hK19
    refine fr_region ?_
    intro ops hops
    clear hops
    refine St.go h18 ?_; clear h18 a18
    refine sa trivial rfl rfl ?_
    refine St.nil fun a20 h20 => ?_
    refine hK19 _ _ ?_
    refine wp_ret ?_
    repeat (first | with_reducible refine of_then_ret ?_ | with_reducible refine of_block_ret ?_)
    have R : x.form bl false = 4 := by have := hc15.out; have := hc17; rw [toForm_no]; split <;> omega
    exact ret_tmp (t := 6) h20 rfl rfl ⟨by rw [R], hW3.bel⟩
   ·rw [hb] at h16
    have hc21 : ¬ (0 < x.regs.length) := by have := of_decide_eq_false hb; omega
    clear hb
    refine St.go h16 ?_; clear h16 a16
    refine sfTo2 ⟨_, hg9, rfl, rfl⟩ rfl rfl ?_
    refine sbInts 0 hW3 ⟨_, hg9, rfl, rfl⟩ rfl rfl rfl rfl ?_
    refine slInts ⟨_, hg9, rfl, rfl⟩ rfl rfl ?_
    refine sgt ⟨_, hg9, rfl, rfl⟩ rfl rfl rfl ?_
    refine spf trivial rfl rfl rfl ?_
    refine St.nil fun a22 h22 => ?_
    refine hK9 _ _ ?_
    refine fr_cond (t := 24) h22 rfl (fun hb => ?_) (fun hb => ?_)
    ·have hc23 : 0 < x.args.length := by have := of_decide_eq_true hb; omega
     clear hb
     refine wp_seq_k ?_
     intro K24 hK24
     refine fr_region ?_
     intro ops hops
     clear hops
     refine St.go h22 ?_; clear h22 a22
     refine sa trivial rfl rfl ?_
     refine St.nil fun a25 h25 => ?_
     refine hK24 _ _ ?_
     refine wp_ret ?_
     repeat (first | with_reducible refine of_then_ret ?_ | with_reducible refine of_block_ret ?_)
     have R : x.form bl false = 4 := by have := hc15.out; have := hc21; have := hc23; rw [toForm_no]; split <;> omega
     exact ret_tmp (t := 6) h25 rfl rfl ⟨by rw [R], hW3.bel⟩
    ·have hc26 : ¬ (0 < x.args.length) := by have := of_decide_eq_false hb; omega
     clear hb
     refine wp_skip ?_
     refine hK8 _ _ ?_
     refine wp_seq_k ?_
     intro K27 hK27
     refine fr_region ?_
     intro ops hops
     clear hops
     refine St.go h22 ?_; clear h22 a22
     refine sa trivial rfl rfl ?_
     refine St.nil fun a28 h28 => ?_
     refine hK27 _ _ ?_
     refine wp_ret ?_
     repeat (first | with_reducible refine of_then_ret ?_ | with_reducible refine of_block_ret ?_)
     have R : x.form bl false = 0 := by have := hc15.out; have := hc21; have := hc26; rw [toForm_no]; split <;> omega
     exact ret_tmp (t := 6) h28 rfl rfl ⟨by rw [R], hW3.bel⟩

set_option maxHeartbeats 4000000 in
set_option maxRecDepth 100000 in
theorem toCodeT {x : MTo} {pR pA : Option Addr} {cR cA : Nat} {fr : Int} {fp fq fb : Option Addr} {fl fc fm fd bl fe : Nat} {w : World} (hr : x.regs.length < 2305843009213693952) (ha : x.args.length < 2305843009213693952) (hbl : bl < 2305843009213693952) :
    Rd Try.prog 61 #[.agg #[.int .i64 fr, .slice fp fl fc, .slice fq fm fd, .slice fb bl fe], .agg #[.int .i64 x.block, .slice pR x.regs.length cR, .slice pA x.args.length cA], .bool true] w (.int .i64 (x.form bl true)) := by
  refine fr_enter (n := 40) Try.func61 rfl rfl rfl ?_
  intro a hF
  have hW := Wd.start w
  replace hF : Fr 40 a [(0, .agg #[.int .i64 fr, .slice fp fl fc, .slice fq fm fd, .slice fb bl fe]), (1, .agg #[.int .i64 x.block, .slice pR x.regs.length cR, .slice pA x.args.length cA]), (2, .bool true)] := hF
  refine wp_seq_k ?_
  intro K1 hK1
  refine fr_region ?_
  intro ops hops
  clear hops
  refine St.go hF ?_; clear hF a
  refine sB hW trivial rfl rfl ?_
  clear hW; intro w2 B2 hW2 hN; clear hN
  refine sB hW2 trivial rfl rfl ?_
  clear hW2; intro w3 B3 hW3 hN; clear hN
  refine sa trivial rfl rfl ?_
  refine St.nil fun a4 h4 => ?_
  refine hK1 _ _ ?_
  refine wp_seq_k ?_
  intro K5 hK5
  refine wp_seq_k ?_
  intro K6 hK6
  refine fr_region ?_
  intro ops hops
  clear hops
  refine St.go h4 ?_; clear h4 a4
  refine sm trivial rfl rfl ?_
  refine sn trivial rfl rfl ?_
  refine St.nil fun a7 h7 => ?_
  refine hK6 _ _ ?_
  refine fr_false (t := 9) h7 rfl ?_
  refine wp_skip ?_
  refine hK5 _ _ ?_
  refine wp_seq_k ?_
  intro K8 hK8
  refine wp_seq_k ?_
  intro K9 hK9
  refine fr_region ?_
  intro ops hops
  clear hops
  refine St.go h7 ?_; clear h7 a7
  refine sfTo0 trivial rfl rfl ?_
  refine sbInt 0 hW3 trivial rfl rfl rfl rfl ?_
  refine sfFunc3 trivial rfl rfl ?_
  refine sbBlocks 1 hW3 trivial rfl rfl rfl rfl ?_
  refine slBlocks trivial rfl rfl ?_
  intro a10 h10
  refine fr_pure (t := 30) (v := .int .i64 ((bl : Int) - 1)) (w' := w3) h10 rfl rfl rfl (fun K hK => ?_) ?_
  ·have k0 : a10.tmps.getD 29 undef = .int .i64 (bl : Int) := h10.sl 29 _ rfl
   have hwr : IntKind.i64.wrap ((bl : Int) - 1) = (bl : Int) - 1 := wrap_pred _ (by omega)
   go_simp
   exact hK
  clear h10; intro a11 hF11
  refine St.go hF11 ?_; clear hF11 a11
  refine sc_3 cf86 hW3 (rangeCode_any) trivial rfl rfl rfl rfl ?_
  clear hW3; intro w12 hW12
  refine sa trivial rfl rfl ?_
  refine St.nil fun a13 h13 => ?_
  refine hK9 _ _ ?_
  refine wp_seq_k ?_
  intro K14 hK14
  refine fr_region ?_
  intro ops hops
  clear hops
  refine St.go h13 ?_; clear h13 a13
  refine sm trivial rfl rfl ?_
  refine sne trivial rfl rfl rfl ?_
  refine St.nil fun a15 h15 => ?_
  refine hK14 _ _ ?_
  refine fr_cond (t := 33) h15 rfl (fun hb => ?_) (fun hb => ?_)
  ·have h9 : ¬ (rangeC x.block 0 ((bl : Int) - 1)) = 0 := bne_iff_ne.1 hb
   have hc16 : ¬ (rangeC x.block 0 ((bl : Int) - 1)) = 0 := h9
   clear h9
   clear hb
   refine wp_seq_k ?_
   intro K17 hK17
   refine fr_region ?_
   intro ops hops
   clear hops
   refine St.go h15 ?_; clear h15 a15
   refine sm trivial rfl rfl ?_
   refine sa trivial rfl rfl ?_
   refine St.nil fun a18 h18 => ?_
   refine hK17 _ _ ?_
   refine wp_ret ?_
   repeat (first | with_reducible refine of_then_ret ?_ | with_reducible refine of_block_ret ?_)
   have R : x.form bl true = rangeC x.block 0 ((bl : Int) - 1) := by simp [toForm_eq, hc16]
   exact ret_tmp (t := 6) h18 rfl rfl ⟨by rw [R], hW12.bel⟩
  ·have h9 : (rangeC x.block 0 ((bl : Int) - 1)) = 0 := bne_eq_false_iff_eq.1 hb
   have hc19 : Hid ((rangeC x.block 0 ((bl : Int) - 1)) = 0) := h9
   clear h9
   clear hb
   refine wp_skip ?_
   refine hK8 _ _ ?_
   refine wp_seq_k ?_
   intro K20 hK20
   refine fr_region ?_
   intro ops hops
   clear hops
   refine St.go h15 ?_; clear h15 a15
   refine sfTo1 trivial rfl rfl ?_
   refine sbInts 0 hW12 trivial rfl rfl rfl rfl ?_
   refine sfTo2 trivial rfl rfl ?_
   refine sbInts 0 hW12 trivial rfl rfl rfl rfl ?_
   refine sc_3 cf88 hW12 (handedCode_any) trivial rfl rfl rfl rfl ?_
   clear hW12; intro w21 hW21
   refine sa trivial rfl rfl ?_
   refine St.nil fun a22 h22 => ?_
   refine hK20 _ _ ?_
   refine wp_ret ?_
   repeat (first | with_reducible refine of_then_ret ?_ | with_reducible refine of_block_ret ?_)
   have R : x.form bl true = handedC x.regs.length 16 x.args.length := by simp [toForm_eq, hc19.out]
   exact ret_tmp (t := 6) h22 rfl rfl ⟨by rw [R], hW21.bel⟩
theorem toCode_any {x : MTo} {pR pA : Option Addr} {cR cA : Nat} {fr : Int} {fp fq fb : Option Addr} {fl fc fm fd bl fe : Nat} (has : Bool) {w : World} (hr : x.regs.length < 2305843009213693952) (ha : x.args.length < 2305843009213693952) (hbl : bl < 2305843009213693952) :
    Rd Try.prog 61 #[.agg #[.int .i64 fr, .slice fp fl fc, .slice fq fm fd, .slice fb bl fe], .agg #[.int .i64 x.block, .slice pR x.regs.length cR, .slice pA x.args.length cA], .bool has] w (.int .i64 (x.form bl has)) := by
  cases has
  · exact toCodeF hr ha hbl
  · exact toCodeT hr ha hbl
end Go.Proofs.Ytmnmnokkojcodab
