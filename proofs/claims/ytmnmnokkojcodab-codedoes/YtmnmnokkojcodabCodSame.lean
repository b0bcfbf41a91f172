/-
  Are two modules one? The plain parts: equal by their fields; what is no more than is gone through in time.
-/
import Derived.Test.YtmnmnokkojcodabFrD
import Derived.Test.YtmnmnokkojcodabFrQ
import Derived.Test.YtmnmnokkojcodabCodMem
import Derived.Test.YtmnmnokkojcodabCodInts
import Derived.Test.YtmnmnokkojcodabTypSame2
namespace Go.Proofs.Ytmnmnokkojcodab
open Go.ChangeShapes Go.WideShapes Go.ChangeAt Go.RowKit
set_option linter.unusedVariables false
set_option linter.unusedSimpArgs false

theorem MTo.eq_of {x y : MTo} (h1 : x.block = y.block) (h2 : x.regs = y.regs) (h3 : x.args = y.args) : x = y := by cases x; cases y; simp_all
theorem MIns.eq_of {x y : MIns} (h1 : x.op = y.op) (h2 : x.a = y.a) (h3 : x.b = y.b) (h4 : x.c = y.c) (h5 : x.k = y.k) (h6 : x.n = y.n) (h7 : x.regs = y.regs) (h8 : x.args = y.args) : x = y := by cases x; cases y; simp_all
theorem MEnd.eq_of {x y : MEnd} (h1 : x.op = y.op) (h2 : x.a = y.a) (h3 : x.yes = y.yes) (h4 : x.no = y.no) (h5 : x.args = y.args) : x = y := by cases x; cases y; simp_all
theorem MBlock.eq_of {n : Nat} {x y : MBlock n} (h1 : x.regs = y.regs) (h2 : x.params = y.params) (h3 : x.code = y.code) (h4 : x.fin = y.fin) : x = y := by cases x; cases y; simp_all
theorem MFunc.eq_of {n : Nat} {x y : MFunc n} (h1 : x.regs = y.regs) (h2 : x.params = y.params) (h3 : x.results = y.results) (h4 : x.blocks = y.blocks) : x = y := by cases x; cases y; simp_all
theorem bdec_congr {A B : Prop} (h : A ↔ B) : bdec A = bdec B := by rw [propext h]
/-- No more than is gone through in time. -/
def MTo.small (x : MTo) : Prop := x.regs.length ≤ 300 ∧ x.args.length ≤ 300
def MIns.small (x : MIns) : Prop := x.regs.length ≤ 300 ∧ x.args.length ≤ 300
def MEnd.small (x : MEnd) : Prop := x.yes.small ∧ x.no.small ∧ x.args.length ≤ 300
def tsmall {n : Nat} (l : List (TT n)) : Prop := l.length ≤ 200 ∧ ∀ t ∈ l, t.count ≤ 2000
def MBlock.small {n : Nat} (x : MBlock n) : Prop := x.code.length ≤ 200 ∧ tsmall x.params ∧ x.fin.small ∧ ∀ y ∈ x.code, y.small
def MFunc.small {n : Nat} (x : MFunc n) : Prop := x.blocks.length ≤ 30 ∧ tsmall x.params ∧ tsmall x.results ∧ ∀ y ∈ x.blocks, y.small
def msmall {n : Nat} (m : List (MFunc n)) : Prop := m.length ≤ 20 ∧ ∀ x ∈ m, x.small
theorem tsmall_of {n : Nat} {l : List (TT n)} (h : ¬ greatTs l) : tsmall l := ⟨Nat.le_of_not_lt fun x => h (.inl x), fun t ht => Nat.le_of_not_lt fun x => h (.inr ⟨t, ht, x⟩)⟩
theorem MBlock.small_of {n : Nat} {x : MBlock n} (h : ¬ x.great) : x.small := by
  unfold MBlock.great at h
  simp only [not_or, not_exists, not_and, Nat.not_lt] at h
  obtain ⟨h1, h2, h3, h4, h5, h6, h7, h8⟩ := h
  exact ⟨h1, tsmall_of h2, ⟨⟨h4, h5⟩, ⟨h6, h7⟩, h3⟩, fun y hy => h8 y hy⟩
theorem MFunc.small_of {n : Nat} {x : MFunc n} (h : ¬ x.great) : x.small := by
  unfold MFunc.great at h
  simp only [not_or, not_exists, not_and, Nat.not_lt] at h
  obtain ⟨h1, h2, h3, h4⟩ := h
  exact ⟨h1, tsmall_of h2, tsmall_of h3, fun y hy => MBlock.small_of (h4 y hy)⟩
theorem msmall_of {n : Nat} {m : List (MFunc n)} (h : ¬ greatMod m) : msmall m := by
  unfold greatMod at h
  simp only [not_or, not_exists, not_and, Nat.not_lt] at h
  exact ⟨h.1, fun x hx => MFunc.small_of (h.2 x hx)⟩
theorem rd_says {f : FuncId} {args : Array Value} {w : World} {A : Prop} (h : Calls Try.prog f args w fun e w' => SaysEq e A ∧ Below w.heap.size w w') : Rd Try.prog f args w (.bool (bdec A)) :=
  h.mono fun e w' h => by
    obtain ⟨⟨q, rfl, hq⟩, b⟩ := h
    exact ⟨by rw [bdec_of hq], b⟩
/-- Two lists of types. -/
theorem sameTypes_any {n : Nat} {l m : List (TT n)} {p q : Option Addr} {c d : Nat} {w : World} (hl : (typesL n).In w All l [.slice p l.length c]) (hm : (typesL n).In w All m [.slice q m.length d]) (hs : tsmall l) : Rd Try.prog 51 #[.slice p l.length c, .slice q m.length d] w (.bool (bdec (l = m))) :=
  rd_says (sames_any n (samet_any n) l m p q c d w (types_lin hl).1 (types_lin hm).1 (by have := hs.1; omega) hs.2)
theorem eqTypes_any {n : Nat} {l m : List (TT n)} {p q : Option Addr} {c d : Nat} {w : World} (hl : (typesL n).In w All l [.slice p l.length c]) (hm : (typesL n).In w All m [.slice q m.length d]) (hs : tsmall l) : Rd Try.prog 82 #[.slice p l.length c, .slice q m.length d, .func (.func 83) #[] #[]] w (.bool (bdec (l = m))) :=
  rd_says (eqf_any n (same_any n) l m p q c d w (types_lin hl).1 (types_lin hm).1 (by have := hs.1; omega) hs.2)

set_option maxHeartbeats 4000000 in
set_option maxRecDepth 100000 in
theorem sameTo_any {x y : MTo} {pR pA qR qA : Option Addr} {cR cA dR dA : Nat} {w : World} (hx0 : TIn2 w All x pR cR pA cA) (hy0 : TIn2 w All y qR dR qA dA) (hs0 : x.small) :
    Rd Try.prog 77 #[.agg #[.int .i64 x.block, .slice pR x.regs.length cR, .slice pA x.args.length cA], .agg #[.int .i64 y.block, .slice qR y.regs.length dR, .slice qA y.args.length dA]] w (.bool (bdec (x = y))) := by
  have hx : Hid _ := hx0
  have hy : Hid _ := hy0
  have hs : Hid _ := hs0
  clear hx0 hy0 hs0
  refine fr_enter (n := 24) Try.func77 rfl rfl rfl ?_
  intro a hF
  have hW := Wd.start w
  replace hF : Fr 24 a [(0, .agg #[.int .i64 x.block, .slice pR x.regs.length cR, .slice pA x.args.length cA]), (1, .agg #[.int .i64 y.block, .slice qR y.regs.length dR, .slice qA y.args.length dA])] := hF
  refine wp_seq_k ?_
  intro K1 hK1
  refine fr_region ?_
  intro ops hops
  clear hops
  refine St.go hF ?_; clear hF a
  refine sB hW trivial rfl rfl ?_
  clear hW; intro w2 B2 hW2 hN; clear hN
  refine sB hW2 trivial rfl rfl ?_
  clear hW2; intro w3 B3 hW3 hN; clear hN
  refine sa trivial rfl rfl ?_
  refine St.nil fun a4 h4 => ?_
  refine hK1 _ _ ?_
  refine wp_seq_k ?_
  intro K5 hK5
  refine fr_region ?_
  intro ops hops
  have hg5 : (ops[5]?).bind (fun o : Oper => o.dst) = some 10 := hops 5
  have hg12 : (ops[12]?).bind (fun o : Oper => o.dst) = some 17 := hops 12
  clear hops
  refine St.go h4 ?_; clear h4 a4
  refine sfTo0 trivial rfl rfl ?_
  refine sbInt 1 hW3 trivial rfl rfl rfl rfl ?_
  refine sfTo0 trivial rfl rfl ?_
  refine sbInt 0 hW3 trivial rfl rfl rfl rfl ?_
  refine seq trivial rfl rfl rfl ?_
  refine sm trivial rfl rfl ?_
  intro a6 h6
  rcases Bool.eq_false_or_eq_true (x.block == y.block) with hb | hb
  ·rw [hb] at h6
   have h9 : x.block = y.block := eq_of_beq hb
   have hc7 : Hid (x.block = y.block) := h9
   clear h9
   clear hb
   refine St.go h6 ?_; clear h6 a6
   refine sfTo1 ⟨_, hg5, rfl, rfl⟩ rfl rfl ?_
   refine sbInts 1 hW3 ⟨_, hg5, rfl, rfl⟩ rfl rfl rfl rfl ?_
   refine sfTo1 ⟨_, hg5, rfl, rfl⟩ rfl rfl ?_
   refine sbInts 0 hW3 ⟨_, hg5, rfl, rfl⟩ rfl rfl rfl rfl ?_
   refine sc_2 cf32 hW3 (sameInts_any x.regs y.regs pR qR cR dR w3 (Lay.below hx.out.regs hW3.bel) (Lay.below hy.out.regs hW3.bel) (by have := hs.out.1; omega)) ⟨_, hg5, rfl, rfl⟩ rfl rfl rfl ?_
   clear hW3; intro w8 hW8
   refine sp trivial rfl rfl rfl ?_
   refine sm trivial rfl rfl ?_
   intro a9 h9
   rcases Bool.eq_false_or_eq_true (bdec (x.regs = y.regs)) with hb | hb
   ·rw [hb] at h9
    have hc10 : (x.regs = y.regs) := bdec_iff.1 hb
    clear hb
    refine St.go h9 ?_; clear h9 a9
    refine sfTo2 ⟨_, hg12, rfl, rfl⟩ rfl rfl ?_
    refine sbInts 1 hW8 ⟨_, hg12, rfl, rfl⟩ rfl rfl rfl rfl ?_
    refine sfTo2 ⟨_, hg12, rfl, rfl⟩ rfl rfl ?_
    refine sbInts 0 hW8 ⟨_, hg12, rfl, rfl⟩ rfl rfl rfl rfl ?_
    refine sc_2 cf32 hW8 (sameInts_any x.args y.args pA qA cA dA w8 (Lay.below hx.out.args hW8.bel) (Lay.below hy.out.args hW8.bel) (by have := hs.out.2; omega)) ⟨_, hg12, rfl, rfl⟩ rfl rfl rfl ?_
    clear hW8; intro w11 hW11
    refine sp trivial rfl rfl rfl ?_
    refine sa trivial rfl rfl ?_
    refine St.nil fun a12 h12 => ?_
    refine hK5 _ _ ?_
    refine wp_ret ?_
    repeat (first | with_reducible refine of_then_ret ?_ | with_reducible refine of_block_ret ?_)
    have R : x.args = y.args ↔ x = y := ⟨fun h => MTo.eq_of hc7.out hc10 h, fun e => by rw [e]⟩
    exact ret_tmp (t := 4) h12 rfl rfl ⟨by rw [bdec_congr R], hW11.bel⟩
   ·rw [hb] at h9
    have hc13 : ¬ (x.regs = y.regs) := fun h => by rw [bdec_true h] at hb; cases hb
    clear hb
    refine St.go h9 ?_; clear h9 a9
    refine so hg12 rfl rfl rfl rfl ?_
    refine so hg12 rfl rfl rfl rfl ?_
    refine so hg12 rfl rfl rfl rfl ?_
    refine so hg12 rfl rfl rfl rfl ?_
    refine so hg12 rfl rfl rfl rfl ?_
    refine spf trivial rfl rfl rfl ?_
    refine sa trivial rfl rfl ?_
    refine St.nil fun a14 h14 => ?_
    refine hK5 _ _ ?_
    refine wp_ret ?_
    repeat (first | with_reducible refine of_then_ret ?_ | with_reducible refine of_block_ret ?_)
    have R : ¬ x = y := fun e => hc13 (by rw [e])
    exact ret_tmp (t := 4) h14 rfl rfl ⟨by rw [bdec_false R], hW8.bel⟩
  ·rw [hb] at h6
   have h9 : ¬ x.block = y.block := ne_of_beq_false hb
   have hc15 : ¬ x.block = y.block := h9
   clear h9
   clear hb
   refine St.go h6 ?_; clear h6 a6
   refine so hg5 rfl rfl rfl rfl ?_
   refine so hg5 rfl rfl rfl rfl ?_
   refine so hg5 rfl rfl rfl rfl ?_
   refine so hg5 rfl rfl rfl rfl ?_
   refine so hg5 rfl rfl rfl rfl ?_
   refine spf trivial rfl rfl rfl ?_
   refine sm trivial rfl rfl ?_
   refine so hg12 rfl rfl rfl rfl ?_
   refine so hg12 rfl rfl rfl rfl ?_
   refine so hg12 rfl rfl rfl rfl ?_
   refine so hg12 rfl rfl rfl rfl ?_
   refine so hg12 rfl rfl rfl rfl ?_
   refine spf trivial rfl rfl rfl ?_
   refine sa trivial rfl rfl ?_
   refine St.nil fun a16 h16 => ?_
   refine hK5 _ _ ?_
   refine wp_ret ?_
   repeat (first | with_reducible refine of_then_ret ?_ | with_reducible refine of_block_ret ?_)
   have R : ¬ x = y := fun e => hc15 (by rw [e])
   exact ret_tmp (t := 4) h16 rfl rfl ⟨by rw [bdec_false R], hW3.bel⟩

set_option maxHeartbeats 4000000 in
set_option maxRecDepth 100000 in
theorem cSameTo_any {x y : MTo} {pR pA qR qA : Option Addr} {cR cA dR dA : Nat} {w : World} (hx0 : TIn2 w All x pR cR pA cA) (hy0 : TIn2 w All y qR dR qA dA) (hs0 : x.small) :
    Rd Try.prog 114 #[.agg #[.int .i64 x.block, .slice pR x.regs.length cR, .slice pA x.args.length cA], .agg #[.int .i64 y.block, .slice qR y.regs.length dR, .slice qA y.args.length dA]] w (.bool (bdec (x = y))) := by
  have hx : Hid _ := hx0
  have hy : Hid _ := hy0
  have hs : Hid _ := hs0
  clear hx0 hy0 hs0
  refine fr_enter (n := 24) Try.func114 rfl rfl rfl ?_
  intro a hF
  have hW := Wd.start w
  replace hF : Fr 24 a [(0, .agg #[.int .i64 x.block, .slice pR x.regs.length cR, .slice pA x.args.length cA]), (1, .agg #[.int .i64 y.block, .slice qR y.regs.length dR, .slice qA y.args.length dA])] := hF
  refine wp_seq_k ?_
  intro K1 hK1
  refine fr_region ?_
  intro ops hops
  clear hops
  refine St.go hF ?_; clear hF a
  refine sB hW trivial rfl rfl ?_
  clear hW; intro w2 B2 hW2 hN; clear hN
  refine sB hW2 trivial rfl rfl ?_
  clear hW2; intro w3 B3 hW3 hN; clear hN
  refine sa trivial rfl rfl ?_
  refine St.nil fun a4 h4 => ?_
  refine hK1 _ _ ?_
  refine wp_seq_k ?_
  intro K5 hK5
  refine fr_region ?_
  intro ops hops
  have hg5 : (ops[5]?).bind (fun o : Oper => o.dst) = some 10 := hops 5
  have hg12 : (ops[12]?).bind (fun o : Oper => o.dst) = some 17 := hops 12
  clear hops
  refine St.go h4 ?_; clear h4 a4
  refine sfTo0 trivial rfl rfl ?_
  refine sbInt 1 hW3 trivial rfl rfl rfl rfl ?_
  refine sfTo0 trivial rfl rfl ?_
  refine sbInt 0 hW3 trivial rfl rfl rfl rfl ?_
  refine seq trivial rfl rfl rfl ?_
  refine sm trivial rfl rfl ?_
  intro a6 h6
  rcases Bool.eq_false_or_eq_true (x.block == y.block) with hb | hb
  ·rw [hb] at h6
   have h9 : x.block = y.block := eq_of_beq hb
   have hc7 : Hid (x.block = y.block) := h9
   clear h9
   clear hb
   refine St.go h6 ?_; clear h6 a6
   refine sfTo1 ⟨_, hg5, rfl, rfl⟩ rfl rfl ?_
   refine sbInts 1 hW3 ⟨_, hg5, rfl, rfl⟩ rfl rfl rfl rfl ?_
   refine sfTo1 ⟨_, hg5, rfl, rfl⟩ rfl rfl ?_
   refine sbInts 0 hW3 ⟨_, hg5, rfl, rfl⟩ rfl rfl rfl rfl ?_
   refine sc_2 cf113 hW3 (equal_any x.regs y.regs pR qR cR dR w3 (Lay.below hx.out.regs hW3.bel) (Lay.below hy.out.regs hW3.bel) (by have := hs.out.1; omega)) ⟨_, hg5, rfl, rfl⟩ rfl rfl rfl ?_
   clear hW3; intro w8 hW8
   refine sp trivial rfl rfl rfl ?_
   refine sm trivial rfl rfl ?_
   intro a9 h9
   rcases Bool.eq_false_or_eq_true (bdec (x.regs = y.regs)) with hb | hb
   ·rw [hb] at h9
    have hc10 : (x.regs = y.regs) := bdec_iff.1 hb
    clear hb
    refine St.go h9 ?_; clear h9 a9
    refine sfTo2 ⟨_, hg12, rfl, rfl⟩ rfl rfl ?_
    refine sbInts 1 hW8 ⟨_, hg12, rfl, rfl⟩ rfl rfl rfl rfl ?_
    refine sfTo2 ⟨_, hg12, rfl, rfl⟩ rfl rfl ?_
    refine sbInts 0 hW8 ⟨_, hg12, rfl, rfl⟩ rfl rfl rfl rfl ?_
    refine sc_2 cf113 hW8 (equal_any x.args y.args pA qA cA dA w8 (Lay.below hx.out.args hW8.bel) (Lay.below hy.out.args hW8.bel) (by have := hs.out.2; omega)) ⟨_, hg12, rfl, rfl⟩ rfl rfl rfl ?_
    clear hW8; intro w11 hW11
    refine sp trivial rfl rfl rfl ?_
    refine sa trivial rfl rfl ?_
    refine St.nil fun a12 h12 => ?_
    refine hK5 _ _ ?_
    refine wp_ret ?_
    repeat (first | with_reducible refine of_then_ret ?_ | with_reducible refine of_block_ret ?_)
    have R : x.args = y.args ↔ x = y := ⟨fun h => MTo.eq_of hc7.out hc10 h, fun e => by rw [e]⟩
    exact ret_tmp (t := 4) h12 rfl rfl ⟨by rw [bdec_congr R], hW11.bel⟩
   ·rw [hb] at h9
    have hc13 : ¬ (x.regs = y.regs) := fun h => by rw [bdec_true h] at hb; cases hb
    clear hb
    refine St.go h9 ?_; clear h9 a9
    refine so hg12 rfl rfl rfl rfl ?_
    refine so hg12 rfl rfl rfl rfl ?_
    refine so hg12 rfl rfl rfl rfl ?_
    refine so hg12 rfl rfl rfl rfl ?_
    refine so hg12 rfl rfl rfl rfl ?_
    refine spf trivial rfl rfl rfl ?_
    refine sa trivial rfl rfl ?_
    refine St.nil fun a14 h14 => ?_
    refine hK5 _ _ ?_
    refine wp_ret ?_
    repeat (first | with_reducible refine of_then_ret ?_ | with_reducible refine of_block_ret ?_)
    have R : ¬ x = y := fun e => hc13 (by rw [e])
    exact ret_tmp (t := 4) h14 rfl rfl ⟨by rw [bdec_false R], hW8.bel⟩
  ·rw [hb] at h6
   have h9 : ¬ x.block = y.block := ne_of_beq_false hb
   have hc15 : ¬ x.block = y.block := h9
   clear h9
   clear hb
   refine St.go h6 ?_; clear h6 a6
   refine so hg5 rfl rfl rfl rfl ?_
   refine so hg5 rfl rfl rfl rfl ?_
   refine so hg5 rfl rfl rfl rfl ?_
   refine so hg5 rfl rfl rfl rfl ?_
   refine so hg5 rfl rfl rfl rfl ?_
   refine spf trivial rfl rfl rfl ?_
   refine sm trivial rfl rfl ?_
   refine so hg12 rfl rfl rfl rfl ?_
   refine so hg12 rfl rfl rfl rfl ?_
   refine so hg12 rfl rfl rfl rfl ?_
   refine so hg12 rfl rfl rfl rfl ?_
   refine so hg12 rfl rfl rfl rfl ?_
   refine spf trivial rfl rfl rfl ?_
   refine sa trivial rfl rfl ?_
   refine St.nil fun a16 h16 => ?_
   refine hK5 _ _ ?_
   refine wp_ret ?_
   repeat (first | with_reducible refine of_then_ret ?_ | with_reducible refine of_block_ret ?_)
   have R : ¬ x = y := fun e => hc15 (by rw [e])
   exact ret_tmp (t := 4) h16 rfl rfl ⟨by rw [bdec_false R], hW3.bel⟩

set_option maxHeartbeats 4000000 in
set_option maxRecDepth 100000 in
theorem sameIns_any {x y : MIns} {i j : IP} {w : World} (hx0 : IIn w All x i) (hy0 : IIn w All y j) (hs0 : x.small) :
    Rd Try.prog 76 #[.agg #[.int .i64 x.op, .int .i64 x.a, .int .i64 x.b, .int .i64 x.c, .int .i64 x.k, .int .i64 x.n, .slice i.pR x.regs.length i.cR, .slice i.pA x.args.length i.cA], .agg #[.int .i64 y.op, .int .i64 y.a, .int .i64 y.b, .int .i64 y.c, .int .i64 y.k, .int .i64 y.n, .slice j.pR y.regs.length j.cR, .slice j.pA y.args.length j.cA]] w (.bool (bdec (x = y))) := by
  have hx : Hid _ := hx0
  have hy : Hid _ := hy0
  have hs : Hid _ := hs0
  clear hx0 hy0 hs0
  refine fr_enter (n := 59) Try.func76 rfl rfl rfl ?_
  intro a hF
  have hW := Wd.start w
  replace hF : Fr 59 a [(0, .agg #[.int .i64 x.op, .int .i64 x.a, .int .i64 x.b, .int .i64 x.c, .int .i64 x.k, .int .i64 x.n, .slice i.pR x.regs.length i.cR, .slice i.pA x.args.length i.cA]), (1, .agg #[.int .i64 y.op, .int .i64 y.a, .int .i64 y.b, .int .i64 y.c, .int .i64 y.k, .int .i64 y.n, .slice j.pR y.regs.length j.cR, .slice j.pA y.args.length j.cA])] := hF
  refine wp_seq_k ?_
  intro K1 hK1
  refine fr_region ?_
  intro ops hops
  clear hops
  refine St.go hF ?_; clear hF a
  refine sB hW trivial rfl rfl ?_
  clear hW; intro w2 B2 hW2 hN; clear hN
  refine sB hW2 trivial rfl rfl ?_
  clear hW2; intro w3 B3 hW3 hN; clear hN
  refine sa trivial rfl rfl ?_
  refine St.nil fun a4 h4 => ?_
  refine hK1 _ _ ?_
  refine wp_seq_k ?_
  intro K5 hK5
  refine fr_region ?_
  intro ops hops
  have hg5 : (ops[5]?).bind (fun o : Oper => o.dst) = some 10 := hops 5
  have hg12 : (ops[12]?).bind (fun o : Oper => o.dst) = some 17 := hops 12
  have hg19 : (ops[19]?).bind (fun o : Oper => o.dst) = some 24 := hops 19
  have hg26 : (ops[26]?).bind (fun o : Oper => o.dst) = some 31 := hops 26
  have hg33 : (ops[33]?).bind (fun o : Oper => o.dst) = some 38 := hops 33
  have hg40 : (ops[40]?).bind (fun o : Oper => o.dst) = some 45 := hops 40
  have hg47 : (ops[47]?).bind (fun o : Oper => o.dst) = some 52 := hops 47
  clear hops
  refine St.go h4 ?_; clear h4 a4
  refine sfIns0 trivial rfl rfl ?_
  refine sbInt 1 hW3 trivial rfl rfl rfl rfl ?_
  refine sfIns0 trivial rfl rfl ?_
  refine sbInt 0 hW3 trivial rfl rfl rfl rfl ?_
  refine seq trivial rfl rfl rfl ?_
  refine sm trivial rfl rfl ?_
  intro a6 h6
  rcases Bool.eq_false_or_eq_true (x.op == y.op) with hb | hb
  ·rw [hb] at h6
   have h9 : x.op = y.op := eq_of_beq hb
   have hc7 : Hid (x.op = y.op) := h9
   clear h9
   clear hb
   refine St.go h6 ?_; clear h6 a6
   refine sfIns1 ⟨_, hg5, rfl, rfl⟩ rfl rfl ?_
   refine sbInt 1 hW3 ⟨_, hg5, rfl, rfl⟩ rfl rfl rfl rfl ?_
   refine sfIns1 ⟨_, hg5, rfl, rfl⟩ rfl rfl ?_
   refine sbInt 0 hW3 ⟨_, hg5, rfl, rfl⟩ rfl rfl rfl rfl ?_
   refine seq ⟨_, hg5, rfl, rfl⟩ rfl rfl rfl ?_
   refine sp trivial rfl rfl rfl ?_
   refine sm trivial rfl rfl ?_
   intro a8 h8
   rcases Bool.eq_false_or_eq_true (x.a == y.a) with hb | hb
   ·rw [hb] at h8
    have h9 : x.a = y.a := eq_of_beq hb
    have hc9 : Hid (x.a = y.a) := h9
    clear h9
    clear hb
    refine St.go h8 ?_; clear h8 a8
    refine sfIns2 ⟨_, hg12, rfl, rfl⟩ rfl rfl ?_
    refine sbInt 1 hW3 ⟨_, hg12, rfl, rfl⟩ rfl rfl rfl rfl ?_
    refine sfIns2 ⟨_, hg12, rfl, rfl⟩ rfl rfl ?_
    refine sbInt 0 hW3 ⟨_, hg12, rfl, rfl⟩ rfl rfl rfl rfl ?_
    refine seq ⟨_, hg12, rfl, rfl⟩ rfl rfl rfl ?_
    refine sp trivial rfl rfl rfl ?_
    refine sm trivial rfl rfl ?_
    intro a10 h10
    rcases Bool.eq_false_or_eq_true (x.b == y.b) with hb | hb
    ·rw [hb] at h10
     have h9 : x.b = y.b := eq_of_beq hb
     have hc11 : Hid (x.b = y.b) := h9
     clear h9
     clear hb
     refine St.go h10 ?_; clear h10 a10
     refine sfIns3 ⟨_, hg19, rfl, rfl⟩ rfl rfl ?_
     refine sbInt 1 hW3 ⟨_, hg19, rfl, rfl⟩ rfl rfl rfl rfl ?_
     refine sfIns3 ⟨_, hg19, rfl, rfl⟩ rfl rfl ?_
     refine sbInt 0 hW3 ⟨_, hg19, rfl, rfl⟩ rfl rfl rfl rfl ?_
     refine seq ⟨_, hg19, rfl, rfl⟩ rfl rfl rfl ?_
     refine sp trivial rfl rfl rfl ?_
     refine sm trivial rfl rfl ?_
     intro a12 h12
     rcases Bool.eq_false_or_eq_true (x.c == y.c) with hb | hb
     ·rw [hb] at h12
      have h9 : x.c = y.c := eq_of_beq hb
      have hc13 : Hid (x.c = y.c) := h9
      clear h9
      clear hb
      refine St.go h12 ?_; clear h12 a12
      refine sfIns4 ⟨_, hg26, rfl, rfl⟩ rfl rfl ?_
      refine sbInt 1 hW3 ⟨_, hg26, rfl, rfl⟩ rfl rfl rfl rfl ?_
      refine sfIns4 ⟨_, hg26, rfl, rfl⟩ rfl rfl ?_
      refine sbInt 0 hW3 ⟨_, hg26, rfl, rfl⟩ rfl rfl rfl rfl ?_
      refine seq ⟨_, hg26, rfl, rfl⟩ rfl rfl rfl ?_
      refine sp trivial rfl rfl rfl ?_
      refine sm trivial rfl rfl ?_
      intro a14 h14
      rcases Bool.eq_false_or_eq_true (x.k == y.k) with hb | hb
      ·rw [hb] at h14
       have h9 : x.k = y.k := eq_of_beq hb
       have hc15 : Hid (x.k = y.k) := h9
       clear h9
       clear hb
       refine St.go h14 ?_; clear h14 a14
       refine sfIns5 ⟨_, hg33, rfl, rfl⟩ rfl rfl ?_
       refine sbInt6 1 hW3 ⟨_, hg33, rfl, rfl⟩ rfl rfl rfl rfl ?_
       refine sfIns5 ⟨_, hg33, rfl, rfl⟩ rfl rfl ?_
       refine sbInt6 0 hW3 ⟨_, hg33, rfl, rfl⟩ rfl rfl rfl rfl ?_
       refine seq6 ⟨_, hg33, rfl, rfl⟩ rfl rfl rfl ?_
       refine sp trivial rfl rfl rfl ?_
       refine sm trivial rfl rfl ?_
       intro a16 h16
       rcases Bool.eq_false_or_eq_true (x.n == y.n) with hb | hb
       ·rw [hb] at h16
        have h9 : x.n = y.n := eq_of_beq hb
        have hc17 : Hid (x.n = y.n) := h9
        clear h9
        clear hb
        refine St.go h16 ?_; clear h16 a16
        refine sfIns6 ⟨_, hg40, rfl, rfl⟩ rfl rfl ?_
        refine sbInts 1 hW3 ⟨_, hg40, rfl, rfl⟩ rfl rfl rfl rfl ?_
        refine sfIns6 ⟨_, hg40, rfl, rfl⟩ rfl rfl ?_
        refine sbInts 0 hW3 ⟨_, hg40, rfl, rfl⟩ rfl rfl rfl rfl ?_
        refine sc_2 cf32 hW3 (sameInts_any x.regs y.regs i.pR j.pR i.cR j.cR w3 (Lay.below hx.out.regs hW3.bel) (Lay.below hy.out.regs hW3.bel) (by have := hs.out.1; omega)) ⟨_, hg40, rfl, rfl⟩ rfl rfl rfl ?_
        clear hW3; intro w18 hW18
        refine sp trivial rfl rfl rfl ?_
        refine sm trivial rfl rfl ?_
        intro a19 h19
        rcases Bool.eq_false_or_eq_true (bdec (x.regs = y.regs)) with hb | hb
        ·rw [hb] at h19
         have hc20 : (x.regs = y.regs) := bdec_iff.1 hb
         clear hb
         refine St.go h19 ?_; clear h19 a19
         refine sfIns7 ⟨_, hg47, rfl, rfl⟩ rfl rfl ?_
         refine sbInts 1 hW18 ⟨_, hg47, rfl, rfl⟩ rfl rfl rfl rfl ?_
         refine sfIns7 ⟨_, hg47, rfl, rfl⟩ rfl rfl ?_
         refine sbInts 0 hW18 ⟨_, hg47, rfl, rfl⟩ rfl rfl rfl rfl ?_
         refine sc_2 cf32 hW18 (sameInts_any x.args y.args i.pA j.pA i.cA j.cA w18 (Lay.below hx.out.args hW18.bel) (Lay.below hy.out.args hW18.bel) (by have := hs.out.2; omega)) ⟨_, hg47, rfl, rfl⟩ rfl rfl rfl ?_
         clear hW18; intro w21 hW21
         refine sp trivial rfl rfl rfl ?_
         refine sa trivial rfl rfl ?_
         refine St.nil fun a22 h22 => ?_
         refine hK5 _ _ ?_
         refine wp_ret ?_
         repeat (first | with_reducible refine of_then_ret ?_ | with_reducible refine of_block_ret ?_)
         have R : x.args = y.args ↔ x = y := ⟨fun h => MIns.eq_of hc7.out hc9.out hc11.out hc13.out hc15.out hc17.out hc20 h, fun e => by rw [e]⟩
         exact ret_tmp (t := 4) h22 rfl rfl ⟨by rw [bdec_congr R], hW21.bel⟩
        ·rw [hb] at h19
         have hc23 : ¬ (x.regs = y.regs) := fun h => by rw [bdec_true h] at hb; cases hb
         clear hb
         refine St.go h19 ?_; clear h19 a19
         refine so hg47 rfl rfl rfl rfl ?_
         refine so hg47 rfl rfl rfl rfl ?_
         refine so hg47 rfl rfl rfl rfl ?_
         refine so hg47 rfl rfl rfl rfl ?_
         refine so hg47 rfl rfl rfl rfl ?_
         refine spf trivial rfl rfl rfl ?_
         refine sa trivial rfl rfl ?_
         refine St.nil fun a24 h24 => ?_
         refine hK5 _ _ ?_
         refine wp_ret ?_
         repeat (first | with_reducible refine of_then_ret ?_ | with_reducible refine of_block_ret ?_)
         have R : ¬ x = y := fun e => hc23 (by rw [e])
         exact ret_tmp (t := 4) h24 rfl rfl ⟨by rw [bdec_false R], hW18.bel⟩
       ·rw [hb] at h16
        have h9 : ¬ x.n = y.n := ne_of_beq_false hb
        have hc25 : ¬ x.n = y.n := h9
        clear h9
        clear hb
        refine St.go h16 ?_; clear h16 a16
        refine so hg40 rfl rfl rfl rfl ?_
        refine so hg40 rfl rfl rfl rfl ?_
        refine so hg40 rfl rfl rfl rfl ?_
        refine so hg40 rfl rfl rfl rfl ?_
        refine so hg40 rfl rfl rfl rfl ?_
        refine spf trivial rfl rfl rfl ?_
        refine sm trivial rfl rfl ?_
        refine so hg47 rfl rfl rfl rfl ?_
        refine so hg47 rfl rfl rfl rfl ?_
        refine so hg47 rfl rfl rfl rfl ?_
        refine so hg47 rfl rfl rfl rfl ?_
        refine so hg47 rfl rfl rfl rfl ?_
        refine spf trivial rfl rfl rfl ?_
        refine sa trivial rfl rfl ?_
        refine St.nil fun a26 h26 => ?_
        refine hK5 _ _ ?_
        refine wp_ret ?_
        repeat (first | with_reducible refine of_then_ret ?_ | with_reducible refine of_block_ret ?_)
        have R : ¬ x = y := fun e => hc25 (by rw [e])
        exact ret_tmp (t := 4) h26 rfl rfl ⟨by rw [bdec_false R], hW3.bel⟩
      ·rw [hb] at h14
       have h9 : ¬ x.k = y.k := ne_of_beq_false hb
       have hc27 : ¬ x.k = y.k := h9
       clear h9
       clear hb
       refine St.go h14 ?_; clear h14 a14
       refine so hg33 rfl rfl rfl rfl ?_
       refine so hg33 rfl rfl rfl rfl ?_
       refine so hg33 rfl rfl rfl rfl ?_
       refine so hg33 rfl rfl rfl rfl ?_
       refine so hg33 rfl rfl rfl rfl ?_
       refine spf trivial rfl rfl rfl ?_
       refine sm trivial rfl rfl ?_
       refine so hg40 rfl rfl rfl rfl ?_
       refine so hg40 rfl rfl rfl rfl ?_
       refine so hg40 rfl rfl rfl rfl ?_
       refine so hg40 rfl rfl rfl rfl ?_
       refine so hg40 rfl rfl rfl rfl ?_
       refine spf trivial rfl rfl rfl ?_
       refine sm trivial rfl rfl ?_
       refine so hg47 rfl rfl rfl rfl ?_
       refine so hg47 rfl rfl rfl rfl ?_
       refine so hg47 rfl rfl rfl rfl ?_
       refine so hg47 rfl rfl rfl rfl ?_
       refine so hg47 rfl rfl rfl rfl ?_
       refine spf trivial rfl rfl rfl ?_
       refine sa trivial rfl rfl ?_
       refine St.nil fun a28 h28 => ?_
       refine hK5 _ _ ?_
       refine wp_ret ?_
       repeat (first | with_reducible refine of_then_ret ?_ | with_reducible refine of_block_ret ?_)
       have R : ¬ x = y := fun e => hc27 (by rw [e])
       exact ret_tmp (t := 4) h28 rfl rfl ⟨by rw [bdec_false R], hW3.bel⟩
     ·rw [hb] at h12
      have h9 : ¬ x.c = y.c := ne_of_beq_false hb
      have hc29 : ¬ x.c = y.c := h9
      clear h9
      clear hb
      refine St.go h12 ?_; clear h12 a12
      refine so hg26 rfl rfl rfl rfl ?_
      refine so hg26 rfl rfl rfl rfl ?_
      refine so hg26 rfl rfl rfl rfl ?_
      refine so hg26 rfl rfl rfl rfl ?_
      refine so hg26 rfl rfl rfl rfl ?_
      refine spf trivial rfl rfl rfl ?_
      refine sm trivial rfl rfl ?_
      refine so hg33 rfl rfl rfl rfl ?_
      refine so hg33 rfl rfl rfl rfl ?_
      refine so hg33 rfl rfl rfl rfl ?_
      refine so hg33 rfl rfl rfl rfl ?_
      refine so hg33 rfl rfl rfl rfl ?_
      refine spf trivial rfl rfl rfl ?_
      refine sm trivial rfl rfl ?_
      refine so hg40 rfl rfl rfl rfl ?_
      refine so hg40 rfl rfl rfl rfl ?_
      refine so hg40 rfl rfl rfl rfl ?_
      refine so hg40 rfl rfl rfl rfl ?_
      refine so hg40 rfl rfl rfl rfl ?_
      refine spf trivial rfl rfl rfl ?_
      refine sm trivial rfl rfl ?_
      refine so hg47 rfl rfl rfl rfl ?_
      refine so hg47 rfl rfl rfl rfl ?_
      refine so hg47 rfl rfl rfl rfl ?_
      refine so hg47 rfl rfl rfl rfl ?_
      refine so hg47 rfl rfl rfl rfl ?_
      refine spf trivial rfl rfl rfl ?_
      refine sa trivial rfl rfl ?_
      refine St.nil fun a30 h30 => ?_
      refine hK5 _ _ ?_
      refine wp_ret ?_
      repeat (first | with_reducible refine of_then_ret ?_ | with_reducible refine of_block_ret ?_)
      have R : ¬ x = y := fun e => hc29 (by rw [e])
      exact ret_tmp (t := 4) h30 rfl rfl ⟨by rw [bdec_false R], hW3.bel⟩
    ·rw [hb] at h10
     have h9 : ¬ x.b = y.b := ne_of_beq_false hb
     have hc31 : ¬ x.b = y.b := h9
     clear h9
     clear hb
     refine St.go h10 ?_; clear h10 a10
     refine so hg19 rfl rfl rfl rfl ?_
     refine so hg19 rfl rfl rfl rfl ?_
     refine so hg19 rfl rfl rfl rfl ?_
     refine so hg19 rfl rfl rfl rfl ?_
     refine so hg19 rfl rfl rfl rfl ?_
     refine spf trivial rfl rfl rfl ?_
     refine sm trivial rfl rfl ?_
     refine so hg26 rfl rfl rfl rfl ?_
     refine so hg26 rfl rfl rfl rfl ?_
     refine so hg26 rfl rfl rfl rfl ?_
     refine so hg26 rfl rfl rfl rfl ?_
     refine so hg26 rfl rfl rfl rfl ?_
     refine spf trivial rfl rfl rfl ?_
     refine sm trivial rfl rfl ?_
     refine so hg33 rfl rfl rfl rfl ?_
     refine so hg33 rfl rfl rfl rfl ?_
     refine so hg33 rfl rfl rfl rfl ?_
     refine so hg33 rfl rfl rfl rfl ?_
     refine so hg33 rfl rfl rfl rfl ?_
     refine spf trivial rfl rfl rfl ?_
     refine sm trivial rfl rfl ?_
     refine so hg40 rfl rfl rfl rfl ?_
     refine so hg40 rfl rfl rfl rfl ?_
     refine so hg40 rfl rfl rfl rfl ?_
     refine so hg40 rfl rfl rfl rfl ?_
     refine so hg40 rfl rfl rfl rfl ?_
     refine spf trivial rfl rfl rfl ?_
     refine sm trivial rfl rfl ?_
     refine so hg47 rfl rfl rfl rfl ?_
     refine so hg47 rfl rfl rfl rfl ?_
     refine so hg47 rfl rfl rfl rfl ?_
     refine so hg47 rfl rfl rfl rfl ?_
     refine so hg47 rfl rfl rfl rfl ?_
     refine spf trivial rfl rfl rfl ?_
     refine sa trivial rfl rfl ?_
     refine St.nil fun a32 h32 => ?_
     refine hK5 _ _ ?_
     refine wp_ret ?_
     repeat (first | with_reducible refine of_then_ret ?_ | with_reducible refine of_block_ret ?_)
     have R : ¬ x = y := fun e => hc31 (by rw [e])
     exact ret_tmp (t := 4) h32 rfl rfl ⟨by rw [bdec_false R], hW3.bel⟩
   ·rw [hb] at h8
    have h9 : ¬ x.a = y.a := ne_of_beq_false hb
    have hc33 : ¬ x.a = y.a := h9
    clear h9
    clear hb
    refine St.go h8 ?_; clear h8 a8
    refine so hg12 rfl rfl rfl rfl ?_
    refine so hg12 rfl rfl rfl rfl ?_
    refine so hg12 rfl rfl rfl rfl ?_
    refine so hg12 rfl rfl rfl rfl ?_
    refine so hg12 rfl rfl rfl rfl ?_
    refine spf trivial rfl rfl rfl ?_
    refine sm trivial rfl rfl ?_
    refine so hg19 rfl rfl rfl rfl ?_
    refine so hg19 rfl rfl rfl rfl ?_
    refine so hg19 rfl rfl rfl rfl ?_
    refine so hg19 rfl rfl rfl rfl ?_
    refine so hg19 rfl rfl rfl rfl ?_
    refine spf trivial rfl rfl rfl ?_
    refine sm trivial rfl rfl ?_
    refine so hg26 rfl rfl rfl rfl ?_
    refine so hg26 rfl rfl rfl rfl ?_
    refine so hg26 rfl rfl rfl rfl ?_
    refine so hg26 rfl rfl rfl rfl ?_
    refine so hg26 rfl rfl rfl rfl ?_
    refine spf trivial rfl rfl rfl ?_
    refine sm trivial rfl rfl ?_
    refine so hg33 rfl rfl rfl rfl ?_
    refine so hg33 rfl rfl rfl rfl ?_
    refine so hg33 rfl rfl rfl rfl ?_
    refine so hg33 rfl rfl rfl rfl ?_
    refine so hg33 rfl rfl rfl rfl ?_
    refine spf trivial rfl rfl rfl ?_
    refine sm trivial rfl rfl ?_
    refine so hg40 rfl rfl rfl rfl ?_
    refine so hg40 rfl rfl rfl rfl ?_
    refine so hg40 rfl rfl rfl rfl ?_
    refine so hg40 rfl rfl rfl rfl ?_
    refine so hg40 rfl rfl rfl rfl ?_
    refine spf trivial rfl rfl rfl ?_
    refine sm trivial rfl rfl ?_
    refine so hg47 rfl rfl rfl rfl ?_
    refine so hg47 rfl rfl rfl rfl ?_
    refine so hg47 rfl rfl rfl rfl ?_
    refine so hg47 rfl rfl rfl rfl ?_
    refine so hg47 rfl rfl rfl rfl ?_
    refine spf trivial rfl rfl rfl ?_
    refine sa trivial rfl rfl ?_
    refine St.nil fun a34 h34 => ?_
    refine hK5 _ _ ?_
    refine wp_ret ?_
    repeat (first | with_reducible refine of_then_ret ?_ | with_reducible refine of_block_ret ?_)
    have R : ¬ x = y := fun e => hc33 (by rw [e])
    exact ret_tmp (t := 4) h34 rfl rfl ⟨by rw [bdec_false R], hW3.bel⟩
  ·rw [hb] at h6
   have h9 : ¬ x.op = y.op := ne_of_beq_false hb
   have hc35 : ¬ x.op = y.op := h9
   clear h9
   clear hb
   refine St.go h6 ?_; clear h6 a6
   refine so hg5 rfl rfl rfl rfl ?_
   refine so hg5 rfl rfl rfl rfl ?_
   refine so hg5 rfl rfl rfl rfl ?_
   refine so hg5 rfl rfl rfl rfl ?_
   refine so hg5 rfl rfl rfl rfl ?_
   refine spf trivial rfl rfl rfl ?_
   refine sm trivial rfl rfl ?_
   refine so hg12 rfl rfl rfl rfl ?_
   refine so hg12 rfl rfl rfl rfl ?_
   refine so hg12 rfl rfl rfl rfl ?_
   refine so hg12 rfl rfl rfl rfl ?_
   refine so hg12 rfl rfl rfl rfl ?_
   refine spf trivial rfl rfl rfl ?_
   refine sm trivial rfl rfl ?_
   refine so hg19 rfl rfl rfl rfl ?_
   refine so hg19 rfl rfl rfl rfl ?_
   refine so hg19 rfl rfl rfl rfl ?_
   refine so hg19 rfl rfl rfl rfl ?_
   refine so hg19 rfl rfl rfl rfl ?_
   refine spf trivial rfl rfl rfl ?_
   refine sm trivial rfl rfl ?_
   refine so hg26 rfl rfl rfl rfl ?_
   refine so hg26 rfl rfl rfl rfl ?_
   refine so hg26 rfl rfl rfl rfl ?_
   refine so hg26 rfl rfl rfl rfl ?_
   refine so hg26 rfl rfl rfl rfl ?_
   refine spf trivial rfl rfl rfl ?_
   refine sm trivial rfl rfl ?_
   refine so hg33 rfl rfl rfl rfl ?_
   refine so hg33 rfl rfl rfl rfl ?_
   refine so hg33 rfl rfl rfl rfl ?_
   refine so hg33 rfl rfl rfl rfl ?_
   refine so hg33 rfl rfl rfl rfl ?_
   refine spf trivial rfl rfl rfl ?_
   refine sm trivial rfl rfl ?_
   refine so hg40 rfl rfl rfl rfl ?_
   refine so hg40 rfl rfl rfl rfl ?_
   refine so hg40 rfl rfl rfl rfl ?_
   refine so hg40 rfl rfl rfl rfl ?_
   refine so hg40 rfl rfl rfl rfl ?_
   refine spf trivial rfl rfl rfl ?_
   refine sm trivial rfl rfl ?_
   refine so hg47 rfl rfl rfl rfl ?_
   refine so hg47 rfl rfl rfl rfl ?_
   refine so hg47 rfl rfl rfl rfl ?_
   refine so hg47 rfl rfl rfl rfl ?_
   refine so hg47 rfl rfl rfl rfl ?_
   refine spf trivial rfl rfl rfl ?_
   refine sa trivial rfl rfl ?_
   refine St.nil fun a36 h36 => ?_
   refine hK5 _ _ ?_
   refine wp_ret ?_
   repeat (first | with_reducible refine of_then_ret ?_ | with_reducible refine of_block_ret ?_)
   have R : ¬ x = y := fun e => hc35 (by rw [e])
   exact ret_tmp (t := 4) h36 rfl rfl ⟨by rw [bdec_false R], hW3.bel⟩

set_option maxHeartbeats 4000000 in
set_option maxRecDepth 100000 in
theorem cSameIns_any {x y : MIns} {i j : IP} {w : World} (hx0 : IIn w All x i) (hy0 : IIn w All y j) (hs0 : x.small) :
    Rd Try.prog 104 #[.agg #[.int .i64 x.op, .int .i64 x.a, .int .i64 x.b, .int .i64 x.c, .int .i64 x.k, .int .i64 x.n, .slice i.pR x.regs.length i.cR, .slice i.pA x.args.length i.cA], .agg #[.int .i64 y.op, .int .i64 y.a, .int .i64 y.b, .int .i64 y.c, .int .i64 y.k, .int .i64 y.n, .slice j.pR y.regs.length j.cR, .slice j.pA y.args.length j.cA]] w (.bool (bdec (x = y))) := by
  have hx : Hid _ := hx0
  have hy : Hid _ := hy0
  have hs : Hid _ := hs0
  clear hx0 hy0 hs0
  refine fr_enter (n := 59) Try.func104 rfl rfl rfl ?_
  intro a hF
  have hW := Wd.start w
  replace hF : Fr 59 a [(0, .agg #[.int .i64 x.op, .int .i64 x.a, .int .i64 x.b, .int .i64 x.c, .int .i64 x.k, .int .i64 x.n, .slice i.pR x.regs.length i.cR, .slice i.pA x.args.length i.cA]), (1, .agg #[.int .i64 y.op, .int .i64 y.a, .int .i64 y.b, .int .i64 y.c, .int .i64 y.k, .int .i64 y.n, .slice j.pR y.regs.length j.cR, .slice j.pA y.args.length j.cA])] := hF
  refine wp_seq_k ?_
  intro K1 hK1
  refine fr_region ?_
  intro ops hops
  clear hops
  refine St.go hF ?_; clear hF a
  refine sB hW trivial rfl rfl ?_
  clear hW; intro w2 B2 hW2 hN; clear hN
  refine sB hW2 trivial rfl rfl ?_
  clear hW2; intro w3 B3 hW3 hN; clear hN
  refine sa trivial rfl rfl ?_
  refine St.nil fun a4 h4 => ?_
  refine hK1 _ _ ?_
  refine wp_seq_k ?_
  intro K5 hK5
  refine fr_region ?_
  intro ops hops
  have hg5 : (ops[5]?).bind (fun o : Oper => o.dst) = some 10 := hops 5
  have hg12 : (ops[12]?).bind (fun o : Oper => o.dst) = some 17 := hops 12
  have hg19 : (ops[19]?).bind (fun o : Oper => o.dst) = some 24 := hops 19
  have hg26 : (ops[26]?).bind (fun o : Oper => o.dst) = some 31 := hops 26
  have hg33 : (ops[33]?).bind (fun o : Oper => o.dst) = some 38 := hops 33
  have hg40 : (ops[40]?).bind (fun o : Oper => o.dst) = some 45 := hops 40
  have hg47 : (ops[47]?).bind (fun o : Oper => o.dst) = some 52 := hops 47
  clear hops
  refine St.go h4 ?_; clear h4 a4
  refine sfIns0 trivial rfl rfl ?_
  refine sbInt 1 hW3 trivial rfl rfl rfl rfl ?_
  refine sfIns0 trivial rfl rfl ?_
  refine sbInt 0 hW3 trivial rfl rfl rfl rfl ?_
  refine seq trivial rfl rfl rfl ?_
  refine sm trivial rfl rfl ?_
  intro a6 h6
  rcases Bool.eq_false_or_eq_true (x.op == y.op) with hb | hb
  ·rw [hb] at h6
   have h9 : x.op = y.op := eq_of_beq hb
   have hc7 : Hid (x.op = y.op) := h9
   clear h9
   clear hb
   refine St.go h6 ?_; clear h6 a6
   refine sfIns1 ⟨_, hg5, rfl, rfl⟩ rfl rfl ?_
   refine sbInt 1 hW3 ⟨_, hg5, rfl, rfl⟩ rfl rfl rfl rfl ?_
   refine sfIns1 ⟨_, hg5, rfl, rfl⟩ rfl rfl ?_
   refine sbInt 0 hW3 ⟨_, hg5, rfl, rfl⟩ rfl rfl rfl rfl ?_
   refine seq ⟨_, hg5, rfl, rfl⟩ rfl rfl rfl ?_
   refine sp trivial rfl rfl rfl ?_
   refine sm trivial rfl rfl ?_
   intro a8 h8
   rcases Bool.eq_false_or_eq_true (x.a == y.a) with hb | hb
   ·rw [hb] at h8
    have h9 : x.a = y.a := eq_of_beq hb
    have hc9 : Hid (x.a = y.a) := h9
    clear h9
    clear hb
    refine St.go h8 ?_; clear h8 a8
    refine sfIns2 ⟨_, hg12, rfl, rfl⟩ rfl rfl ?_
    refine sbInt 1 hW3 ⟨_, hg12, rfl, rfl⟩ rfl rfl rfl rfl ?_
    refine sfIns2 ⟨_, hg12, rfl, rfl⟩ rfl rfl ?_
    refine sbInt 0 hW3 ⟨_, hg12, rfl, rfl⟩ rfl rfl rfl rfl ?_
    refine seq ⟨_, hg12, rfl, rfl⟩ rfl rfl rfl ?_
    refine sp trivial rfl rfl rfl ?_
    refine sm trivial rfl rfl ?_
    intro a10 h10
    rcases Bool.eq_false_or_eq_true (x.b == y.b) with hb | hb
    ·rw [hb] at h10
     have h9 : x.b = y.b := eq_of_beq hb
     have hc11 : Hid (x.b = y.b) := h9
     clear h9
     clear hb
     refine St.go h10 ?_; clear h10 a10
     refine sfIns3 ⟨_, hg19, rfl, rfl⟩ rfl rfl ?_
     refine sbInt 1 hW3 ⟨_, hg19, rfl, rfl⟩ rfl rfl rfl rfl ?_
     refine sfIns3 ⟨_, hg19, rfl, rfl⟩ rfl rfl ?_
     refine sbInt 0 hW3 ⟨_, hg19, rfl, rfl⟩ rfl rfl rfl rfl ?_
     refine seq ⟨_, hg19, rfl, rfl⟩ rfl rfl rfl ?_
     refine sp trivial rfl rfl rfl ?_
     refine sm trivial rfl rfl ?_
     intro a12 h12
     rcases Bool.eq_false_or_eq_true (x.c == y.c) with hb | hb
     ·rw [hb] at h12
      have h9 : x.c = y.c := eq_of_beq hb
      have hc13 : Hid (x.c = y.c) := h9
      clear h9
      clear hb
      refine St.go h12 ?_; clear h12 a12
      refine sfIns4 ⟨_, hg26, rfl, rfl⟩ rfl rfl ?_
      refine sbInt 1 hW3 ⟨_, hg26, rfl, rfl⟩ rfl rfl rfl rfl ?_
      refine sfIns4 ⟨_, hg26, rfl, rfl⟩ rfl rfl ?_
      refine sbInt 0 hW3 ⟨_, hg26, rfl, rfl⟩ rfl rfl rfl rfl ?_
      refine seq ⟨_, hg26, rfl, rfl⟩ rfl rfl rfl ?_
      refine sp trivial rfl rfl rfl ?_
      refine sm trivial rfl rfl ?_
      intro a14 h14
      rcases Bool.eq_false_or_eq_true (x.k == y.k) with hb | hb
      ·rw [hb] at h14
       have h9 : x.k = y.k := eq_of_beq hb
       have hc15 : Hid (x.k = y.k) := h9
       clear h9
       clear hb
       refine St.go h14 ?_; clear h14 a14
       refine sfIns5 ⟨_, hg33, rfl, rfl⟩ rfl rfl ?_
       refine sbInt6 1 hW3 ⟨_, hg33, rfl, rfl⟩ rfl rfl rfl rfl ?_
       refine sfIns5 ⟨_, hg33, rfl, rfl⟩ rfl rfl ?_
       refine sbInt6 0 hW3 ⟨_, hg33, rfl, rfl⟩ rfl rfl rfl rfl ?_
       refine seq6 ⟨_, hg33, rfl, rfl⟩ rfl rfl rfl ?_
       refine sp trivial rfl rfl rfl ?_
       refine sm trivial rfl rfl ?_
       intro a16 h16
       rcases Bool.eq_false_or_eq_true (x.n == y.n) with hb | hb
       ·rw [hb] at h16
        have h9 : x.n = y.n := eq_of_beq hb
        have hc17 : Hid (x.n = y.n) := h9
        clear h9
        clear hb
        refine St.go h16 ?_; clear h16 a16
        refine sfIns6 ⟨_, hg40, rfl, rfl⟩ rfl rfl ?_
        refine sbInts 1 hW3 ⟨_, hg40, rfl, rfl⟩ rfl rfl rfl rfl ?_
        refine sfIns6 ⟨_, hg40, rfl, rfl⟩ rfl rfl ?_
        refine sbInts 0 hW3 ⟨_, hg40, rfl, rfl⟩ rfl rfl rfl rfl ?_
        refine sc_2 cf113 hW3 (equal_any x.regs y.regs i.pR j.pR i.cR j.cR w3 (Lay.below hx.out.regs hW3.bel) (Lay.below hy.out.regs hW3.bel) (by have := hs.out.1; omega)) ⟨_, hg40, rfl, rfl⟩ rfl rfl rfl ?_
        clear hW3; intro w18 hW18
        refine sp trivial rfl rfl rfl ?_
        refine sm trivial rfl rfl ?_
        intro a19 h19
        rcases Bool.eq_false_or_eq_true (bdec (x.regs = y.regs)) with hb | hb
        ·rw [hb] at h19
         have hc20 : (x.regs = y.regs) := bdec_iff.1 hb
         clear hb
         refine St.go h19 ?_; clear h19 a19
         refine sfIns7 ⟨_, hg47, rfl, rfl⟩ rfl rfl ?_
         refine sbInts 1 hW18 ⟨_, hg47, rfl, rfl⟩ rfl rfl rfl rfl ?_
         refine sfIns7 ⟨_, hg47, rfl, rfl⟩ rfl rfl ?_
         refine sbInts 0 hW18 ⟨_, hg47, rfl, rfl⟩ rfl rfl rfl rfl ?_
         refine sc_2 cf113 hW18 (equal_any x.args y.args i.pA j.pA i.cA j.cA w18 (Lay.below hx.out.args hW18.bel) (Lay.below hy.out.args hW18.bel) (by have := hs.out.2; omega)) ⟨_, hg47, rfl, rfl⟩ rfl rfl rfl ?_
         clear hW18; intro w21 hW21
         refine sp trivial rfl rfl rfl ?_
         refine sa trivial rfl rfl ?_
         refine St.nil fun a22 h22 => ?_
         refine hK5 _ _ ?_
         refine wp_ret ?_
         repeat (first | with_reducible refine of_then_ret ?_ | with_reducible refine of_block_ret ?_)
         have R : x.args = y.args ↔ x = y := ⟨fun h => MIns.eq_of hc7.out hc9.out hc11.out hc13.out hc15.out hc17.out hc20 h, fun e => by rw [e]⟩
         exact ret_tmp (t := 4) h22 rfl rfl ⟨by rw [bdec_congr R], hW21.bel⟩
        ·rw [hb] at h19
         have hc23 : ¬ (x.regs = y.regs) := fun h => by rw [bdec_true h] at hb; cases hb
         clear hb
         refine St.go h19 ?_; clear h19 a19
         refine so hg47 rfl rfl rfl rfl ?_
         refine so hg47 rfl rfl rfl rfl ?_
         refine so hg47 rfl rfl rfl rfl ?_
         refine so hg47 rfl rfl rfl rfl ?_
         refine so hg47 rfl rfl rfl rfl ?_
         refine spf trivial rfl rfl rfl ?_
         refine sa trivial rfl rfl ?_
         refine St.nil fun a24 h24 => ?_
         refine hK5 _ _ ?_
         refine wp_ret ?_
         repeat (first | with_reducible refine of_then_ret ?_ | with_reducible refine of_block_ret ?_)
         have R : ¬ x = y := fun e => hc23 (by rw [e])
         exact ret_tmp (t := 4) h24 rfl rfl ⟨by rw [bdec_false R], hW18.bel⟩
       ·rw [hb] at h16
        have h9 : ¬ x.n = y.n := ne_of_beq_false hb
        have hc25 : ¬ x.n = y.n := h9
        clear h9
        clear hb
        refine St.go h16 ?_; clear h16 a16
        refine so hg40 rfl rfl rfl rfl ?_
        refine so hg40 rfl rfl rfl rfl ?_
        refine so hg40 rfl rfl rfl rfl ?_
        refine so hg40 rfl rfl rfl rfl ?_
        refine so hg40 rfl rfl rfl rfl ?_
        refine spf trivial rfl rfl rfl ?_
        refine sm trivial rfl rfl ?_
        refine so hg47 rfl rfl rfl rfl ?_
        refine so hg47 rfl rfl rfl rfl ?_
        refine so hg47 rfl rfl rfl rfl ?_
        refine so hg47 rfl rfl rfl rfl ?_
        refine so hg47 rfl rfl rfl rfl ?_
        refine spf trivial rfl rfl rfl ?_
        refine sa trivial rfl rfl ?_
        refine St.nil fun a26 h26 => ?_
        refine hK5 _ _ ?_
        refine wp_ret ?_
        repeat (first | with_reducible refine of_then_ret ?_ | with_reducible refine of_block_ret ?_)
        have R : ¬ x = y := fun e => hc25 (by rw [e])
        exact ret_tmp (t := 4) h26 rfl rfl ⟨by rw [bdec_false R], hW3.bel⟩
      ·rw [hb] at h14
       have h9 : ¬ x.k = y.k := ne_of_beq_false hb
       have hc27 : ¬ x.k = y.k := h9
       clear h9
       clear hb
       refine St.go h14 ?_; clear h14 a14
       refine so hg33 rfl rfl rfl rfl ?_
       refine so hg33 rfl rfl rfl rfl ?_
       refine so hg33 rfl rfl rfl rfl ?_
       refine so hg33 rfl rfl rfl rfl ?_
       refine so hg33 rfl rfl rfl rfl ?_
       refine spf trivial rfl rfl rfl ?_
       refine sm trivial rfl rfl ?_
       refine so hg40 rfl rfl rfl rfl ?_
       refine so hg40 rfl rfl rfl rfl ?_
       refine so hg40 rfl rfl rfl rfl ?_
       refine so hg40 rfl rfl rfl rfl ?_
       refine so hg40 rfl rfl rfl rfl ?_
       refine spf trivial rfl rfl rfl ?_
       refine sm trivial rfl rfl ?_
       refine so hg47 rfl rfl rfl rfl ?_
       refine so hg47 rfl rfl rfl rfl ?_
       refine so hg47 rfl rfl rfl rfl ?_
       refine so hg47 rfl rfl rfl rfl ?_
       refine so hg47 rfl rfl rfl rfl ?_
       refine spf trivial rfl rfl rfl ?_
       refine sa trivial rfl rfl ?_
       refine St.nil fun a28 h28 => ?_
       refine hK5 _ _ ?_
       refine wp_ret ?_
       repeat (first | with_reducible refine of_then_ret ?_ | with_reducible refine of_block_ret ?_)
       have R : ¬ x = y := fun e => hc27 (by rw [e])
       exact ret_tmp (t := 4) h28 rfl rfl ⟨by rw [bdec_false R], hW3.bel⟩
     ·rw [hb] at h12
      have h9 : ¬ x.c = y.c := ne_of_beq_false hb
      have hc29 : ¬ x.c = y.c := h9
      clear h9
      clear hb
      refine St.go h12 ?_; clear h12 a12
      refine so hg26 rfl rfl rfl rfl ?_
      refine so hg26 rfl rfl rfl rfl ?_
      refine so hg26 rfl rfl rfl rfl ?_
      refine so hg26 rfl rfl rfl rfl ?_
      refine so hg26 rfl rfl rfl rfl ?_
      refine spf trivial rfl rfl rfl ?_
      refine sm trivial rfl rfl ?_
      refine so hg33 rfl rfl rfl rfl ?_
      refine so hg33 rfl rfl rfl rfl ?_
      refine so hg33 rfl rfl rfl rfl ?_
      refine so hg33 rfl rfl rfl rfl ?_
      refine so hg33 rfl rfl rfl rfl ?_
      refine spf trivial rfl rfl rfl ?_
      refine sm trivial rfl rfl ?_
      refine so hg40 rfl rfl rfl rfl ?_
      refine so hg40 rfl rfl rfl rfl ?_
      refine so hg40 rfl rfl rfl rfl ?_
      refine so hg40 rfl rfl rfl rfl ?_
      refine so hg40 rfl rfl rfl rfl ?_
      refine spf trivial rfl rfl rfl ?_
      refine sm trivial rfl rfl ?_
      refine so hg47 rfl rfl rfl rfl ?_
      refine so hg47 rfl rfl rfl rfl ?_
      refine so hg47 rfl rfl rfl rfl ?_
      refine so hg47 rfl rfl rfl rfl ?_
      refine so hg47 rfl rfl rfl rfl ?_
      refine spf trivial rfl rfl rfl ?_
      refine sa trivial rfl rfl ?_
      refine St.nil fun a30 h30 => ?_
      refine hK5 _ _ ?_
      refine wp_ret ?_
      repeat (first | with_reducible refine of_then_ret ?_ | with_reducible refine of_block_ret ?_)
      have R : ¬ x = y := fun e => hc29 (by rw [e])
      exact ret_tmp (t := 4) h30 rfl rfl ⟨by rw [bdec_false R], hW3.bel⟩
    ·rw [hb] at h10
     have h9 : ¬ x.b = y.b := ne_of_beq_false hb
     have hc31 : ¬ x.b = y.b := h9
     clear h9
     clear hb
     refine St.go h10 ?_; clear h10 a10
     refine so hg19 rfl rfl rfl rfl ?_
     refine so hg19 rfl rfl rfl rfl ?_
     refine so hg19 rfl rfl rfl rfl ?_
     refine so hg19 rfl rfl rfl rfl ?_
     refine so hg19 rfl rfl rfl rfl ?_
     refine spf trivial rfl rfl rfl ?_
     refine sm trivial rfl rfl ?_
     refine so hg26 rfl rfl rfl rfl ?_
     refine so hg26 rfl rfl rfl rfl ?_
     refine so hg26 rfl rfl rfl rfl ?_
     refine so hg26 rfl rfl rfl rfl ?_
     refine so hg26 rfl rfl rfl rfl ?_
     refine spf trivial rfl rfl rfl ?_
     refine sm trivial rfl rfl ?_
     refine so hg33 rfl rfl rfl rfl ?_
     refine so hg33 rfl rfl rfl rfl ?_
     refine so hg33 rfl rfl rfl rfl ?_
     refine so hg33 rfl rfl rfl rfl ?_
     refine so hg33 rfl rfl rfl rfl ?_
     refine spf trivial rfl rfl rfl ?_
     refine sm trivial rfl rfl ?_
     refine so hg40 rfl rfl rfl rfl ?_
     refine so hg40 rfl rfl rfl rfl ?_
     refine so hg40 rfl rfl rfl rfl ?_
     refine so hg40 rfl rfl rfl rfl ?_
     refine so hg40 rfl rfl rfl rfl ?_
     refine spf trivial rfl rfl rfl ?_
     refine sm trivial rfl rfl ?_
     refine so hg47 rfl rfl rfl rfl ?_
     refine so hg47 rfl rfl rfl rfl ?_
     refine so hg47 rfl rfl rfl rfl ?_
     refine so hg47 rfl rfl rfl rfl ?_
     refine so hg47 rfl rfl rfl rfl ?_
     refine spf trivial rfl rfl rfl ?_
     refine sa trivial rfl rfl ?_
     refine St.nil fun a32 h32 => ?_
     refine hK5 _ _ ?_
     refine wp_ret ?_
     repeat (first | with_reducible refine of_then_ret ?_ | with_reducible refine of_block_ret ?_)
     have R : ¬ x = y := fun e => hc31 (by rw [e])
     exact ret_tmp (t := 4) h32 rfl rfl ⟨by rw [bdec_false R], hW3.bel⟩
   ·rw [hb] at h8
    have h9 : ¬ x.a = y.a := ne_of_beq_false hb
    have hc33 : ¬ x.a = y.a := h9
    clear h9
    clear hb
    refine St.go h8 ?_; clear h8 a8
    refine so hg12 rfl rfl rfl rfl ?_
    refine so hg12 rfl rfl rfl rfl ?_
    refine so hg12 rfl rfl rfl rfl ?_
    refine so hg12 rfl rfl rfl rfl ?_
    refine so hg12 rfl rfl rfl rfl ?_
    refine spf trivial rfl rfl rfl ?_
    refine sm trivial rfl rfl ?_
    refine so hg19 rfl rfl rfl rfl ?_
    refine so hg19 rfl rfl rfl rfl ?_
    refine so hg19 rfl rfl rfl rfl ?_
    refine so hg19 rfl rfl rfl rfl ?_
    refine so hg19 rfl rfl rfl rfl ?_
    refine spf trivial rfl rfl rfl ?_
    refine sm trivial rfl rfl ?_
    refine so hg26 rfl rfl rfl rfl ?_
    refine so hg26 rfl rfl rfl rfl ?_
    refine so hg26 rfl rfl rfl rfl ?_
    refine so hg26 rfl rfl rfl rfl ?_
    refine so hg26 rfl rfl rfl rfl ?_
    refine spf trivial rfl rfl rfl ?_
    refine sm trivial rfl rfl ?_
    refine so hg33 rfl rfl rfl rfl ?_
    refine so hg33 rfl rfl rfl rfl ?_
    refine so hg33 rfl rfl rfl rfl ?_
    refine so hg33 rfl rfl rfl rfl ?_
    refine so hg33 rfl rfl rfl rfl ?_
    refine spf trivial rfl rfl rfl ?_
    refine sm trivial rfl rfl ?_
    refine so hg40 rfl rfl rfl rfl ?_
    refine so hg40 rfl rfl rfl rfl ?_
    refine so hg40 rfl rfl rfl rfl ?_
    refine so hg40 rfl rfl rfl rfl ?_
    refine so hg40 rfl rfl rfl rfl ?_
    refine spf trivial rfl rfl rfl ?_
    refine sm trivial rfl rfl ?_
    refine so hg47 rfl rfl rfl rfl ?_
    refine so hg47 rfl rfl rfl rfl ?_
    refine so hg47 rfl rfl rfl rfl ?_
    refine so hg47 rfl rfl rfl rfl ?_
    refine so hg47 rfl rfl rfl rfl ?_
    refine spf trivial rfl rfl rfl ?_
    refine sa trivial rfl rfl ?_
    refine St.nil fun a34 h34 => ?_
    refine hK5 _ _ ?_
    refine wp_ret ?_
    repeat (first | with_reducible refine of_then_ret ?_ | with_reducible refine of_block_ret ?_)
    have R : ¬ x = y := fun e => hc33 (by rw [e])
    exact ret_tmp (t := 4) h34 rfl rfl ⟨by rw [bdec_false R], hW3.bel⟩
  ·rw [hb] at h6
   have h9 : ¬ x.op = y.op := ne_of_beq_false hb
   have hc35 : ¬ x.op = y.op := h9
   clear h9
   clear hb
   refine St.go h6 ?_; clear h6 a6
   refine so hg5 rfl rfl rfl rfl ?_
   refine so hg5 rfl rfl rfl rfl ?_
   refine so hg5 rfl rfl rfl rfl ?_
   refine so hg5 rfl rfl rfl rfl ?_
   refine so hg5 rfl rfl rfl rfl ?_
   refine spf trivial rfl rfl rfl ?_
   refine sm trivial rfl rfl ?_
   refine so hg12 rfl rfl rfl rfl ?_
   refine so hg12 rfl rfl rfl rfl ?_
   refine so hg12 rfl rfl rfl rfl ?_
   refine so hg12 rfl rfl rfl rfl ?_
   refine so hg12 rfl rfl rfl rfl ?_
   refine spf trivial rfl rfl rfl ?_
   refine sm trivial rfl rfl ?_
   refine so hg19 rfl rfl rfl rfl ?_
   refine so hg19 rfl rfl rfl rfl ?_
   refine so hg19 rfl rfl rfl rfl ?_
   refine so hg19 rfl rfl rfl rfl ?_
   refine so hg19 rfl rfl rfl rfl ?_
   refine spf trivial rfl rfl rfl ?_
   refine sm trivial rfl rfl ?_
   refine so hg26 rfl rfl rfl rfl ?_
   refine so hg26 rfl rfl rfl rfl ?_
   refine so hg26 rfl rfl rfl rfl ?_
   refine so hg26 rfl rfl rfl rfl ?_
   refine so hg26 rfl rfl rfl rfl ?_
   refine spf trivial rfl rfl rfl ?_
   refine sm trivial rfl rfl ?_
   refine so hg33 rfl rfl rfl rfl ?_
   refine so hg33 rfl rfl rfl rfl ?_
   refine so hg33 rfl rfl rfl rfl ?_
   refine so hg33 rfl rfl rfl rfl ?_
   refine so hg33 rfl rfl rfl rfl ?_
   refine spf trivial rfl rfl rfl ?_
   refine sm trivial rfl rfl ?_
   refine so hg40 rfl rfl rfl rfl ?_
   refine so hg40 rfl rfl rfl rfl ?_
   refine so hg40 rfl rfl rfl rfl ?_
   refine so hg40 rfl rfl rfl rfl ?_
   refine so hg40 rfl rfl rfl rfl ?_
   refine spf trivial rfl rfl rfl ?_
   refine sm trivial rfl rfl ?_
   refine so hg47 rfl rfl rfl rfl ?_
   refine so hg47 rfl rfl rfl rfl ?_
   refine so hg47 rfl rfl rfl rfl ?_
   refine so hg47 rfl rfl rfl rfl ?_
   refine so hg47 rfl rfl rfl rfl ?_
   refine spf trivial rfl rfl rfl ?_
   refine sa trivial rfl rfl ?_
   refine St.nil fun a36 h36 => ?_
   refine hK5 _ _ ?_
   refine wp_ret ?_
   repeat (first | with_reducible refine of_then_ret ?_ | with_reducible refine of_block_ret ?_)
   have R : ¬ x = y := fun e => hc35 (by rw [e])
   exact ret_tmp (t := 4) h36 rfl rfl ⟨by rw [bdec_false R], hW3.bel⟩

set_option maxHeartbeats 4000000 in
set_option maxRecDepth 100000 in
theorem cSameEnd_any {x y : MEnd} {e f : EP} {w : World} (hx0 : EIn w All x e) (hy0 : EIn w All y f) (hs0 : x.small) :
    Rd Try.prog 105 #[.agg #[.int .i64 x.op, .int .i64 x.a, .int .i64 x.yes.block, .slice e.pYR x.yes.regs.length e.cYR, .slice e.pYA x.yes.args.length e.cYA, .int .i64 x.no.block, .slice e.pNR x.no.regs.length e.cNR, .slice e.pNA x.no.args.length e.cNA, .slice e.pA x.args.length e.cA], .agg #[.int .i64 y.op, .int .i64 y.a, .int .i64 y.yes.block, .slice f.pYR y.yes.regs.length f.cYR, .slice f.pYA y.yes.args.length f.cYA, .int .i64 y.no.block, .slice f.pNR y.no.regs.length f.cNR, .slice f.pNA y.no.args.length f.cNA, .slice f.pA y.args.length f.cA]] w (.bool (bdec (x = y))) := by
  have hx : Hid _ := hx0
  have hy : Hid _ := hy0
  have hs : Hid _ := hs0
  clear hx0 hy0 hs0
  refine fr_enter (n := 38) Try.func105 rfl rfl rfl ?_
  intro a hF
  have hW := Wd.start w
  replace hF : Fr 38 a [(0, .agg #[.int .i64 x.op, .int .i64 x.a, .int .i64 x.yes.block, .slice e.pYR x.yes.regs.length e.cYR, .slice e.pYA x.yes.args.length e.cYA, .int .i64 x.no.block, .slice e.pNR x.no.regs.length e.cNR, .slice e.pNA x.no.args.length e.cNA, .slice e.pA x.args.length e.cA]), (1, .agg #[.int .i64 y.op, .int .i64 y.a, .int .i64 y.yes.block, .slice f.pYR y.yes.regs.length f.cYR, .slice f.pYA y.yes.args.length f.cYA, .int .i64 y.no.block, .slice f.pNR y.no.regs.length f.cNR, .slice f.pNA y.no.args.length f.cNA, .slice f.pA y.args.length f.cA])] := hF
  refine wp_seq_k ?_
  intro K1 hK1
  refine fr_region ?_
  intro ops hops
  clear hops
  refine St.go hF ?_; clear hF a
  refine sB hW trivial rfl rfl ?_
  clear hW; intro w2 B2 hW2 hN; clear hN
  refine sB hW2 trivial rfl rfl ?_
  clear hW2; intro w3 B3 hW3 hN; clear hN
  refine sa trivial rfl rfl ?_
  refine St.nil fun a4 h4 => ?_
  refine hK1 _ _ ?_
  refine wp_seq_k ?_
  intro K5 hK5
  refine fr_region ?_
  intro ops hops
  have hg5 : (ops[5]?).bind (fun o : Oper => o.dst) = some 10 := hops 5
  have hg12 : (ops[12]?).bind (fun o : Oper => o.dst) = some 17 := hops 12
  have hg19 : (ops[19]?).bind (fun o : Oper => o.dst) = some 24 := hops 19
  have hg26 : (ops[26]?).bind (fun o : Oper => o.dst) = some 31 := hops 26
  clear hops
  refine St.go h4 ?_; clear h4 a4
  refine sfEnd0 trivial rfl rfl ?_
  refine sbInt 1 hW3 trivial rfl rfl rfl rfl ?_
  refine sfEnd0 trivial rfl rfl ?_
  refine sbInt 0 hW3 trivial rfl rfl rfl rfl ?_
  refine seq trivial rfl rfl rfl ?_
  refine sm trivial rfl rfl ?_
  intro a6 h6
  rcases Bool.eq_false_or_eq_true (x.op == y.op) with hb | hb
  ·rw [hb] at h6
   have h9 : x.op = y.op := eq_of_beq hb
   have hc7 : Hid (x.op = y.op) := h9
   clear h9
   clear hb
   refine St.go h6 ?_; clear h6 a6
   refine sfEnd1 ⟨_, hg5, rfl, rfl⟩ rfl rfl ?_
   refine sbInt 1 hW3 ⟨_, hg5, rfl, rfl⟩ rfl rfl rfl rfl ?_
   refine sfEnd1 ⟨_, hg5, rfl, rfl⟩ rfl rfl ?_
   refine sbInt 0 hW3 ⟨_, hg5, rfl, rfl⟩ rfl rfl rfl rfl ?_
   refine seq ⟨_, hg5, rfl, rfl⟩ rfl rfl rfl ?_
   refine sp trivial rfl rfl rfl ?_
   refine sm trivial rfl rfl ?_
   intro a8 h8
   rcases Bool.eq_false_or_eq_true (x.a == y.a) with hb | hb
   ·rw [hb] at h8
    have h9 : x.a = y.a := eq_of_beq hb
    have hc9 : Hid (x.a = y.a) := h9
    clear h9
    clear hb
    refine St.go h8 ?_; clear h8 a8
    refine sfEnd2 ⟨_, hg12, rfl, rfl⟩ rfl rfl ?_
    refine sS 1 3 Try.underlying52 rfl infTo hW3 ⟨_, hg12, rfl, rfl⟩ rfl rfl rfl rfl ?_
    refine sfEnd2 ⟨_, hg12, rfl, rfl⟩ rfl rfl ?_
    refine sS 0 3 Try.underlying52 rfl infTo hW3 ⟨_, hg12, rfl, rfl⟩ rfl rfl rfl rfl ?_
    refine sc_2 cf114 hW3 (cSameTo_any (hx.out.yes.below hW3.bel) (hy.out.yes.below hW3.bel) hs.out.1) ⟨_, hg12, rfl, rfl⟩ rfl rfl rfl ?_
    clear hW3; intro w10 hW10
    refine sp trivial rfl rfl rfl ?_
    refine sm trivial rfl rfl ?_
    intro a11 h11
    rcases Bool.eq_false_or_eq_true (bdec (x.yes = y.yes)) with hb | hb
    ·rw [hb] at h11
     have hc12 : (x.yes = y.yes) := bdec_iff.1 hb
     clear hb
     refine St.go h11 ?_; clear h11 a11
     refine sfEnd3 ⟨_, hg19, rfl, rfl⟩ rfl rfl ?_
     refine sS 1 3 Try.underlying52 rfl infTo hW10 ⟨_, hg19, rfl, rfl⟩ rfl rfl rfl rfl ?_
     refine sfEnd3 ⟨_, hg19, rfl, rfl⟩ rfl rfl ?_
     refine sS 0 3 Try.underlying52 rfl infTo hW10 ⟨_, hg19, rfl, rfl⟩ rfl rfl rfl rfl ?_
     refine sc_2 cf114 hW10 (cSameTo_any (hx.out.no.below hW10.bel) (hy.out.no.below hW10.bel) hs.out.2.1) ⟨_, hg19, rfl, rfl⟩ rfl rfl rfl ?_
     clear hW10; intro w13 hW13
     refine sp trivial rfl rfl rfl ?_
     refine sm trivial rfl rfl ?_
     intro a14 h14
     rcases Bool.eq_false_or_eq_true (bdec (x.no = y.no)) with hb | hb
     ·rw [hb] at h14
      have hc15 : (x.no = y.no) := bdec_iff.1 hb
      clear hb
      refine St.go h14 ?_; clear h14 a14
      refine sfEnd4 ⟨_, hg26, rfl, rfl⟩ rfl rfl ?_
      refine sbInts 1 hW13 ⟨_, hg26, rfl, rfl⟩ rfl rfl rfl rfl ?_
      refine sfEnd4 ⟨_, hg26, rfl, rfl⟩ rfl rfl ?_
      refine sbInts 0 hW13 ⟨_, hg26, rfl, rfl⟩ rfl rfl rfl rfl ?_
      refine sc_2 cf113 hW13 (equal_any x.args y.args e.pA f.pA e.cA f.cA w13 (Lay.below hx.out.args hW13.bel) (Lay.below hy.out.args hW13.bel) (by have := hs.out.2.2; omega)) ⟨_, hg26, rfl, rfl⟩ rfl rfl rfl ?_
      clear hW13; intro w16 hW16
      refine sp trivial rfl rfl rfl ?_
      refine sa trivial rfl rfl ?_
      refine St.nil fun a17 h17 => ?_
      refine hK5 _ _ ?_
      refine wp_ret ?_
      repeat (first | with_reducible refine of_then_ret ?_ | with_reducible refine of_block_ret ?_)
      have R : x.args = y.args ↔ x = y := ⟨fun h => MEnd.eq_of hc7.out hc9.out hc12 hc15 h, fun e => by rw [e]⟩
      exact ret_tmp (t := 4) h17 rfl rfl ⟨by rw [bdec_congr R], hW16.bel⟩
     ·rw [hb] at h14
      have hc18 : ¬ (x.no = y.no) := fun h => by rw [bdec_true h] at hb; cases hb
      clear hb
      refine St.go h14 ?_; clear h14 a14
      refine so hg26 rfl rfl rfl rfl ?_
      refine so hg26 rfl rfl rfl rfl ?_
      refine so hg26 rfl rfl rfl rfl ?_
      refine so hg26 rfl rfl rfl rfl ?_
      refine so hg26 rfl rfl rfl rfl ?_
      refine spf trivial rfl rfl rfl ?_
      refine sa trivial rfl rfl ?_
      refine St.nil fun a19 h19 => ?_
      refine hK5 _ _ ?_
      refine wp_ret ?_
      repeat (first | with_reducible refine of_then_ret ?_ | with_reducible refine of_block_ret ?_)
      have R : ¬ x = y := fun e => hc18 (by rw [e])
      exact ret_tmp (t := 4) h19 rfl rfl ⟨by rw [bdec_false R], hW13.bel⟩
    ·rw [hb] at h11
     have hc20 : ¬ (x.yes = y.yes) := fun h => by rw [bdec_true h] at hb; cases hb
     clear hb
     refine St.go h11 ?_; clear h11 a11
     refine so hg19 rfl rfl rfl rfl ?_
     refine so hg19 rfl rfl rfl rfl ?_
     refine so hg19 rfl rfl rfl rfl ?_
     refine so hg19 rfl rfl rfl rfl ?_
     refine so hg19 rfl rfl rfl rfl ?_
     refine spf trivial rfl rfl rfl ?_
     refine sm trivial rfl rfl ?_
     refine so hg26 rfl rfl rfl rfl ?_
     refine so hg26 rfl rfl rfl rfl ?_
     refine so hg26 rfl rfl rfl rfl ?_
     refine so hg26 rfl rfl rfl rfl ?_
     refine so hg26 rfl rfl rfl rfl ?_
     refine spf trivial rfl rfl rfl ?_
     refine sa trivial rfl rfl ?_
     refine St.nil fun a21 h21 => ?_
     refine hK5 _ _ ?_
     refine wp_ret ?_
     repeat (first | with_reducible refine of_then_ret ?_ | with_reducible refine of_block_ret ?_)
     have R : ¬ x = y := fun e => hc20 (by rw [e])
     exact ret_tmp (t := 4) h21 rfl rfl ⟨by rw [bdec_false R], hW10.bel⟩
   ·rw [hb] at h8
    have h9 : ¬ x.a = y.a := ne_of_beq_false hb
    have hc22 : ¬ x.a = y.a := h9
    clear h9
    clear hb
    refine St.go h8 ?_; clear h8 a8
    refine so hg12 rfl rfl rfl rfl ?_
    refine so hg12 rfl rfl rfl rfl ?_
    refine so hg12 rfl rfl rfl rfl ?_
    refine so hg12 rfl rfl rfl rfl ?_
    refine so hg12 rfl rfl rfl rfl ?_
    refine spf trivial rfl rfl rfl ?_
    refine sm trivial rfl rfl ?_
    refine so hg19 rfl rfl rfl rfl ?_
    refine so hg19 rfl rfl rfl rfl ?_
    refine so hg19 rfl rfl rfl rfl ?_
    refine so hg19 rfl rfl rfl rfl ?_
    refine so hg19 rfl rfl rfl rfl ?_
    refine spf trivial rfl rfl rfl ?_
    refine sm trivial rfl rfl ?_
    refine so hg26 rfl rfl rfl rfl ?_
    refine so hg26 rfl rfl rfl rfl ?_
    refine so hg26 rfl rfl rfl rfl ?_
    refine so hg26 rfl rfl rfl rfl ?_
    refine so hg26 rfl rfl rfl rfl ?_
    refine spf trivial rfl rfl rfl ?_
    refine sa trivial rfl rfl ?_
    refine St.nil fun a23 h23 => ?_
    refine hK5 _ _ ?_
    refine wp_ret ?_
    repeat (first | with_reducible refine of_then_ret ?_ | with_reducible refine of_block_ret ?_)
    have R : ¬ x = y := fun e => hc22 (by rw [e])
    exact ret_tmp (t := 4) h23 rfl rfl ⟨by rw [bdec_false R], hW3.bel⟩
  ·rw [hb] at h6
   have h9 : ¬ x.op = y.op := ne_of_beq_false hb
   have hc24 : ¬ x.op = y.op := h9
   clear h9
   clear hb
   refine St.go h6 ?_; clear h6 a6
   refine so hg5 rfl rfl rfl rfl ?_
   refine so hg5 rfl rfl rfl rfl ?_
   refine so hg5 rfl rfl rfl rfl ?_
   refine so hg5 rfl rfl rfl rfl ?_
   refine so hg5 rfl rfl rfl rfl ?_
   refine spf trivial rfl rfl rfl ?_
   refine sm trivial rfl rfl ?_
   refine so hg12 rfl rfl rfl rfl ?_
   refine so hg12 rfl rfl rfl rfl ?_
   refine so hg12 rfl rfl rfl rfl ?_
   refine so hg12 rfl rfl rfl rfl ?_
   refine so hg12 rfl rfl rfl rfl ?_
   refine spf trivial rfl rfl rfl ?_
   refine sm trivial rfl rfl ?_
   refine so hg19 rfl rfl rfl rfl ?_
   refine so hg19 rfl rfl rfl rfl ?_
   refine so hg19 rfl rfl rfl rfl ?_
   refine so hg19 rfl rfl rfl rfl ?_
   refine so hg19 rfl rfl rfl rfl ?_
   refine spf trivial rfl rfl rfl ?_
   refine sm trivial rfl rfl ?_
   refine so hg26 rfl rfl rfl rfl ?_
   refine so hg26 rfl rfl rfl rfl ?_
   refine so hg26 rfl rfl rfl rfl ?_
   refine so hg26 rfl rfl rfl rfl ?_
   refine so hg26 rfl rfl rfl rfl ?_
   refine spf trivial rfl rfl rfl ?_
   refine sa trivial rfl rfl ?_
   refine St.nil fun a25 h25 => ?_
   refine hK5 _ _ ?_
   refine wp_ret ?_
   repeat (first | with_reducible refine of_then_ret ?_ | with_reducible refine of_block_ret ?_)
   have R : ¬ x = y := fun e => hc24 (by rw [e])
   exact ret_tmp (t := 4) h25 rfl rfl ⟨by rw [bdec_false R], hW3.bel⟩

set_option maxHeartbeats 4000000 in
set_option maxRecDepth 100000 in
theorem eqIns_any {l m : List MIns} {p p2 : Option Addr} {c d : Nat} {w : World} (hl0 : insL.list.In w All l [.slice p l.length c]) (hm0 : insL.list.In w All m [.slice p2 m.length d]) (hs0 : l.length ≤ 200 ∧ ∀ x ∈ l, x.small) :
    Rd Try.prog 103 #[.slice p l.length c, .slice p2 m.length d, .func (.func 104) #[] #[]] w (.bool (bdec (l = m))) := by
  have hlb := hs0.1
  have hl : Hid _ := hl0
  have hm : Hid _ := hm0
  have hs : Hid _ := hs0.2
  clear hl0 hm0 hs0
  refine fr_enter (n := 32) Try.func103 rfl rfl rfl ?_
  intro a hF
  have hW := Wd.start w
  replace hF : Fr 32 a [(0, .slice p l.length c), (1, .slice p2 m.length d), (2, .func (.func 104) #[] #[])] := hF
  refine wp_seq_k ?_
  intro K1 hK1
  refine fr_region ?_
  intro ops hops
  clear hops
  refine St.go hF ?_; clear hF a
  refine sa trivial rfl rfl ?_
  refine St.nil fun a2 h2 => ?_
  refine hK1 _ _ ?_
  refine wp_seq_k ?_
  intro K3 hK3
  refine wp_seq_k ?_
  intro K4 hK4
  refine fr_region ?_
  intro ops hops
  clear hops
  refine St.go h2 ?_; clear h2 a2
  refine sm trivial rfl rfl ?_
  refine slInss trivial rfl rfl ?_
  refine sm trivial rfl rfl ?_
  refine slInss trivial rfl rfl ?_
  refine sne trivial rfl rfl rfl ?_
  refine St.nil fun a5 h5 => ?_
  refine hK4 _ _ ?_
  refine fr_cond (t := 14) h5 rfl (fun hb => ?_) (fun hb => ?_)
  ·have h9 : ¬ l.length = m.length := by have h8 := bne_iff_ne.1 hb; omega
   have hlen : ¬ l.length = m.length := h9
   clear h9
   clear hb
   refine wp_seq_k ?_
   intro K6 hK6
   refine fr_region ?_
   intro ops hops
   clear hops
   refine St.go h5 ?_; clear h5 a5
   refine sa trivial rfl rfl ?_
   refine St.nil fun a7 h7 => ?_
   refine hK6 _ _ ?_
   refine wp_ret ?_
   repeat (first | with_reducible refine of_then_ret ?_ | with_reducible refine of_block_ret ?_)
   have R : ¬ l = m := fun e => hlen (by rw [e])
   exact ret_tmp (t := 6) h7 rfl rfl ⟨by rw [bdec_false R], hW.bel⟩
  ·have h9 : l.length = m.length := by have h8 := bne_eq_false_iff_eq.1 hb; omega
   have hlen : Hid (l.length = m.length) := h9
   clear h9
   clear hb
   refine wp_skip ?_
   refine hK3 _ _ ?_
   refine wp_seq_k ?_
   intro K8 hK8
   refine wp_seq_k ?_
   intro K9 hK9
   refine fr_region ?_
   intro ops hops
   clear hops
   refine St.go h5 ?_; clear h5 a5
   refine sm trivial rfl rfl ?_
   refine slInss trivial rfl rfl ?_
   refine sm trivial rfl rfl ?_
   refine St.nil fun a10 h10 => ?_
   refine hK9 _ _ ?_
   refine wp_block ?_
   refine fr_loop (fun r a w' => ∃ q : Nat, q ≤ l.length ∧ r = l.length - q ∧ (∀ j, j < q → l[j]? = m[j]?) ∧ Fr 32 a [(2, .func (.func 104) #[] #[]), (1, .slice p2 m.length d), (0, .slice p l.length c), (6, .bool false), (15, .slice p l.length c), (16, .int .i64 (l.length : Int)), (17, .int .i64 (q : Int))] ∧ Wd w w' []) (l.length) ⟨0, Nat.zero_le _, rfl, (fun j hj => by omega), (h10.keep (h10.keep (h10.keep (h10.keep (h10.keep (h10.keep (h10.keep h10.nil (t := 17) rfl) (t := 16) rfl) (t := 15) rfl) (t := 6) rfl) (t := 0) rfl) (t := 1) rfl) (t := 2) rfl), hW⟩ ?_
   clear h10 hW
   rintro r a11 w11 ⟨q, hq, hr, hall, hF11, hW11⟩ KL hKL
   refine wp_seq_k ?_
   intro K12 hK12
   refine fr_region ?_
   intro ops hops
   clear hops
   refine St.go hF11 ?_; clear hF11 a11
   refine slt trivial rfl rfl rfl ?_
   refine St.nil fun a13 h13 => ?_
   refine hK12 _ _ ?_
   refine wp_seq_k ?_
   intro K14 hK14
   refine fr_cond (t := 18) h13 rfl (fun hb => ?_) (fun hb => ?_)
   ·have hlt1 : q < l.length := by have := of_decide_eq_true hb; omega
    have hlt2 : q < m.length := by have := hlen.out; omega
    clear hb
    obtain ⟨x, hx1⟩ : ∃ v9, (l)[q]? = some v9 := ⟨_, List.getElem?_eq_getElem hlt1⟩
    obtain ⟨g1, o1, i1, hp1, E1, In1⟩ := ins_at hl.out hx1
    replace In1 : Hid _ := In1
    replace hp1 : Hid _ := hp1
    replace hx1 : Hid _ := hx1
    replace E1 : Hid _ := E1
    obtain ⟨y, hx2⟩ : ∃ v9, (m)[q]? = some v9 := ⟨_, List.getElem?_eq_getElem hlt2⟩
    obtain ⟨g2, o2, i2, hp2, E2, In2⟩ := ins_at hm.out hx2
    replace In2 : Hid _ := In2
    replace hp2 : Hid _ := hp2
    replace hx2 : Hid _ := hx2
    replace E2 : Hid _ := E2
    refine wp_skip ?_
    refine hK14 _ _ ?_
    refine wp_seq_k ?_
    intro K15 hK15
    refine wp_block ?_
    refine wp_seq_k ?_
    intro K16 hK16
    refine fr_region ?_
    intro ops hops
    clear hops
    refine St.go h13 ?_; clear h13 a13
    refine sm trivial rfl rfl ?_
    refine siInss hp1.out hlt1 trivial rfl rfl rfl ?_
    refine sSE Try.underlying46 rfl (rangeAt_bel E1.out hW11.bel) infIns trivial rfl rfl ?_
    refine sAIns hW11 trivial rfl ?_
    clear hW11; intro w17 B17 hW17 hN; clear hN
    refine sa trivial rfl rfl ?_
    refine sT 0 hW17 rfl rfl infIns rfl rfl rfl ?_
    clear hW17; intro w18 hW18
    refine St.nil fun a19 h19 => ?_
    refine hK16 _ _ ?_
    refine wp_seq_k ?_
    intro K20 hK20
    refine fr_region ?_
    intro ops hops
    clear hops
    refine St.go h19 ?_; clear h19 a19
    refine sm trivial rfl rfl ?_
    refine sm trivial rfl rfl ?_
    refine siInss hp2.out hlt2 trivial rfl rfl rfl ?_
    refine sSE Try.underlying46 rfl (rangeAt_bel E2.out hW18.bel) infIns trivial rfl rfl ?_
    refine sAIns hW18 trivial rfl ?_
    clear hW18; intro w21 B21 hW21 hN; clear hN
    refine sT 0 hW21 rfl rfl infIns rfl rfl rfl ?_
    clear hW21; intro w22 hW22
    refine St.nil fun a23 h23 => ?_
    refine hK20 _ _ ?_
    refine wp_seq_k ?_
    intro K24 hK24
    refine fr_region ?_
    intro ops hops
    clear hops
    refine St.go h23 ?_; clear h23 a23
    refine sm trivial rfl rfl ?_
    refine sS 1 8 Try.underlying46 rfl infIns hW22 trivial rfl rfl rfl rfl ?_
    refine sS 0 8 Try.underlying46 rfl infIns hW22 trivial rfl rfl rfl rfl ?_
    refine sv_20 cf104 hW22 (cSameIns_any (In1.out.below hW22.bel) (In2.out.below hW22.bel) (hs.out _ (List.mem_of_getElem? hx1.out))) trivial rfl rfl rfl rfl ?_
    clear hW22; intro w25 hW25
    refine sn trivial rfl rfl ?_
    refine St.nil fun a26 h26 => ?_
    refine hK24 _ _ ?_
    refine fr_cond (t := 30) h26 rfl (fun hb => ?_) (fun hb => ?_)
    ·have hb : (bdec (x = y)) = false := by simpa using hb
     have hel : ¬ (x = y) := fun h => by rw [bdec_true h] at hb; cases hb
     clear hb
     refine wp_seq_k ?_
     intro K27 hK27
     refine fr_region ?_
     intro ops hops
     clear hops
     refine St.go h26 ?_; clear h26 a26
     refine sa trivial rfl rfl ?_
     refine St.nil fun a28 h28 => ?_
     refine hK27 _ _ ?_
     refine wp_ret ?_
     repeat (first | with_reducible refine of_then_ret ?_ | with_reducible refine of_block_ret ?_)
     have R : ¬ l = m := by
       intro e
       have h1 := hx1.out
       rw [e, hx2.out] at h1
       exact hel (Option.some.inj h1).symm
     exact ret_tmp (t := 6) h28 rfl rfl ⟨by rw [bdec_false R], hW25.bel⟩
    ·have hb : (bdec (x = y)) = true := by simpa using hb
     have hel : (x = y) := bdec_iff.1 hb
     clear hb
     refine wp_skip ?_
     refine hK15 _ _ ?_
     refine fr_region ?_
     intro ops hops
     clear hops
     refine St.go h26 ?_; clear h26 a26
     refine sad (by omega) trivial rfl rfl rfl ?_
     refine sm trivial rfl rfl ?_
     refine St.nil fun a29 h29 => ?_
     refine hKL _ _ (l.length - (q + 1)) (by omega) ⟨q + 1, by omega, rfl, ?_, (h29.keep (h29.keep (h29.keep (h29.keep (h29.keep (h29.keep (h29.keep h29.nil (t := 17) rfl) (t := 16) rfl) (t := 15) rfl) (t := 6) rfl) (t := 0) rfl) (t := 1) rfl) (t := 2) rfl), hW25.tail.tail⟩
     ·intro j hj
      by_cases e : j = q
      · subst e; rw [hx1.out, hx2.out, hel]
      · exact hall j (by omega)
   ·have hge : q = l.length := by have := of_decide_eq_false hb; omega
    clear hb
    refine wp_exit ?_
    refine hK8 _ _ ?_
    refine wp_seq_k ?_
    intro K30 hK30
    refine fr_region ?_
    intro ops hops
    clear hops
    refine St.go h13 ?_; clear h13 a13
    refine sa trivial rfl rfl ?_
    refine St.nil fun a31 h31 => ?_
    refine hK30 _ _ ?_
    refine wp_ret ?_
    repeat (first | with_reducible refine of_then_ret ?_ | with_reducible refine of_block_ret ?_)
    have R : l = m := by
      have := hlen.out
      refine List.ext_getElem? fun i => ?_
      by_cases hi : i < q
      · exact hall i hi
      · rw [List.getElem?_eq_none (by omega), List.getElem?_eq_none (by omega)]
    exact ret_tmp (t := 6) h31 rfl rfl ⟨by rw [bdec_true R], hW11.bel⟩
end Go.Proofs.Ytmnmnokkojcodab
