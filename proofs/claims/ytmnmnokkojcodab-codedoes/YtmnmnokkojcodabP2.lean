import Derived.Test.YtmnmnokkojcodabP1
/-
  Are two modules one? The plain parts: equal by their fields; what is no more than is gone through in time.
-/
namespace Go.Proofs.Ytmnmnokkojcodab
open Go.ChangeShapes Go.WideShapes Go.ChangeAt Go.RowKit
set_option linter.unusedVariables false
set_option linter.unusedSimpArgs false

theorem MTo.eq_of {x y : MTo} (h1 : x.block = y.block) (h2 : x.regs = y.regs) (h3 : x.args = y.args) : x = y := by cases x; cases y; simp_all
theorem MIns.eq_of {x y : MIns} (h1 : x.op = y.op) (h2 : x.a = y.a) (h3 : x.b = y.b) (h4 : x.c = y.c) (h5 : x.k = y.k) (h6 : x.n = y.n) (h7 : x.regs = y.regs) (h8 : x.args = y.args) : x = y := by cases x; cases y; simp_all
theorem MEnd.eq_of {x y : MEnd} (h1 : x.op = y.op) (h2 : x.a = y.a) (h3 : x.yes = y.yes) (h4 : x.no = y.no) (h5 : x.args = y.args) : x = y := by cases x; cases y; simp_all
theorem MBlock.eq_of {n : Nat} {x y : MBlock n} (h1 : x.regs = y.regs) (h2 : x.params = y.params) (h3 : x.code = y.code) (h4 : x.fin = y.fin) : x = y := by cases x; cases y; simp_all
theorem MFunc.eq_of {n : Nat} {x y : MFunc n} (h1 : x.regs = y.regs) (h2 : x.params = y.params) (h3 : x.results = y.results) (h4 : x.blocks = y.blocks) : x = y := by cases x; cases y; simp_all
theorem bdec_congr {A B : Prop} (h : A ↔ B) : bdec A = bdec B := by rw [propext h]
/-- No more than is gone through in time. -/
def MTo.small (x : MTo) : Prop := x.regs.length ≤ 300 ∧ x.args.length ≤ 300
def MIns.small (x : MIns) : Prop := x.regs.length ≤ 300 ∧ x.args.length ≤ 300
def MEnd.small (x : MEnd) : Prop := x.yes.small ∧ x.no.small ∧ x.args.length ≤ 300
def tsmall {n : Nat} (l : List (TT n)) : Prop := l.length ≤ 200 ∧ ∀ t ∈ l, t.count ≤ 2000
def MBlock.small {n : Nat} (x : MBlock n) : Prop := x.code.length ≤ 200 ∧ tsmall x.params ∧ x.fin.small ∧ ∀ y ∈ x.code, y.small
def MFunc.small {n : Nat} (x : MFunc n) : Prop := x.blocks.length ≤ 30 ∧ tsmall x.params ∧ tsmall x.results ∧ ∀ y ∈ x.blocks, y.small
def msmall {n : Nat} (m : List (MFunc n)) : Prop := m.length ≤ 20 ∧ ∀ x ∈ m, x.small
theorem tsmall_of {n : Nat} {l : List (TT n)} (h : ¬ greatTs l) : tsmall l := ⟨Nat.le_of_not_lt fun x => h (.inl x), fun t ht => Nat.le_of_not_lt fun x => h (.inr ⟨t, ht, x⟩)⟩
theorem MBlock.small_of {n : Nat} {x : MBlock n} (h : ¬ x.great) : x.small := by
  unfold MBlock.great at h
  simp only [not_or, not_exists, not_and, Nat.not_lt] at h
  obtain ⟨h1, h2, h3, h4, h5, h6, h7, h8⟩ := h
  exact ⟨h1, tsmall_of h2, ⟨⟨h4, h5⟩, ⟨h6, h7⟩, h3⟩, fun y hy => h8 y hy⟩
theorem MFunc.small_of {n : Nat} {x : MFunc n} (h : ¬ x.great) : x.small := by
  unfold MFunc.great at h
  simp only [not_or, not_exists, not_and, Nat.not_lt] at h
  obtain ⟨h1, h2, h3, h4⟩ := h
  exact ⟨h1, tsmall_of h2, tsmall_of h3, fun y hy => MBlock.small_of (h4 y hy)⟩
theorem msmall_of {n : Nat} {m : List (MFunc n)} (h : ¬ greatMod m) : msmall m := by
  unfold greatMod at h
  simp only [not_or, not_exists, not_and, Nat.not_lt] at h
  exact ⟨h.1, fun x hx => MFunc.small_of (h.2 x hx)⟩
theorem rd_says {f : FuncId} {args : Array Value} {w : World} {A : Prop} (h : Calls Try.prog f args w fun e w' => SaysEq e A ∧ Below w.heap.size w w') : Rd Try.prog f args w (.bool (bdec A)) :=
  h.mono fun e w' h => by
    obtain ⟨⟨q, rfl, hq⟩, b⟩ := h
    exact ⟨by rw [bdec_of hq], b⟩
/-- Two lists of types. -/
theorem sameTypes_any {n : Nat} {l m : List (TT n)} {p q : Option Addr} {c d : Nat} {w : World} (hl : (typesL n).In w All l [.slice p l.length c]) (hm : (typesL n).In w All m [.slice q m.length d]) (hs : tsmall l) : Rd Try.prog 51 #[.slice p l.length c, .slice q m.length d] w (.bool (bdec (l = m))) :=
  rd_says (sames_any n (samet_any n) l m p q c d w (types_lin hl).1 (types_lin hm).1 (by have := hs.1; omega) hs.2)
theorem eqTypes_any {n : Nat} {l m : List (TT n)} {p q : Option Addr} {c d : Nat} {w : World} (hl : (typesL n).In w All l [.slice p l.length c]) (hm : (typesL n).In w All m [.slice q m.length d]) (hs : tsmall l) : Rd Try.prog 82 #[.slice p l.length c, .slice q m.length d, .func (.func 83) #[] #[]] w (.bool (bdec (l = m))) :=
  rd_says (eqf_any n (same_any n) l m p q c d w (types_lin hl).1 (types_lin hm).1 (by have := hs.1; omega) hs.2)

set_option maxHeartbeats 4000000 in
set_option maxRecDepth 100000 in
theorem sameTo_any {x y : MTo} {pR pA qR qA : Option Addr} {cR cA dR dA : Nat} {w : World} (hx0 : TIn2 w All x pR cR pA cA) (hy0 : TIn2 w All y qR dR qA dA) (hs0 : x.small) :
    Rd Try.prog 77 #[.agg #[.int .i64 x.block, .slice pR x.regs.length cR, .slice pA x.args.length cA], .agg #[.int .i64 y.block, .slice qR y.regs.length dR, .slice qA y.args.length dA]] w (.bool (bdec (x = y))) := by
  have hx : Hid _ := hx0
  have hy : Hid _ := hy0
  have hs : Hid _ := hs0
  clear hx0 hy0 hs0
  refine fr_enter (n := 24) Try.func77 rfl rfl rfl ?_
  intro a hF
  have hW := Wd.start w
  replace hF : Fr 24 a [(0, .agg #[.int .i64 x.block, .slice pR x.regs.length cR, .slice pA x.args.length cA]), (1, .agg #[.int .i64 y.block, .slice qR y.regs.length dR, .slice qA y.args.length dA])] := hF
  refine wp_seq_k fun K1 hK1 => ?_
  refine rg hF fun ops => ?_; clear hF a
  refine sB hW trivial rfl rfl ?_
  clear hW; intro w2 B2 hW2 hN; clear hN
  refine sB hW2 trivial rfl rfl ?_
  clear hW2; intro w3 B3 hW3 hN; clear hN
  refine sa trivial rfl rfl ?_
  refine St.nil fun a4 h4 => ?_
  refine hK1 _ _ ?_
  refine wp_seq_k fun K5 hK5 => ?_
  refine fr_region ?_
  intro ops hops
  have hg5 : (ops[5]?).bind (fun o : Oper => o.dst) = some 10 := hops 5
  have hg12 : (ops[12]?).bind (fun o : Oper => o.dst) = some 17 := hops 12
  clear hops
  refine St.go h4 ?_; clear h4 a4
  refine sfTo0 trivial rfl rfl ?_
  refine sbInt 1 hW3 trivial rfl rfl rfl rfl ?_
  refine sfTo0 trivial rfl rfl ?_
  refine sbInt 0 hW3 trivial rfl rfl rfl rfl ?_
  refine seq trivial rfl rfl rfl ?_
  refine sm trivial rfl rfl ?_
  intro a6 h6
  rcases Bool.eq_false_or_eq_true (x.block == y.block) with hb | hb
  ·rw [hb] at h6
   have h9 : x.block = y.block := eq_of_beq hb
   have hc7 : Hid (x.block = y.block) := h9
   clear h9
   clear hb
   refine St.go h6 ?_; clear h6 a6
   refine sfTo1 ⟨_, hg5, rfl, rfl⟩ rfl rfl ?_
   refine sbInts 1 hW3 ⟨_, hg5, rfl, rfl⟩ rfl rfl rfl rfl ?_
   refine sfTo1 ⟨_, hg5, rfl, rfl⟩ rfl rfl ?_
   refine sbInts 0 hW3 ⟨_, hg5, rfl, rfl⟩ rfl rfl rfl rfl ?_
   refine sc_2 cf32 hW3 (sameInts_any x.regs y.regs pR qR cR dR w3 (Lay.below hx.out.regs hW3.bel) (Lay.below hy.out.regs hW3.bel) (by have := hs.out.1; omega)) ⟨_, hg5, rfl, rfl⟩ rfl rfl rfl ?_
   clear hW3; intro w8 hW8
   refine sp trivial rfl rfl rfl ?_
   refine sm trivial rfl rfl ?_
   intro a9 h9
   rcases Bool.eq_false_or_eq_true (bdec (x.regs = y.regs)) with hb | hb
   ·rw [hb] at h9
    have hc10 : (x.regs = y.regs) := bdec_iff.1 hb
    clear hb
    refine St.go h9 ?_; clear h9 a9
    refine sfTo2 ⟨_, hg12, rfl, rfl⟩ rfl rfl ?_
    refine sbInts 1 hW8 ⟨_, hg12, rfl, rfl⟩ rfl rfl rfl rfl ?_
    refine sfTo2 ⟨_, hg12, rfl, rfl⟩ rfl rfl ?_
    refine sbInts 0 hW8 ⟨_, hg12, rfl, rfl⟩ rfl rfl rfl rfl ?_
    refine sc_2 cf32 hW8 (sameInts_any x.args y.args pA qA cA dA w8 (Lay.below hx.out.args hW8.bel) (Lay.below hy.out.args hW8.bel) (by have := hs.out.2; omega)) ⟨_, hg12, rfl, rfl⟩ rfl rfl rfl ?_
    clear hW8; intro w11 hW11
    refine sp trivial rfl rfl rfl ?_
    refine sa trivial rfl rfl ?_
    refine St.nil fun a12 h12 => ?_
    refine hK5 _ _ ?_
    refine wp_ret ?_; with_reducible repeat first | refine of_then_ret ?_ | refine of_block_ret ?_
    have R : x.args = y.args ↔ x = y := ⟨fun h => MTo.eq_of hc7.out hc10 h, fun e => by rw [e]⟩
    exact ret_tmp (t := 4) h12 rfl rfl ⟨by rw [bdec_congr R], hW11.bel⟩
   rw [hb] at h9
   have hc13 : ¬ (x.regs = y.regs) := fun h => by rw [bdec_true h] at hb; cases hb
   clear hb
   refine St.go h9 ?_; clear h9 a9
   refine so hg12 rfl rfl rfl rfl ?_
   refine so hg12 rfl rfl rfl rfl ?_
   refine so hg12 rfl rfl rfl rfl ?_
   refine so hg12 rfl rfl rfl rfl ?_
   refine so hg12 rfl rfl rfl rfl ?_
   refine spf trivial rfl rfl rfl ?_
   refine sa trivial rfl rfl ?_
   refine St.nil fun a14 h14 => ?_
   refine hK5 _ _ ?_
   refine wp_ret ?_; with_reducible repeat first | refine of_then_ret ?_ | refine of_block_ret ?_
   have R : ¬ x = y := fun e => hc13 (by rw [e])
   exact ret_tmp (t := 4) h14 rfl rfl ⟨by rw [bdec_false R], hW8.bel⟩
  rw [hb] at h6
  have h9 : ¬ x.block = y.block := ne_of_beq_false hb
  have hc15 : ¬ x.block = y.block := h9
  clear h9
  clear hb
  refine St.go h6 ?_; clear h6 a6
  refine so hg5 rfl rfl rfl rfl ?_
  refine so hg5 rfl rfl rfl rfl ?_
  refine so hg5 rfl rfl rfl rfl ?_
  refine so hg5 rfl rfl rfl rfl ?_
  refine so hg5 rfl rfl rfl rfl ?_
  refine spf trivial rfl rfl rfl ?_
  refine sm trivial rfl rfl ?_
  refine so hg12 rfl rfl rfl rfl ?_
  refine so hg12 rfl rfl rfl rfl ?_
  refine so hg12 rfl rfl rfl rfl ?_
  refine so hg12 rfl rfl rfl rfl ?_
  refine so hg12 rfl rfl rfl rfl ?_
  refine spf trivial rfl rfl rfl ?_
  refine sa trivial rfl rfl ?_
  refine St.nil fun a16 h16 => ?_
  refine hK5 _ _ ?_
  refine wp_ret ?_; with_reducible repeat first | refine of_then_ret ?_ | refine of_block_ret ?_
  have R : ¬ x = y := fun e => hc15 (by rw [e])
  exact ret_tmp (t := 4) h16 rfl rfl ⟨by rw [bdec_false R], hW3.bel⟩

set_option maxHeartbeats 4000000 in
set_option maxRecDepth 100000 in
theorem cSameTo_any {x y : MTo} {pR pA qR qA : Option Addr} {cR cA dR dA : Nat} {w : World} (hx0 : TIn2 w All x pR cR pA cA) (hy0 : TIn2 w All y qR dR qA dA) (hs0 : x.small) :
    Rd Try.prog 114 #[.agg #[.int .i64 x.block, .slice pR x.regs.length cR, .slice pA x.args.length cA], .agg #[.int .i64 y.block, .slice qR y.regs.length dR, .slice qA y.args.length dA]] w (.bool (bdec (x = y))) := by
  have hx : Hid _ := hx0
  have hy : Hid _ := hy0
  have hs : Hid _ := hs0
  clear hx0 hy0 hs0
  refine fr_enter (n := 24) Try.func114 rfl rfl rfl ?_
  intro a hF
  have hW := Wd.start w
  replace hF : Fr 24 a [(0, .agg #[.int .i64 x.block, .slice pR x.regs.length cR, .slice pA x.args.length cA]), (1, .agg #[.int .i64 y.block, .slice qR y.regs.length dR, .slice qA y.args.length dA])] := hF
  refine wp_seq_k fun K1 hK1 => ?_
  refine rg hF fun ops => ?_; clear hF a
  refine sB hW trivial rfl rfl ?_
  clear hW; intro w2 B2 hW2 hN; clear hN
  refine sB hW2 trivial rfl rfl ?_
  clear hW2; intro w3 B3 hW3 hN; clear hN
  refine sa trivial rfl rfl ?_
  refine St.nil fun a4 h4 => ?_
  refine hK1 _ _ ?_
  refine wp_seq_k fun K5 hK5 => ?_
  refine fr_region ?_
  intro ops hops
  have hg5 : (ops[5]?).bind (fun o : Oper => o.dst) = some 10 := hops 5
  have hg12 : (ops[12]?).bind (fun o : Oper => o.dst) = some 17 := hops 12
  clear hops
  refine St.go h4 ?_; clear h4 a4
  refine sfTo0 trivial rfl rfl ?_
  refine sbInt 1 hW3 trivial rfl rfl rfl rfl ?_
  refine sfTo0 trivial rfl rfl ?_
  refine sbInt 0 hW3 trivial rfl rfl rfl rfl ?_
  refine seq trivial rfl rfl rfl ?_
  refine sm trivial rfl rfl ?_
  intro a6 h6
  rcases Bool.eq_false_or_eq_true (x.block == y.block) with hb | hb
  ·rw [hb] at h6
   have h9 : x.block = y.block := eq_of_beq hb
   have hc7 : Hid (x.block = y.block) := h9
   clear h9
   clear hb
   refine St.go h6 ?_; clear h6 a6
   refine sfTo1 ⟨_, hg5, rfl, rfl⟩ rfl rfl ?_
   refine sbInts 1 hW3 ⟨_, hg5, rfl, rfl⟩ rfl rfl rfl rfl ?_
   refine sfTo1 ⟨_, hg5, rfl, rfl⟩ rfl rfl ?_
   refine sbInts 0 hW3 ⟨_, hg5, rfl, rfl⟩ rfl rfl rfl rfl ?_
   refine sc_2 cf113 hW3 (equal_any x.regs y.regs pR qR cR dR w3 (Lay.below hx.out.regs hW3.bel) (Lay.below hy.out.regs hW3.bel) (by have := hs.out.1; omega)) ⟨_, hg5, rfl, rfl⟩ rfl rfl rfl ?_
   clear hW3; intro w8 hW8
   refine sp trivial rfl rfl rfl ?_
   refine sm trivial rfl rfl ?_
   intro a9 h9
   rcases Bool.eq_false_or_eq_true (bdec (x.regs = y.regs)) with hb | hb
   ·rw [hb] at h9
    have hc10 : (x.regs = y.regs) := bdec_iff.1 hb
    clear hb
    refine St.go h9 ?_; clear h9 a9
    refine sfTo2 ⟨_, hg12, rfl, rfl⟩ rfl rfl ?_
    refine sbInts 1 hW8 ⟨_, hg12, rfl, rfl⟩ rfl rfl rfl rfl ?_
    refine sfTo2 ⟨_, hg12, rfl, rfl⟩ rfl rfl ?_
    refine sbInts 0 hW8 ⟨_, hg12, rfl, rfl⟩ rfl rfl rfl rfl ?_
    refine sc_2 cf113 hW8 (equal_any x.args y.args pA qA cA dA w8 (Lay.below hx.out.args hW8.bel) (Lay.below hy.out.args hW8.bel) (by have := hs.out.2; omega)) ⟨_, hg12, rfl, rfl⟩ rfl rfl rfl ?_
    clear hW8; intro w11 hW11
    refine sp trivial rfl rfl rfl ?_
    refine sa trivial rfl rfl ?_
    refine St.nil fun a12 h12 => ?_
    refine hK5 _ _ ?_
    refine wp_ret ?_; with_reducible repeat first | refine of_then_ret ?_ | refine of_block_ret ?_
    have R : x.args = y.args ↔ x = y := ⟨fun h => MTo.eq_of hc7.out hc10 h, fun e => by rw [e]⟩
    exact ret_tmp (t := 4) h12 rfl rfl ⟨by rw [bdec_congr R], hW11.bel⟩
   rw [hb] at h9
   have hc13 : ¬ (x.regs = y.regs) := fun h => by rw [bdec_true h] at hb; cases hb
   clear hb
   refine St.go h9 ?_; clear h9 a9
   refine so hg12 rfl rfl rfl rfl ?_
   refine so hg12 rfl rfl rfl rfl ?_
   refine so hg12 rfl rfl rfl rfl ?_
   refine so hg12 rfl rfl rfl rfl ?_
   refine so hg12 rfl rfl rfl rfl ?_
   refine spf trivial rfl rfl rfl ?_
   refine sa trivial rfl rfl ?_
   refine St.nil fun a14 h14 => ?_
   refine hK5 _ _ ?_
   refine wp_ret ?_; with_reducible repeat first | refine of_then_ret ?_ | refine of_block_ret ?_
   have R : ¬ x = y := fun e => hc13 (by rw [e])
   exact ret_tmp (t := 4) h14 rfl rfl ⟨by rw [bdec_false R], hW8.bel⟩
  rw [hb] at h6
  have h9 : ¬ x.block = y.block := ne_of_beq_false hb
  have hc15 : ¬ x.block = y.block := h9
  clear h9
  clear hb
  refine St.go h6 ?_; clear h6 a6
  refine so hg5 rfl rfl rfl rfl ?_
  refine so hg5 rfl rfl rfl rfl ?_
  refine so hg5 rfl rfl rfl rfl ?_
  refine so hg5 rfl rfl rfl rfl ?_
  refine so hg5 rfl rfl rfl rfl ?_
  refine spf trivial rfl rfl rfl ?_
  refine sm trivial rfl rfl ?_
  refine so hg12 rfl rfl rfl rfl ?_
  refine so hg12 rfl rfl rfl rfl ?_
  refine so hg12 rfl rfl rfl rfl ?_
  refine so hg12 rfl rfl rfl rfl ?_
  refine so hg12 rfl rfl rfl rfl ?_
  refine spf trivial rfl rfl rfl ?_
  refine sa trivial rfl rfl ?_
  refine St.nil fun a16 h16 => ?_
  refine hK5 _ _ ?_
  refine wp_ret ?_; with_reducible repeat first | refine of_then_ret ?_ | refine of_block_ret ?_
  have R : ¬ x = y := fun e => hc15 (by rw [e])
  exact ret_tmp (t := 4) h16 rfl rfl ⟨by rw [bdec_false R], hW3.bel⟩

set_option maxHeartbeats 4000000 in
set_option maxRecDepth 100000 in
theorem sameIns_any {x y : MIns} {i j : IP} {w : World} (hx0 : IIn w All x i) (hy0 : IIn w All y j) (hs0 : x.small) :
    Rd Try.prog 76 #[.agg #[.int .i64 x.op, .int .i64 x.a, .int .i64 x.b, .int .i64 x.c, .int .i64 x.k, .int .i64 x.n, .slice i.pR x.regs.length i.cR, .slice i.pA x.args.length i.cA], .agg #[.int .i64 y.op, .int .i64 y.a, .int .i64 y.b, .int .i64 y.c, .int .i64 y.k, .int .i64 y.n, .slice j.pR y.regs.length j.cR, .slice j.pA y.args.length j.cA]] w (.bool (bdec (x = y))) := by
  have hx : Hid _ := hx0
  have hy : Hid _ := hy0
  have hs : Hid _ := hs0
  clear hx0 hy0 hs0
  refine fr_enter (n := 59) Try.func76 rfl rfl rfl ?_
  intro a hF
  have hW := Wd.start w
  replace hF : Fr 59 a [(0, .agg #[.int .i64 x.op, .int .i64 x.a, .int .i64 x.b, .int .i64 x.c, .int .i64 x.k, .int .i64 x.n, .slice i.pR x.regs.length i.cR, .slice i.pA x.args.length i.cA]), (1, .agg #[.int .i64 y.op, .int .i64 y.a, .int .i64 y.b, .int .i64 y.c, .int .i64 y.k, .int .i64 y.n, .slice j.pR y.regs.length j.cR, .slice j.pA y.args.length j.cA])] := hF
  refine wp_seq_k fun K1 hK1 => ?_
  refine rg hF fun ops => ?_; clear hF a
  refine sB hW trivial rfl rfl ?_
  clear hW; intro w2 B2 hW2 hN; clear hN
  refine sB hW2 trivial rfl rfl ?_
  clear hW2; intro w3 B3 hW3 hN; clear hN
  refine sa trivial rfl rfl ?_
  refine St.nil fun a4 h4 => ?_
  refine hK1 _ _ ?_
  refine wp_seq_k fun K5 hK5 => ?_
  refine fr_region ?_
  intro ops hops
  have hg5 : (ops[5]?).bind (fun o : Oper => o.dst) = some 10 := hops 5
  have hg12 : (ops[12]?).bind (fun o : Oper => o.dst) = some 17 := hops 12
  have hg19 : (ops[19]?).bind (fun o : Oper => o.dst) = some 24 := hops 19
  have hg26 : (ops[26]?).bind (fun o : Oper => o.dst) = some 31 := hops 26
  have hg33 : (ops[33]?).bind (fun o : Oper => o.dst) = some 38 := hops 33
  have hg40 : (ops[40]?).bind (fun o : Oper => o.dst) = some 45 := hops 40
  have hg47 : (ops[47]?).bind (fun o : Oper => o.dst) = some 52 := hops 47
  clear hops
  refine St.go h4 ?_; clear h4 a4
  refine sfIns0 trivial rfl rfl ?_
  refine sbInt 1 hW3 trivial rfl rfl rfl rfl ?_
  refine sfIns0 trivial rfl rfl ?_
  refine sbInt 0 hW3 trivial rfl rfl rfl rfl ?_
  refine seq trivial rfl rfl rfl ?_
  refine sm trivial rfl rfl ?_
  intro a6 h6
  rcases Bool.eq_false_or_eq_true (x.op == y.op) with hb | hb
  ·rw [hb] at h6
   have h9 : x.op = y.op := eq_of_beq hb
   have hc7 : Hid (x.op = y.op) := h9
   clear h9
   clear hb
   refine St.go h6 ?_; clear h6 a6
   refine sfIns1 ⟨_, hg5, rfl, rfl⟩ rfl rfl ?_
   refine sbInt 1 hW3 ⟨_, hg5, rfl, rfl⟩ rfl rfl rfl rfl ?_
   refine sfIns1 ⟨_, hg5, rfl, rfl⟩ rfl rfl ?_
   refine sbInt 0 hW3 ⟨_, hg5, rfl, rfl⟩ rfl rfl rfl rfl ?_
   refine seq ⟨_, hg5, rfl, rfl⟩ rfl rfl rfl ?_
   refine sp trivial rfl rfl rfl ?_
   refine sm trivial rfl rfl ?_
   intro a8 h8
   rcases Bool.eq_false_or_eq_true (x.a == y.a) with hb | hb
   ·rw [hb] at h8
    have h9 : x.a = y.a := eq_of_beq hb
    have hc9 : Hid (x.a = y.a) := h9
    clear h9
    clear hb
    refine St.go h8 ?_; clear h8 a8
    refine sfIns2 ⟨_, hg12, rfl, rfl⟩ rfl rfl ?_
    refine sbInt 1 hW3 ⟨_, hg12, rfl, rfl⟩ rfl rfl rfl rfl ?_
    refine sfIns2 ⟨_, hg12, rfl, rfl⟩ rfl rfl ?_
    refine sbInt 0 hW3 ⟨_, hg12, rfl, rfl⟩ rfl rfl rfl rfl ?_
    refine seq ⟨_, hg12, rfl, rfl⟩ rfl rfl rfl ?_
    refine sp trivial rfl rfl rfl ?_
    refine sm trivial rfl rfl ?_
    intro a10 h10
    rcases Bool.eq_false_or_eq_true (x.b == y.b) with hb | hb
    ·rw [hb] at h10
     have h9 : x.b = y.b := eq_of_beq hb
     have hc11 : Hid (x.b = y.b) := h9
     clear h9
     clear hb
     refine St.go h10 ?_; clear h10 a10
     refine sfIns3 ⟨_, hg19, rfl, rfl⟩ rfl rfl ?_
     refine sbInt 1 hW3 ⟨_, hg19, rfl, rfl⟩ rfl rfl rfl rfl ?_
     refine sfIns3 ⟨_, hg19, rfl, rfl⟩ rfl rfl ?_
     refine sbInt 0 hW3 ⟨_, hg19, rfl, rfl⟩ rfl rfl rfl rfl ?_
     refine seq ⟨_, hg19, rfl, rfl⟩ rfl rfl rfl ?_
     refine sp trivial rfl rfl rfl ?_
     refine sm trivial rfl rfl ?_
     intro a12 h12
     rcases Bool.eq_false_or_eq_true (x.c == y.c) with hb | hb
     ·rw [hb] at h12
      have h9 : x.c = y.c := eq_of_beq hb
      have hc13 : Hid (x.c = y.c) := h9
      clear h9
      clear hb
      refine St.go h12 ?_; clear h12 a12
      refine sfIns4 ⟨_, hg26, rfl, rfl⟩ rfl rfl ?_
      refine sbInt 1 hW3 ⟨_, hg26, rfl, rfl⟩ rfl rfl rfl rfl ?_
      refine sfIns4 ⟨_, hg26, rfl, rfl⟩ rfl rfl ?_
      refine sbInt 0 hW3 ⟨_, hg26, rfl, rfl⟩ rfl rfl rfl rfl ?_
      refine seq ⟨_, hg26, rfl, rfl⟩ rfl rfl rfl ?_
      refine sp trivial rfl rfl rfl ?_
      refine sm trivial rfl rfl ?_
      intro a14 h14
      rcases Bool.eq_false_or_eq_true (x.k == y.k) with hb | hb
      ·rw [hb] at h14
       have h9 : x.k = y.k := eq_of_beq hb
       have hc15 : Hid (x.k = y.k) := h9
       clear h9
       clear hb
       refine St.go h14 ?_; clear h14 a14
       refine sfIns5 ⟨_, hg33, rfl, rfl⟩ rfl rfl ?_
       refine sbInt6 1 hW3 ⟨_, hg33, rfl, rfl⟩ rfl rfl rfl rfl ?_
       refine sfIns5 ⟨_, hg33, rfl, rfl⟩ rfl rfl ?_
       refine sbInt6 0 hW3 ⟨_, hg33, rfl, rfl⟩ rfl rfl rfl rfl ?_
       refine seq6 ⟨_, hg33, rfl, rfl⟩ rfl rfl rfl ?_
       refine sp trivial rfl rfl rfl ?_
       refine sm trivial rfl rfl ?_
       intro a16 h16
       rcases Bool.eq_false_or_eq_true (x.n == y.n) with hb | hb
       ·rw [hb] at h16
        have h9 : x.n = y.n := eq_of_beq hb
        have hc17 : Hid (x.n = y.n) := h9
        clear h9
        clear hb
        refine St.go h16 ?_; clear h16 a16
        refine sfIns6 ⟨_, hg40, rfl, rfl⟩ rfl rfl ?_
        refine sbInts 1 hW3 ⟨_, hg40, rfl, rfl⟩ rfl rfl rfl rfl ?_
        refine sfIns6 ⟨_, hg40, rfl, rfl⟩ rfl rfl ?_
        refine sbInts 0 hW3 ⟨_, hg40, rfl, rfl⟩ rfl rfl rfl rfl ?_
        refine sc_2 cf32 hW3 (sameInts_any x.regs y.regs i.pR j.pR i.cR j.cR w3 (Lay.below hx.out.regs hW3.bel) (Lay.below hy.out.regs hW3.bel) (by have := hs.out.1; omega)) ⟨_, hg40, rfl, rfl⟩ rfl rfl rfl ?_
        clear hW3; intro w18 hW18
        refine sp trivial rfl rfl rfl ?_
        refine sm trivial rfl rfl ?_
        intro a19 h19
        rcases Bool.eq_false_or_eq_true (bdec (x.regs = y.regs)) with hb | hb
        ·rw [hb] at h19
         have hc20 : (x.regs = y.regs) := bdec_iff.1 hb
         clear hb
         refine St.go h19 ?_; clear h19 a19
         refine sfIns7 ⟨_, hg47, rfl, rfl⟩ rfl rfl ?_
         refine sbInts 1 hW18 ⟨_, hg47, rfl, rfl⟩ rfl rfl rfl rfl ?_
         refine sfIns7 ⟨_, hg47, rfl, rfl⟩ rfl rfl ?_
         refine sbInts 0 hW18 ⟨_, hg47, rfl, rfl⟩ rfl rfl rfl rfl ?_
         refine sc_2 cf32 hW18 (sameInts_any x.args y.args i.pA j.pA i.cA j.cA w18 (Lay.below hx.out.args hW18.bel) (Lay.below hy.out.args hW18.bel) (by have := hs.out.2; omega)) ⟨_, hg47, rfl, rfl⟩ rfl rfl rfl ?_
         clear hW18; intro w21 hW21
         refine sp trivial rfl rfl rfl ?_
         refine sa trivial rfl rfl ?_
         refine St.nil fun a22 h22 => ?_
         refine hK5 _ _ ?_
         refine wp_ret ?_; with_reducible repeat first | refine of_then_ret ?_ | refine of_block_ret ?_
         have R : x.args = y.args ↔ x = y := ⟨fun h => MIns.eq_of hc7.out hc9.out hc11.out hc13.out hc15.out hc17.out hc20 h, fun e => by rw [e]⟩
         exact ret_tmp (t := 4) h22 rfl rfl ⟨by rw [bdec_congr R], hW21.bel⟩
        rw [hb] at h19
        have hc23 : ¬ (x.regs = y.regs) := fun h => by rw [bdec_true h] at hb; cases hb
        clear hb
        refine St.go h19 ?_; clear h19 a19
        refine so hg47 rfl rfl rfl rfl ?_
        refine so hg47 rfl rfl rfl rfl ?_
        refine so hg47 rfl rfl rfl rfl ?_
        refine so hg47 rfl rfl rfl rfl ?_
        refine so hg47 rfl rfl rfl rfl ?_
        refine spf trivial rfl rfl rfl ?_
        refine sa trivial rfl rfl ?_
        refine St.nil fun a24 h24 => ?_
        refine hK5 _ _ ?_
        refine wp_ret ?_; with_reducible repeat first | refine of_then_ret ?_ | refine of_block_ret ?_
        have R : ¬ x = y := fun e => hc23 (by rw [e])
        exact ret_tmp (t := 4) h24 rfl rfl ⟨by rw [bdec_false R], hW18.bel⟩
       rw [hb] at h16
       have h9 : ¬ x.n = y.n := ne_of_beq_false hb
       have hc25 : ¬ x.n = y.n := h9
       clear h9
       clear hb
       refine St.go h16 ?_; clear h16 a16
       refine so hg40 rfl rfl rfl rfl ?_
       refine so hg40 rfl rfl rfl rfl ?_
       refine so hg40 rfl rfl rfl rfl ?_
       refine so hg40 rfl rfl rfl rfl ?_
       refine so hg40 rfl rfl rfl rfl ?_
       refine spf trivial rfl rfl rfl ?_
       refine sm trivial rfl rfl ?_
       refine so hg47 rfl rfl rfl rfl ?_
       refine so hg47 rfl rfl rfl rfl ?_
       refine so hg47 rfl rfl rfl rfl ?_
       refine so hg47 rfl rfl rfl rfl ?_
       refine so hg47 rfl rfl rfl rfl ?_
       refine spf trivial rfl rfl rfl ?_
       refine sa trivial rfl rfl ?_
       refine St.nil fun a26 h26 => ?_
       refine hK5 _ _ ?_
       refine wp_ret ?_; with_reducible repeat first | refine of_then_ret ?_ | refine of_block_ret ?_
       have R : ¬ x = y := fun e => hc25 (by rw [e])
       exact ret_tmp (t := 4) h26 rfl rfl ⟨by rw [bdec_false R], hW3.bel⟩
      rw [hb] at h14
      have h9 : ¬ x.k = y.k := ne_of_beq_false hb
      have hc27 : ¬ x.k = y.k := h9
      clear h9
      clear hb
      refine St.go h14 ?_; clear h14 a14
      refine so hg33 rfl rfl rfl rfl ?_
      refine so hg33 rfl rfl rfl rfl ?_
      refine so hg33 rfl rfl rfl rfl ?_
      refine so hg33 rfl rfl rfl rfl ?_
      refine so hg33 rfl rfl rfl rfl ?_
      refine spf trivial rfl rfl rfl ?_
      refine sm trivial rfl rfl ?_
      refine so hg40 rfl rfl rfl rfl ?_
      refine so hg40 rfl rfl rfl rfl ?_
      refine so hg40 rfl rfl rfl rfl ?_
      refine so hg40 rfl rfl rfl rfl ?_
      refine so hg40 rfl rfl rfl rfl ?_
      refine spf trivial rfl rfl rfl ?_
      refine sm trivial rfl rfl ?_
      refine so hg47 rfl rfl rfl rfl ?_
      refine so hg47 rfl rfl rfl rfl ?_
      refine so hg47 rfl rfl rfl rfl ?_
      refine so hg47 rfl rfl rfl rfl ?_
      refine so hg47 rfl rfl rfl rfl ?_
      refine spf trivial rfl rfl rfl ?_
      refine sa trivial rfl rfl ?_
      refine St.nil fun a28 h28 => ?_
      refine hK5 _ _ ?_
      refine wp_ret ?_; with_reducible repeat first | refine of_then_ret ?_ | refine of_block_ret ?_
      have R : ¬ x = y := fun e => hc27 (by rw [e])
      exact ret_tmp (t := 4) h28 rfl rfl ⟨by rw [bdec_false R], hW3.bel⟩
     rw [hb] at h12
     have h9 : ¬ x.c = y.c := ne_of_beq_false hb
     have hc29 : ¬ x.c = y.c := h9
     clear h9
     clear hb
     refine St.go h12 ?_; clear h12 a12
     refine so hg26 rfl rfl rfl rfl ?_
     refine so hg26 rfl rfl rfl rfl ?_
     refine so hg26 rfl rfl rfl rfl ?_
     refine so hg26 rfl rfl rfl rfl ?_
     refine so hg26 rfl rfl rfl rfl ?_
     refine spf trivial rfl rfl rfl ?_
     refine sm trivial rfl rfl ?_
     refine so hg33 rfl rfl rfl rfl ?_
     refine so hg33 rfl rfl rfl rfl ?_
     refine so hg33 rfl rfl rfl rfl ?_
     refine so hg33 rfl rfl rfl rfl ?_
     refine so hg33 rfl rfl rfl rfl ?_
     refine spf trivial rfl rfl rfl ?_
     refine sm trivial rfl rfl ?_
     refine so hg40 rfl rfl rfl rfl ?_
     refine so hg40 rfl rfl rfl rfl ?_
     refine so hg40 rfl rfl rfl rfl ?_
     refine so hg40 rfl rfl rfl rfl ?_
     refine so hg40 rfl rfl rfl rfl ?_
     refine spf trivial rfl rfl rfl ?_
     refine sm trivial rfl rfl ?_
     refine so hg47 rfl rfl rfl rfl ?_
     refine so hg47 rfl rfl rfl rfl ?_
     refine so hg47 rfl rfl rfl rfl ?_
     refine so hg47 rfl rfl rfl rfl ?_
     refine so hg47 rfl rfl rfl rfl ?_
     refine spf trivial rfl rfl rfl ?_
     refine sa trivial rfl rfl ?_
     refine St.nil fun a30 h30 => ?_
     refine hK5 _ _ ?_
     refine wp_ret ?_; with_reducible repeat first | refine of_then_ret ?_ | refine of_block_ret ?_
     have R : ¬ x = y := fun e => hc29 (by rw [e])
     exact ret_tmp (t := 4) h30 rfl rfl ⟨by rw [bdec_false R], hW3.bel⟩
    rw [hb] at h10
    have h9 : ¬ x.b = y.b := ne_of_beq_false hb
    have hc31 : ¬ x.b = y.b := h9
    clear h9
    clear hb
    refine St.go h10 ?_; clear h10 a10
    refine so hg19 rfl rfl rfl rfl ?_
    refine so hg19 rfl rfl rfl rfl ?_
    refine so hg19 rfl rfl rfl rfl ?_
    refine so hg19 rfl rfl rfl rfl ?_
    refine so hg19 rfl rfl rfl rfl ?_
    refine spf trivial rfl rfl rfl ?_
    refine sm trivial rfl rfl ?_
    refine so hg26 rfl rfl rfl rfl ?_
    refine so hg26 rfl rfl rfl rfl ?_
    refine so hg26 rfl rfl rfl rfl ?_
    refine so hg26 rfl rfl rfl rfl ?_
    refine so hg26 rfl rfl rfl rfl ?_
    refine spf trivial rfl rfl rfl ?_
    refine sm trivial rfl rfl ?_
    refine so hg33 rfl rfl rfl rfl ?_
    refine so hg33 rfl rfl rfl rfl ?_
    refine so hg33 rfl rfl rfl rfl ?_
    refine so hg33 rfl rfl rfl rfl ?_
    refine so hg33 rfl rfl rfl rfl ?_
    refine spf trivial rfl rfl rfl ?_
    refine sm trivial rfl rfl ?_
    refine so hg40 rfl rfl rfl rfl ?_
    refine so hg40 rfl rfl rfl rfl ?_
    refine so hg40 rfl rfl rfl rfl ?_
    refine so hg40 rfl rfl rfl rfl ?_
    refine so hg40 rfl rfl rfl rfl ?_
    refine spf trivial rfl rfl rfl ?_
    refine sm trivial rfl rfl ?_
    refine so hg47 rfl rfl rfl rfl ?_
    refine so hg47 rfl rfl rfl rfl ?_
    refine so hg47 rfl rfl rfl rfl ?_
    refine so hg47 rfl rfl rfl rfl ?_
    refine so hg47 rfl rfl rfl rfl ?_
    refine spf trivial rfl rfl rfl ?_
    refine sa trivial rfl rfl ?_
    refine St.nil fun a32 h32 => ?_
    refine hK5 _ _ ?_
    refine wp_ret ?_; with_reducible repeat first | refine of_then_ret ?_ | refine of_block_ret ?_
    have R : ¬ x = y := fun e => hc31 (by rw [e])
    exact ret_tmp (t := 4) h32 rfl rfl ⟨by rw [bdec_false R], hW3.bel⟩
   rw [hb] at h8
   have h9 : ¬ x.a = y.a := ne_of_beq_false hb
   have hc33 : ¬ x.a = y.a := h9
   clear h9
   clear hb
   refine St.go h8 ?_; clear h8 a8
   refine so hg12 rfl rfl rfl rfl ?_
   refine so hg12 rfl rfl rfl rfl ?_
   refine so hg12 rfl rfl rfl rfl ?_
   refine so hg12 rfl rfl rfl rfl ?_
   refine so hg12 rfl rfl rfl rfl ?_
   refine spf trivial rfl rfl rfl ?_
   refine sm trivial rfl rfl ?_
   refine so hg19 rfl rfl rfl rfl ?_
   refine so hg19 rfl rfl rfl rfl ?_
   refine so hg19 rfl rfl rfl rfl ?_
   refine so hg19 rfl rfl rfl rfl ?_
   refine so hg19 rfl rfl rfl rfl ?_
   refine spf trivial rfl rfl rfl ?_
   refine sm trivial rfl rfl ?_
   refine so hg26 rfl rfl rfl rfl ?_
   refine so hg26 rfl rfl rfl rfl ?_
   refine so hg26 rfl rfl rfl rfl ?_
   refine so hg26 rfl rfl rfl rfl ?_
   refine so hg26 rfl rfl rfl rfl ?_
   refine spf trivial rfl rfl rfl ?_
   refine sm trivial rfl rfl ?_
   refine so hg33 rfl rfl rfl rfl ?_
   refine so hg33 rfl rfl rfl rfl ?_
   refine so hg33 rfl rfl rfl rfl ?_
   refine so hg33 rfl rfl rfl rfl ?_
   refine so hg33 rfl rfl rfl rfl ?_
   refine spf trivial rfl rfl rfl ?_
   refine sm trivial rfl rfl ?_
   refine so hg40 rfl rfl rfl rfl ?_
   refine so hg40 rfl rfl rfl rfl ?_
   refine so hg40 rfl rfl rfl rfl ?_
   refine so hg40 rfl rfl rfl rfl ?_
   refine so hg40 rfl rfl rfl rfl ?_
   refine spf trivial rfl rfl rfl ?_
   refine sm trivial rfl rfl ?_
   refine so hg47 rfl rfl rfl rfl ?_
   refine so hg47 rfl rfl rfl rfl ?_
   refine so hg47 rfl rfl rfl rfl ?_
   refine so hg47 rfl rfl rfl rfl ?_
   refine so hg47 rfl rfl rfl rfl ?_
   refine spf trivial rfl rfl rfl ?_
   refine sa trivial rfl rfl ?_
   refine St.nil fun a34 h34 => ?_
   refine hK5 _ _ ?_
   refine wp_ret ?_; with_reducible repeat first | refine of_then_ret ?_ | refine of_block_ret ?_
   have R : ¬ x = y := fun e => hc33 (by rw [e])
   exact ret_tmp (t := 4) h34 rfl rfl ⟨by rw [bdec_false R], hW3.bel⟩
  rw [hb] at h6
  have h9 : ¬ x.op = y.op := ne_of_beq_false hb
  have hc35 : ¬ x.op = y.op := h9
  clear h9
  clear hb
  refine St.go h6 ?_; clear h6 a6
  refine so hg5 rfl rfl rfl rfl ?_
  refine so hg5 rfl rfl rfl rfl ?_
  refine so hg5 rfl rfl rfl rfl ?_
  refine so hg5 rfl rfl rfl rfl ?_
  refine so hg5 rfl rfl rfl rfl ?_
  refine spf trivial rfl rfl rfl ?_
  refine sm trivial rfl rfl ?_
  refine so hg12 rfl rfl rfl rfl ?_
  refine so hg12 rfl rfl rfl rfl ?_
  refine so hg12 rfl rfl rfl rfl ?_
  refine so hg12 rfl rfl rfl rfl ?_
  refine so hg12 rfl rfl rfl rfl ?_
  refine spf trivial rfl rfl rfl ?_
  refine sm trivial rfl rfl ?_
  refine so hg19 rfl rfl rfl rfl ?_
  refine so hg19 rfl rfl rfl rfl ?_
  refine so hg19 rfl rfl rfl rfl ?_
  refine so hg19 rfl rfl rfl rfl ?_
  refine so hg19 rfl rfl rfl rfl ?_
  refine spf trivial rfl rfl rfl ?_
  refine sm trivial rfl rfl ?_
  refine so hg26 rfl rfl rfl rfl ?_
  refine so hg26 rfl rfl rfl rfl ?_
  refine so hg26 rfl rfl rfl rfl ?_
  refine so hg26 rfl rfl rfl rfl ?_
  refine so hg26 rfl rfl rfl rfl ?_
  refine spf trivial rfl rfl rfl ?_
  refine sm trivial rfl rfl ?_
  refine so hg33 rfl rfl rfl rfl ?_
  refine so hg33 rfl rfl rfl rfl ?_
  refine so hg33 rfl rfl rfl rfl ?_
  refine so hg33 rfl rfl rfl rfl ?_
  refine so hg33 rfl rfl rfl rfl ?_
  refine spf trivial rfl rfl rfl ?_
  refine sm trivial rfl rfl ?_
  refine so hg40 rfl rfl rfl rfl ?_
  refine so hg40 rfl rfl rfl rfl ?_
  refine so hg40 rfl rfl rfl rfl ?_
  refine so hg40 rfl rfl rfl rfl ?_
  refine so hg40 rfl rfl rfl rfl ?_
  refine spf trivial rfl rfl rfl ?_
  refine sm trivial rfl rfl ?_
  refine so hg47 rfl rfl rfl rfl ?_
  refine so hg47 rfl rfl rfl rfl ?_
  refine so hg47 rfl rfl rfl rfl ?_
  refine so hg47 rfl rfl rfl rfl ?_
  refine so hg47 rfl rfl rfl rfl ?_
  refine spf trivial rfl rfl rfl ?_
  refine sa trivial rfl rfl ?_
  refine St.nil fun a36 h36 => ?_
  refine hK5 _ _ ?_
  refine wp_ret ?_; with_reducible repeat first | refine of_then_ret ?_ | refine of_block_ret ?_
  have R : ¬ x = y := fun e => hc35 (by rw [e])
  exact ret_tmp (t := 4) h36 rfl rfl ⟨by rw [bdec_false R], hW3.bel⟩

set_option maxHeartbeats 4000000 in
set_option maxRecDepth 100000 in
theorem cSameIns_any {x y : MIns} {i j : IP} {w : World} (hx0 : IIn w All x i) (hy0 : IIn w All y j) (hs0 : x.small) :
    Rd Try.prog 104 #[.agg #[.int .i64 x.op, .int .i64 x.a, .int .i64 x.b, .int .i64 x.c, .int .i64 x.k, .int .i64 x.n, .slice i.pR x.regs.length i.cR, .slice i.pA x.args.length i.cA], .agg #[.int .i64 y.op, .int .i64 y.a, .int .i64 y.b, .int .i64 y.c, .int .i64 y.k, .int .i64 y.n, .slice j.pR y.regs.length j.cR, .slice j.pA y.args.length j.cA]] w (.bool (bdec (x = y))) := by
  have hx : Hid _ := hx0
  have hy : Hid _ := hy0
  have hs : Hid _ := hs0
  clear hx0 hy0 hs0
  refine fr_enter (n := 59) Try.func104 rfl rfl rfl ?_
  intro a hF
  have hW := Wd.start w
  replace hF : Fr 59 a [(0, .agg #[.int .i64 x.op, .int .i64 x.a, .int .i64 x.b, .int .i64 x.c, .int .i64 x.k, .int .i64 x.n, .slice i.pR x.regs.length i.cR, .slice i.pA x.args.length i.cA]), (1, .agg #[.int .i64 y.op, .int .i64 y.a, .int .i64 y.b, .int .i64 y.c, .int .i64 y.k, .int .i64 y.n, .slice j.pR y.regs.length j.cR, .slice j.pA y.args.length j.cA])] := hF
  refine wp_seq_k fun K1 hK1 => ?_
  refine rg hF fun ops => ?_; clear hF a
  refine sB hW trivial rfl rfl ?_
  clear hW; intro w2 B2 hW2 hN; clear hN
  refine sB hW2 trivial rfl rfl ?_
  clear hW2; intro w3 B3 hW3 hN; clear hN
  refine sa trivial rfl rfl ?_
  refine St.nil fun a4 h4 => ?_
  refine hK1 _ _ ?_
  refine wp_seq_k fun K5 hK5 => ?_
  refine fr_region ?_
  intro ops hops
  have hg5 : (ops[5]?).bind (fun o : Oper => o.dst) = some 10 := hops 5
  have hg12 : (ops[12]?).bind (fun o : Oper => o.dst) = some 17 := hops 12
  have hg19 : (ops[19]?).bind (fun o : Oper => o.dst) = some 24 := hops 19
  have hg26 : (ops[26]?).bind (fun o : Oper => o.dst) = some 31 := hops 26
  have hg33 : (ops[33]?).bind (fun o : Oper => o.dst) = some 38 := hops 33
  have hg40 : (ops[40]?).bind (fun o : Oper => o.dst) = some 45 := hops 40
  have hg47 : (ops[47]?).bind (fun o : Oper => o.dst) = some 52 := hops 47
  clear hops
  refine St.go h4 ?_; clear h4 a4
  refine sfIns0 trivial rfl rfl ?_
  refine sbInt 1 hW3 trivial rfl rfl rfl rfl ?_
  refine sfIns0 trivial rfl rfl ?_
  refine sbInt 0 hW3 trivial rfl rfl rfl rfl ?_
  refine seq trivial rfl rfl rfl ?_
  refine sm trivial rfl rfl ?_
  intro a6 h6
  rcases Bool.eq_false_or_eq_true (x.op == y.op) with hb | hb
  ·rw [hb] at h6
   have h9 : x.op = y.op := eq_of_beq hb
   have hc7 : Hid (x.op = y.op) := h9
   clear h9
   clear hb
   refine St.go h6 ?_; clear h6 a6
   refine sfIns1 ⟨_, hg5, rfl, rfl⟩ rfl rfl ?_
   refine sbInt 1 hW3 ⟨_, hg5, rfl, rfl⟩ rfl rfl rfl rfl ?_
   refine sfIns1 ⟨_, hg5, rfl, rfl⟩ rfl rfl ?_
   refine sbInt 0 hW3 ⟨_, hg5, rfl, rfl⟩ rfl rfl rfl rfl ?_
   refine seq ⟨_, hg5, rfl, rfl⟩ rfl rfl rfl ?_
   refine sp trivial rfl rfl rfl ?_
   refine sm trivial rfl rfl ?_
   intro a8 h8
   rcases Bool.eq_false_or_eq_true (x.a == y.a) with hb | hb
   ·rw [hb] at h8
    have h9 : x.a = y.a := eq_of_beq hb
    have hc9 : Hid (x.a = y.a) := h9
    clear h9
    clear hb
    refine St.go h8 ?_; clear h8 a8
    refine sfIns2 ⟨_, hg12, rfl, rfl⟩ rfl rfl ?_
    refine sbInt 1 hW3 ⟨_, hg12, rfl, rfl⟩ rfl rfl rfl rfl ?_
    refine sfIns2 ⟨_, hg12, rfl, rfl⟩ rfl rfl ?_
    refine sbInt 0 hW3 ⟨_, hg12, rfl, rfl⟩ rfl rfl rfl rfl ?_
    refine seq ⟨_, hg12, rfl, rfl⟩ rfl rfl rfl ?_
    refine sp trivial rfl rfl rfl ?_
    refine sm trivial rfl rfl ?_
    intro a10 h10
    rcases Bool.eq_false_or_eq_true (x.b == y.b) with hb | hb
    ·rw [hb] at h10
     have h9 : x.b = y.b := eq_of_beq hb
     have hc11 : Hid (x.b = y.b) := h9
     clear h9
     clear hb
     refine St.go h10 ?_; clear h10 a10
     refine sfIns3 ⟨_, hg19, rfl, rfl⟩ rfl rfl ?_
     refine sbInt 1 hW3 ⟨_, hg19, rfl, rfl⟩ rfl rfl rfl rfl ?_
     refine sfIns3 ⟨_, hg19, rfl, rfl⟩ rfl rfl ?_
     refine sbInt 0 hW3 ⟨_, hg19, rfl, rfl⟩ rfl rfl rfl rfl ?_
     refine seq ⟨_, hg19, rfl, rfl⟩ rfl rfl rfl ?_
     refine sp trivial rfl rfl rfl ?_
     refine sm trivial rfl rfl ?_
     intro a12 h12
     rcases Bool.eq_false_or_eq_true (x.c == y.c) with hb | hb
     ·rw [hb] at h12
      have h9 : x.c = y.c := eq_of_beq hb
      have hc13 : Hid (x.c = y.c) := h9
      clear h9
      clear hb
      refine St.go h12 ?_; clear h12 a12
      refine sfIns4 ⟨_, hg26, rfl, rfl⟩ rfl rfl ?_
      refine sbInt 1 hW3 ⟨_, hg26, rfl, rfl⟩ rfl rfl rfl rfl ?_
      refine sfIns4 ⟨_, hg26, rfl, rfl⟩ rfl rfl ?_
      refine sbInt 0 hW3 ⟨_, hg26, rfl, rfl⟩ rfl rfl rfl rfl ?_
      refine seq ⟨_, hg26, rfl, rfl⟩ rfl rfl rfl ?_
      refine sp trivial rfl rfl rfl ?_
      refine sm trivial rfl rfl ?_
      intro a14 h14
      rcases Bool.eq_false_or_eq_true (x.k == y.k) with hb | hb
      ·rw [hb] at h14
       have h9 : x.k = y.k := eq_of_beq hb
       have hc15 : Hid (x.k = y.k) := h9
       clear h9
       clear hb
       refine St.go h14 ?_; clear h14 a14
       refine sfIns5 ⟨_, hg33, rfl, rfl⟩ rfl rfl ?_
       refine sbInt6 1 hW3 ⟨_, hg33, rfl, rfl⟩ rfl rfl rfl rfl ?_
       refine sfIns5 ⟨_, hg33, rfl, rfl⟩ rfl rfl ?_
       refine sbInt6 0 hW3 ⟨_, hg33, rfl, rfl⟩ rfl rfl rfl rfl ?_
       refine seq6 ⟨_, hg33, rfl, rfl⟩ rfl rfl rfl ?_
       refine sp trivial rfl rfl rfl ?_
       refine sm trivial rfl rfl ?_
       intro a16 h16
       rcases Bool.eq_false_or_eq_true (x.n == y.n) with hb | hb
       ·rw [hb] at h16
        have h9 : x.n = y.n := eq_of_beq hb
        have hc17 : Hid (x.n = y.n) := h9
        clear h9
        clear hb
        refine St.go h16 ?_; clear h16 a16
        refine sfIns6 ⟨_, hg40, rfl, rfl⟩ rfl rfl ?_
        refine sbInts 1 hW3 ⟨_, hg40, rfl, rfl⟩ rfl rfl rfl rfl ?_
        refine sfIns6 ⟨_, hg40, rfl, rfl⟩ rfl rfl ?_
        refine sbInts 0 hW3 ⟨_, hg40, rfl, rfl⟩ rfl rfl rfl rfl ?_
        refine sc_2 cf113 hW3 (equal_any x.regs y.regs i.pR j.pR i.cR j.cR w3 (Lay.below hx.out.regs hW3.bel) (Lay.below hy.out.regs hW3.bel) (by have := hs.out.1; omega)) ⟨_, hg40, rfl, rfl⟩ rfl rfl rfl ?_
        clear hW3; intro w18 hW18
        refine sp trivial rfl rfl rfl ?_
        refine sm trivial rfl rfl ?_
        intro a19 h19
        rcases Bool.eq_false_or_eq_true (bdec (x.regs = y.regs)) with hb | hb
        ·rw [hb] at h19
         have hc20 : (x.regs = y.regs) := bdec_iff.1 hb
         clear hb
         refine St.go h19 ?_; clear h19 a19
         refine sfIns7 ⟨_, hg47, rfl, rfl⟩ rfl rfl ?_
         refine sbInts 1 hW18 ⟨_, hg47, rfl, rfl⟩ rfl rfl rfl rfl ?_
         refine sfIns7 ⟨_, hg47, rfl, rfl⟩ rfl rfl ?_
         refine sbInts 0 hW18 ⟨_, hg47, rfl, rfl⟩ rfl rfl rfl rfl ?_
         refine sc_2 cf113 hW18 (equal_any x.args y.args i.pA j.pA i.cA j.cA w18 (Lay.below hx.out.args hW18.bel) (Lay.below hy.out.args hW18.bel) (by have := hs.out.2; omega)) ⟨_, hg47, rfl, rfl⟩ rfl rfl rfl ?_
         clear hW18; intro w21 hW21
         refine sp trivial rfl rfl rfl ?_
         refine sa trivial rfl rfl ?_
         refine St.nil fun a22 h22 => ?_
         refine hK5 _ _ ?_
         refine wp_ret ?_; with_reducible repeat first | refine of_then_ret ?_ | refine of_block_ret ?_
         have R : x.args = y.args ↔ x = y := ⟨fun h => MIns.eq_of hc7.out hc9.out hc11.out hc13.out hc15.out hc17.out hc20 h, fun e => by rw [e]⟩
         exact ret_tmp (t := 4) h22 rfl rfl ⟨by rw [bdec_congr R], hW21.bel⟩
        rw [hb] at h19
        have hc23 : ¬ (x.regs = y.regs) := fun h => by rw [bdec_true h] at hb; cases hb
        clear hb
        refine St.go h19 ?_; clear h19 a19
        refine so hg47 rfl rfl rfl rfl ?_
        refine so hg47 rfl rfl rfl rfl ?_
        refine so hg47 rfl rfl rfl rfl ?_
        refine so hg47 rfl rfl rfl rfl ?_
        refine so hg47 rfl rfl rfl rfl ?_
        refine spf trivial rfl rfl rfl ?_
        refine sa trivial rfl rfl ?_
        refine St.nil fun a24 h24 => ?_
        refine hK5 _ _ ?_
        refine wp_ret ?_; with_reducible repeat first | refine of_then_ret ?_ | refine of_block_ret ?_
        have R : ¬ x = y := fun e => hc23 (by rw [e])
        exact ret_tmp (t := 4) h24 rfl rfl ⟨by rw [bdec_false R], hW18.bel⟩
       rw [hb] at h16
       have h9 : ¬ x.n = y.n := ne_of_beq_false hb
       have hc25 : ¬ x.n = y.n := h9
       clear h9
       clear hb
       refine St.go h16 ?_; clear h16 a16
       refine so hg40 rfl rfl rfl rfl ?_
       refine so hg40 rfl rfl rfl rfl ?_
       refine so hg40 rfl rfl rfl rfl ?_
       refine so hg40 rfl rfl rfl rfl ?_
       refine so hg40 rfl rfl rfl rfl ?_
       refine spf trivial rfl rfl rfl ?_
       refine sm trivial rfl rfl ?_
       refine so hg47 rfl rfl rfl rfl ?_
       refine so hg47 rfl rfl rfl rfl ?_
       refine so hg47 rfl rfl rfl rfl ?_
       refine so hg47 rfl rfl rfl rfl ?_
       refine so hg47 rfl rfl rfl rfl ?_
       refine spf trivial rfl rfl rfl ?_
       refine sa trivial rfl rfl ?_
       refine St.nil fun a26 h26 => ?_
       refine hK5 _ _ ?_
       refine wp_ret ?_; with_reducible repeat first | refine of_then_ret ?_ | refine of_block_ret ?_
       have R : ¬ x = y := fun e => hc25 (by rw [e])
       exact ret_tmp (t := 4) h26 rfl rfl ⟨by rw [bdec_false R], hW3.bel⟩
      rw [hb] at h14
      have h9 : ¬ x.k = y.k := ne_of_beq_false hb
      have hc27 : ¬ x.k = y.k := h9
      clear h9
      clear hb
      refine St.go h14 ?_; clear h14 a14
      refine so hg33 rfl rfl rfl rfl ?_
      refine so hg33 rfl rfl rfl rfl ?_
      refine so hg33 rfl rfl rfl rfl ?_
      refine so hg33 rfl rfl rfl rfl ?_
      refine so hg33 rfl rfl rfl rfl ?_
      refine spf trivial rfl rfl rfl ?_
      refine sm trivial rfl rfl ?_
      refine so hg40 rfl rfl rfl rfl ?_
      refine so hg40 rfl rfl rfl rfl ?_
      refine so hg40 rfl rfl rfl rfl ?_
      refine so hg40 rfl rfl rfl rfl ?_
      refine so hg40 rfl rfl rfl rfl ?_
      refine spf trivial rfl rfl rfl ?_
      refine sm trivial rfl rfl ?_
      refine so hg47 rfl rfl rfl rfl ?_
      refine so hg47 rfl rfl rfl rfl ?_
      refine so hg47 rfl rfl rfl rfl ?_
      refine so hg47 rfl rfl rfl rfl ?_
      refine so hg47 rfl rfl rfl rfl ?_
      refine spf trivial rfl rfl rfl ?_
      refine sa trivial rfl rfl ?_
      refine St.nil fun a28 h28 => ?_
      refine hK5 _ _ ?_
      refine wp_ret ?_; with_reducible repeat first | refine of_then_ret ?_ | refine of_block_ret ?_
      have R : ¬ x = y := fun e => hc27 (by rw [e])
      exact ret_tmp (t := 4) h28 rfl rfl ⟨by rw [bdec_false R], hW3.bel⟩
     rw [hb] at h12
     have h9 : ¬ x.c = y.c := ne_of_beq_false hb
     have hc29 : ¬ x.c = y.c := h9
     clear h9
     clear hb
     refine St.go h12 ?_; clear h12 a12
     refine so hg26 rfl rfl rfl rfl ?_
     refine so hg26 rfl rfl rfl rfl ?_
     refine so hg26 rfl rfl rfl rfl ?_
     refine so hg26 rfl rfl rfl rfl ?_
     refine so hg26 rfl rfl rfl rfl ?_
     refine spf trivial rfl rfl rfl ?_
     refine sm trivial rfl rfl ?_
     refine so hg33 rfl rfl rfl rfl ?_
     refine so hg33 rfl rfl rfl rfl ?_
     refine so hg33 rfl rfl rfl rfl ?_
     refine so hg33 rfl rfl rfl rfl ?_
     refine so hg33 rfl rfl rfl rfl ?_
     refine spf trivial rfl rfl rfl ?_
     refine sm trivial rfl rfl ?_
     refine so hg40 rfl rfl rfl rfl ?_
     refine so hg40 rfl rfl rfl rfl ?_
     refine so hg40 rfl rfl rfl rfl ?_
     refine so hg40 rfl rfl rfl rfl ?_
     refine so hg40 rfl rfl rfl rfl ?_
     refine spf trivial rfl rfl rfl ?_
     refine sm trivial rfl rfl ?_
     refine so hg47 rfl rfl rfl rfl ?_
     refine so hg47 rfl rfl rfl rfl ?_
     refine so hg47 rfl rfl rfl rfl ?_
     refine so hg47 rfl rfl rfl rfl ?_
     refine so hg47 rfl rfl rfl rfl ?_
     refine spf trivial rfl rfl rfl ?_
     refine sa trivial rfl rfl ?_
     refine St.nil fun a30 h30 => ?_
     refine hK5 _ _ ?_
     refine wp_ret ?_; with_reducible repeat first | refine of_then_ret ?_ | refine of_block_ret ?_
     have R : ¬ x = y := fun e => hc29 (by rw [e])
     exact ret_tmp (t := 4) h30 rfl rfl ⟨by rw [bdec_false R], hW3.bel⟩
    rw [hb] at h10
    have h9 : ¬ x.b = y.b := ne_of_beq_false hb
    have hc31 : ¬ x.b = y.b := h9
    clear h9
    clear hb
    refine St.go h10 ?_; clear h10 a10
    refine so hg19 rfl rfl rfl rfl ?_
    refine so hg19 rfl rfl rfl rfl ?_
    refine so hg19 rfl rfl rfl rfl ?_
    refine so hg19 rfl rfl rfl rfl ?_
    refine so hg19 rfl rfl rfl rfl ?_
    refine spf trivial rfl rfl rfl ?_
    refine sm trivial rfl rfl ?_
    refine so hg26 rfl rfl rfl rfl ?_
    refine so hg26 rfl rfl rfl rfl ?_
    refine so hg26 rfl rfl rfl rfl ?_
    refine so hg26 rfl rfl rfl rfl ?_
    refine so hg26 rfl rfl rfl rfl ?_
    refine spf trivial rfl rfl rfl ?_
    refine sm trivial rfl rfl ?_
    refine so hg33 rfl rfl rfl rfl ?_
    refine so hg33 rfl rfl rfl rfl ?_
    refine so hg33 rfl rfl rfl rfl ?_
    refine so hg33 rfl rfl rfl rfl ?_
    refine so hg33 rfl rfl rfl rfl ?_
    refine spf trivial rfl rfl rfl ?_
    refine sm trivial rfl rfl ?_
    refine so hg40 rfl rfl rfl rfl ?_
    refine so hg40 rfl rfl rfl rfl ?_
    refine so hg40 rfl rfl rfl rfl ?_
    refine so hg40 rfl rfl rfl rfl ?_
    refine so hg40 rfl rfl rfl rfl ?_
    refine spf trivial rfl rfl rfl ?_
    refine sm trivial rfl rfl ?_
    refine so hg47 rfl rfl rfl rfl ?_
    refine so hg47 rfl rfl rfl rfl ?_
    refine so hg47 rfl rfl rfl rfl ?_
    refine so hg47 rfl rfl rfl rfl ?_
    refine so hg47 rfl rfl rfl rfl ?_
    refine spf trivial rfl rfl rfl ?_
    refine sa trivial rfl rfl ?_
    refine St.nil fun a32 h32 => ?_
    refine hK5 _ _ ?_
    refine wp_ret ?_; with_reducible repeat first | refine of_then_ret ?_ | refine of_block_ret ?_
    have R : ¬ x = y := fun e => hc31 (by rw [e])
    exact ret_tmp (t := 4) h32 rfl rfl ⟨by rw [bdec_false R], hW3.bel⟩
   rw [hb] at h8
   have h9 : ¬ x.a = y.a := ne_of_beq_false hb
   have hc33 : ¬ x.a = y.a := h9
   clear h9
   clear hb
   refine St.go h8 ?_; clear h8 a8
   refine so hg12 rfl rfl rfl rfl ?_
   refine so hg12 rfl rfl rfl rfl ?_
   refine so hg12 rfl rfl rfl rfl ?_
   refine so hg12 rfl rfl rfl rfl ?_
   refine so hg12 rfl rfl rfl rfl ?_
   refine spf trivial rfl rfl rfl ?_
   refine sm trivial rfl rfl ?_
   refine so hg19 rfl rfl rfl rfl ?_
   refine so hg19 rfl rfl rfl rfl ?_
   refine so hg19 rfl rfl rfl rfl ?_
   refine so hg19 rfl rfl rfl rfl ?_
   refine so hg19 rfl rfl rfl rfl ?_
   refine spf trivial rfl rfl rfl ?_
   refine sm trivial rfl rfl ?_
   refine so hg26 rfl rfl rfl rfl ?_
   refine so hg26 rfl rfl rfl rfl ?_
   refine so hg26 rfl rfl rfl rfl ?_
   refine so hg26 rfl rfl rfl rfl ?_
   refine so hg26 rfl rfl rfl rfl ?_
   refine spf trivial rfl rfl rfl ?_
   refine sm trivial rfl rfl ?_
   refine so hg33 rfl rfl rfl rfl ?_
   refine so hg33 rfl rfl rfl rfl ?_
   refine so hg33 rfl rfl rfl rfl ?_
   refine so hg33 rfl rfl rfl rfl ?_
   refine so hg33 rfl rfl rfl rfl ?_
   refine spf trivial rfl rfl rfl ?_
   refine sm trivial rfl rfl ?_
   refine so hg40 rfl rfl rfl rfl ?_
   refine so hg40 rfl rfl rfl rfl ?_
   refine so hg40 rfl rfl rfl rfl ?_
   refine so hg40 rfl rfl rfl rfl ?_
   refine so hg40 rfl rfl rfl rfl ?_
   refine spf trivial rfl rfl rfl ?_
   refine sm trivial rfl rfl ?_
   refine so hg47 rfl rfl rfl rfl ?_
   refine so hg47 rfl rfl rfl rfl ?_
   refine so hg47 rfl rfl rfl rfl ?_
   refine so hg47 rfl rfl rfl rfl ?_
   refine so hg47 rfl rfl rfl rfl ?_
   refine spf trivial rfl rfl rfl ?_
   refine sa trivial rfl rfl ?_
   refine St.nil fun a34 h34 => ?_
   refine hK5 _ _ ?_
   refine wp_ret ?_; with_reducible repeat first | refine of_then_ret ?_ | refine of_block_ret ?_
   have R : ¬ x = y := fun e => hc33 (by rw [e])
   exact ret_tmp (t := 4) h34 rfl rfl ⟨by rw [bdec_false R], hW3.bel⟩
  rw [hb] at h6
  have h9 : ¬ x.op = y.op := ne_of_beq_false hb
  have hc35 : ¬ x.op = y.op := h9
  clear h9
  clear hb
  refine St.go h6 ?_; clear h6 a6
  refine so hg5 rfl rfl rfl rfl ?_
  refine so hg5 rfl rfl rfl rfl ?_
  refine so hg5 rfl rfl rfl rfl ?_
  refine so hg5 rfl rfl rfl rfl ?_
  refine so hg5 rfl rfl rfl rfl ?_
  refine spf trivial rfl rfl rfl ?_
  refine sm trivial rfl rfl ?_
  refine so hg12 rfl rfl rfl rfl ?_
  refine so hg12 rfl rfl rfl rfl ?_
  refine so hg12 rfl rfl rfl rfl ?_
  refine so hg12 rfl rfl rfl rfl ?_
  refine so hg12 rfl rfl rfl rfl ?_
  refine spf trivial rfl rfl rfl ?_
  refine sm trivial rfl rfl ?_
  refine so hg19 rfl rfl rfl rfl ?_
  refine so hg19 rfl rfl rfl rfl ?_
  refine so hg19 rfl rfl rfl rfl ?_
  refine so hg19 rfl rfl rfl rfl ?_
  refine so hg19 rfl rfl rfl rfl ?_
  refine spf trivial rfl rfl rfl ?_
  refine sm trivial rfl rfl ?_
  refine so hg26 rfl rfl rfl rfl ?_
  refine so hg26 rfl rfl rfl rfl ?_
  refine so hg26 rfl rfl rfl rfl ?_
  refine so hg26 rfl rfl rfl rfl ?_
  refine so hg26 rfl rfl rfl rfl ?_
  refine spf trivial rfl rfl rfl ?_
  refine sm trivial rfl rfl ?_
  refine so hg33 rfl rfl rfl rfl ?_
  refine so hg33 rfl rfl rfl rfl ?_
  refine so hg33 rfl rfl rfl rfl ?_
  refine so hg33 rfl rfl rfl rfl ?_
  refine so hg33 rfl rfl rfl rfl ?_
  refine spf trivial rfl rfl rfl ?_
  refine sm trivial rfl rfl ?_
  refine so hg40 rfl rfl rfl rfl ?_
  refine so hg40 rfl rfl rfl rfl ?_
  refine so hg40 rfl rfl rfl rfl ?_
  refine so hg40 rfl rfl rfl rfl ?_
  refine so hg40 rfl rfl rfl rfl ?_
  refine spf trivial rfl rfl rfl ?_
  refine sm trivial rfl rfl ?_
  refine so hg47 rfl rfl rfl rfl ?_
  refine so hg47 rfl rfl rfl rfl ?_
  refine so hg47 rfl rfl rfl rfl ?_
  refine so hg47 rfl rfl rfl rfl ?_
  refine so hg47 rfl rfl rfl rfl ?_
  refine spf trivial rfl rfl rfl ?_
  refine sa trivial rfl rfl ?_
  refine St.nil fun a36 h36 => ?_
  refine hK5 _ _ ?_
  refine wp_ret ?_; with_reducible repeat first | refine of_then_ret ?_ | refine of_block_ret ?_
  have R : ¬ x = y := fun e => hc35 (by rw [e])
  exact ret_tmp (t := 4) h36 rfl rfl ⟨by rw [bdec_false R], hW3.bel⟩

set_option maxHeartbeats 4000000 in
set_option maxRecDepth 100000 in
theorem cSameEnd_any {x y : MEnd} {e f : EP} {w : World} (hx0 : EIn w All x e) (hy0 : EIn w All y f) (hs0 : x.small) :
    Rd Try.prog 105 #[.agg #[.int .i64 x.op, .int .i64 x.a, .int .i64 x.yes.block, .slice e.pYR x.yes.regs.length e.cYR, .slice e.pYA x.yes.args.length e.cYA, .int .i64 x.no.block, .slice e.pNR x.no.regs.length e.cNR, .slice e.pNA x.no.args.length e.cNA, .slice e.pA x.args.length e.cA], .agg #[.int .i64 y.op, .int .i64 y.a, .int .i64 y.yes.block, .slice f.pYR y.yes.regs.length f.cYR, .slice f.pYA y.yes.args.length f.cYA, .int .i64 y.no.block, .slice f.pNR y.no.regs.length f.cNR, .slice f.pNA y.no.args.length f.cNA, .slice f.pA y.args.length f.cA]] w (.bool (bdec (x = y))) := by
  have hx : Hid _ := hx0
  have hy : Hid _ := hy0
  have hs : Hid _ := hs0
  clear hx0 hy0 hs0
  refine fr_enter (n := 38) Try.func105 rfl rfl rfl ?_
  intro a hF
  have hW := Wd.start w
  replace hF : Fr 38 a [(0, .agg #[.int .i64 x.op, .int .i64 x.a, .int .i64 x.yes.block, .slice e.pYR x.yes.regs.length e.cYR, .slice e.pYA x.yes.args.length e.cYA, .int .i64 x.no.block, .slice e.pNR x.no.regs.length e.cNR, .slice e.pNA x.no.args.length e.cNA, .slice e.pA x.args.length e.cA]), (1, .agg #[.int .i64 y.op, .int .i64 y.a, .int .i64 y.yes.block, .slice f.pYR y.yes.regs.length f.cYR, .slice f.pYA y.yes.args.length f.cYA, .int .i64 y.no.block, .slice f.pNR y.no.regs.length f.cNR, .slice f.pNA y.no.args.length f.cNA, .slice f.pA y.args.length f.cA])] := hF
  refine wp_seq_k fun K1 hK1 => ?_
  refine rg hF fun ops => ?_; clear hF a
  refine sB hW trivial rfl rfl ?_
  clear hW; intro w2 B2 hW2 hN; clear hN
  refine sB hW2 trivial rfl rfl ?_
  clear hW2; intro w3 B3 hW3 hN; clear hN
  refine sa trivial rfl rfl ?_
  refine St.nil fun a4 h4 => ?_
  refine hK1 _ _ ?_
  refine wp_seq_k fun K5 hK5 => ?_
  refine fr_region ?_
  intro ops hops
  have hg5 : (ops[5]?).bind (fun o : Oper => o.dst) = some 10 := hops 5
  have hg12 : (ops[12]?).bind (fun o : Oper => o.dst) = some 17 := hops 12
  have hg19 : (ops[19]?).bind (fun o : Oper => o.dst) = some 24 := hops 19
  have hg26 : (ops[26]?).bind (fun o : Oper => o.dst) = some 31 := hops 26
  clear hops
  refine St.go h4 ?_; clear h4 a4
  refine sfEnd0 trivial rfl rfl ?_
  refine sbInt 1 hW3 trivial rfl rfl rfl rfl ?_
  refine sfEnd0 trivial rfl rfl ?_
  refine sbInt 0 hW3 trivial rfl rfl rfl rfl ?_
  refine seq trivial rfl rfl rfl ?_
  refine sm trivial rfl rfl ?_
  intro a6 h6
  rcases Bool.eq_false_or_eq_true (x.op == y.op) with hb | hb
  ·rw [hb] at h6
   have h9 : x.op = y.op := eq_of_beq hb
   have hc7 : Hid (x.op = y.op) := h9
   clear h9
   clear hb
   refine St.go h6 ?_; clear h6 a6
   refine sfEnd1 ⟨_, hg5, rfl, rfl⟩ rfl rfl ?_
   refine sbInt 1 hW3 ⟨_, hg5, rfl, rfl⟩ rfl rfl rfl rfl ?_
   refine sfEnd1 ⟨_, hg5, rfl, rfl⟩ rfl rfl ?_
   refine sbInt 0 hW3 ⟨_, hg5, rfl, rfl⟩ rfl rfl rfl rfl ?_
   refine seq ⟨_, hg5, rfl, rfl⟩ rfl rfl rfl ?_
   refine sp trivial rfl rfl rfl ?_
   refine sm trivial rfl rfl ?_
   intro a8 h8
   rcases Bool.eq_false_or_eq_true (x.a == y.a) with hb | hb
   ·rw [hb] at h8
    have h9 : x.a = y.a := eq_of_beq hb
    have hc9 : Hid (x.a = y.a) := h9
    clear h9
    clear hb
    refine St.go h8 ?_; clear h8 a8
    refine sfEnd2 ⟨_, hg12, rfl, rfl⟩ rfl rfl ?_
    refine sS 1 3 Try.underlying52 rfl infTo hW3 ⟨_, hg12, rfl, rfl⟩ rfl rfl rfl rfl ?_
    refine sfEnd2 ⟨_, hg12, rfl, rfl⟩ rfl rfl ?_
    refine sS 0 3 Try.underlying52 rfl infTo hW3 ⟨_, hg12, rfl, rfl⟩ rfl rfl rfl rfl ?_
    refine sc_2 cf114 hW3 (cSameTo_any (hx.out.yes.below hW3.bel) (hy.out.yes.below hW3.bel) hs.out.1) ⟨_, hg12, rfl, rfl⟩ rfl rfl rfl ?_
    clear hW3; intro w10 hW10
    refine sp trivial rfl rfl rfl ?_
    refine sm trivial rfl rfl ?_
    intro a11 h11
    rcases Bool.eq_false_or_eq_true (bdec (x.yes = y.yes)) with hb | hb
    ·rw [hb] at h11
     have hc12 : (x.yes = y.yes) := bdec_iff.1 hb
     clear hb
     refine St.go h11 ?_; clear h11 a11
     refine sfEnd3 ⟨_, hg19, rfl, rfl⟩ rfl rfl ?_
     refine sS 1 3 Try.underlying52 rfl infTo hW10 ⟨_, hg19, rfl, rfl⟩ rfl rfl rfl rfl ?_
     refine sfEnd3 ⟨_, hg19, rfl, rfl⟩ rfl rfl ?_
     refine sS 0 3 Try.underlying52 rfl infTo hW10 ⟨_, hg19, rfl, rfl⟩ rfl rfl rfl rfl ?_
     refine sc_2 cf114 hW10 (cSameTo_any (hx.out.no.below hW10.bel) (hy.out.no.below hW10.bel) hs.out.2.1) ⟨_, hg19, rfl, rfl⟩ rfl rfl rfl ?_
     clear hW10; intro w13 hW13
     refine sp trivial rfl rfl rfl ?_
     refine sm trivial rfl rfl ?_
     intro a14 h14
     rcases Bool.eq_false_or_eq_true (bdec (x.no = y.no)) with hb | hb
     ·rw [hb] at h14
      have hc15 : (x.no = y.no) := bdec_iff.1 hb
      clear hb
      refine St.go h14 ?_; clear h14 a14
      refine sfEnd4 ⟨_, hg26, rfl, rfl⟩ rfl rfl ?_
      refine sbInts 1 hW13 ⟨_, hg26, rfl, rfl⟩ rfl rfl rfl rfl ?_
      refine sfEnd4 ⟨_, hg26, rfl, rfl⟩ rfl rfl ?_
      refine sbInts 0 hW13 ⟨_, hg26, rfl, rfl⟩ rfl rfl rfl rfl ?_
      refine sc_2 cf113 hW13 (equal_any x.args y.args e.pA f.pA e.cA f.cA w13 (Lay.below hx.out.args hW13.bel) (Lay.below hy.out.args hW13.bel) (by have := hs.out.2.2; omega)) ⟨_, hg26, rfl, rfl⟩ rfl rfl rfl ?_
      clear hW13; intro w16 hW16
      refine sp trivial rfl rfl rfl ?_
      refine sa trivial rfl rfl ?_
      refine St.nil fun a17 h17 => ?_
      refine hK5 _ _ ?_
      refine wp_ret ?_; with_reducible repeat first | refine of_then_ret ?_ | refine of_block_ret ?_
      have R : x.args = y.args ↔ x = y := ⟨fun h => MEnd.eq_of hc7.out hc9.out hc12 hc15 h, fun e => by rw [e]⟩
      exact ret_tmp (t := 4) h17 rfl rfl ⟨by rw [bdec_congr R], hW16.bel⟩
     rw [hb] at h14
     have hc18 : ¬ (x.no = y.no) := fun h => by rw [bdec_true h] at hb; cases hb
     clear hb
     refine St.go h14 ?_; clear h14 a14
     refine so hg26 rfl rfl rfl rfl ?_
     refine so hg26 rfl rfl rfl rfl ?_
     refine so hg26 rfl rfl rfl rfl ?_
     refine so hg26 rfl rfl rfl rfl ?_
     refine so hg26 rfl rfl rfl rfl ?_
     refine spf trivial rfl rfl rfl ?_
     refine sa trivial rfl rfl ?_
     refine St.nil fun a19 h19 => ?_
     refine hK5 _ _ ?_
     refine wp_ret ?_; with_reducible repeat first | refine of_then_ret ?_ | refine of_block_ret ?_
     have R : ¬ x = y := fun e => hc18 (by rw [e])
     exact ret_tmp (t := 4) h19 rfl rfl ⟨by rw [bdec_false R], hW13.bel⟩
    rw [hb] at h11
    have hc20 : ¬ (x.yes = y.yes) := fun h => by rw [bdec_true h] at hb; cases hb
    clear hb
    refine St.go h11 ?_; clear h11 a11
    refine so hg19 rfl rfl rfl rfl ?_
    refine so hg19 rfl rfl rfl rfl ?_
    refine so hg19 rfl rfl rfl rfl ?_
    refine so hg19 rfl rfl rfl rfl ?_
    refine so hg19 rfl rfl rfl rfl ?_
    refine spf trivial rfl rfl rfl ?_
    refine sm trivial rfl rfl ?_
    refine so hg26 rfl rfl rfl rfl ?_
    refine so hg26 rfl rfl rfl rfl ?_
    refine so hg26 rfl rfl rfl rfl ?_
    refine so hg26 rfl rfl rfl rfl ?_
    refine so hg26 rfl rfl rfl rfl ?_
    refine spf trivial rfl rfl rfl ?_
    refine sa trivial rfl rfl ?_
    refine St.nil fun a21 h21 => ?_
    refine hK5 _ _ ?_
    refine wp_ret ?_; with_reducible repeat first | refine of_then_ret ?_ | refine of_block_ret ?_
    have R : ¬ x = y := fun e => hc20 (by rw [e])
    exact ret_tmp (t := 4) h21 rfl rfl ⟨by rw [bdec_false R], hW10.bel⟩
   rw [hb] at h8
   have h9 : ¬ x.a = y.a := ne_of_beq_false hb
   have hc22 : ¬ x.a = y.a := h9
   clear h9
   clear hb
   refine St.go h8 ?_; clear h8 a8
   refine so hg12 rfl rfl rfl rfl ?_
   refine so hg12 rfl rfl rfl rfl ?_
   refine so hg12 rfl rfl rfl rfl ?_
   refine so hg12 rfl rfl rfl rfl ?_
   refine so hg12 rfl rfl rfl rfl ?_
   refine spf trivial rfl rfl rfl ?_
   refine sm trivial rfl rfl ?_
   refine so hg19 rfl rfl rfl rfl ?_
   refine so hg19 rfl rfl rfl rfl ?_
   refine so hg19 rfl rfl rfl rfl ?_
   refine so hg19 rfl rfl rfl rfl ?_
   refine so hg19 rfl rfl rfl rfl ?_
   refine spf trivial rfl rfl rfl ?_
   refine sm trivial rfl rfl ?_
   refine so hg26 rfl rfl rfl rfl ?_
   refine so hg26 rfl rfl rfl rfl ?_
   refine so hg26 rfl rfl rfl rfl ?_
   refine so hg26 rfl rfl rfl rfl ?_
   refine so hg26 rfl rfl rfl rfl ?_
   refine spf trivial rfl rfl rfl ?_
   refine sa trivial rfl rfl ?_
   refine St.nil fun a23 h23 => ?_
   refine hK5 _ _ ?_
   refine wp_ret ?_; with_reducible repeat first | refine of_then_ret ?_ | refine of_block_ret ?_
   have R : ¬ x = y := fun e => hc22 (by rw [e])
   exact ret_tmp (t := 4) h23 rfl rfl ⟨by rw [bdec_false R], hW3.bel⟩
  rw [hb] at h6
  have h9 : ¬ x.op = y.op := ne_of_beq_false hb
  have hc24 : ¬ x.op = y.op := h9
  clear h9
  clear hb
  refine St.go h6 ?_; clear h6 a6
  refine so hg5 rfl rfl rfl rfl ?_
  refine so hg5 rfl rfl rfl rfl ?_
  refine so hg5 rfl rfl rfl rfl ?_
  refine so hg5 rfl rfl rfl rfl ?_
  refine so hg5 rfl rfl rfl rfl ?_
  refine spf trivial rfl rfl rfl ?_
  refine sm trivial rfl rfl ?_
  refine so hg12 rfl rfl rfl rfl ?_
  refine so hg12 rfl rfl rfl rfl ?_
  refine so hg12 rfl rfl rfl rfl ?_
  refine so hg12 rfl rfl rfl rfl ?_
  refine so hg12 rfl rfl rfl rfl ?_
  refine spf trivial rfl rfl rfl ?_
  refine sm trivial rfl rfl ?_
  refine so hg19 rfl rfl rfl rfl ?_
  refine so hg19 rfl rfl rfl rfl ?_
  refine so hg19 rfl rfl rfl rfl ?_
  refine so hg19 rfl rfl rfl rfl ?_
  refine so hg19 rfl rfl rfl rfl ?_
  refine spf trivial rfl rfl rfl ?_
  refine sm trivial rfl rfl ?_
  refine so hg26 rfl rfl rfl rfl ?_
  refine so hg26 rfl rfl rfl rfl ?_
  refine so hg26 rfl rfl rfl rfl ?_
  refine so hg26 rfl rfl rfl rfl ?_
  refine so hg26 rfl rfl rfl rfl ?_
  refine spf trivial rfl rfl rfl ?_
  refine sa trivial rfl rfl ?_
  refine St.nil fun a25 h25 => ?_
  refine hK5 _ _ ?_
  refine wp_ret ?_; with_reducible repeat first | refine of_then_ret ?_ | refine of_block_ret ?_
  have R : ¬ x = y := fun e => hc24 (by rw [e])
  exact ret_tmp (t := 4) h25 rfl rfl ⟨by rw [bdec_false R], hW3.bel⟩

set_option maxHeartbeats 4000000 in
set_option maxRecDepth 100000 in
theorem eqIns_any {l m : List MIns} {p p2 : Option Addr} {c d : Nat} {w : World} (hl0 : insL.list.In w All l [.slice p l.length c]) (hm0 : insL.list.In w All m [.slice p2 m.length d]) (hs0 : l.length ≤ 200 ∧ ∀ x ∈ l, x.small) :
    Rd Try.prog 103 #[.slice p l.length c, .slice p2 m.length d, .func (.func 104) #[] #[]] w (.bool (bdec (l = m))) := by
  have hlb := hs0.1
  have hl : Hid _ := hl0
  have hm : Hid _ := hm0
  have hs : Hid _ := hs0.2
  clear hl0 hm0 hs0
  refine fr_enter (n := 32) Try.func103 rfl rfl rfl ?_
  intro a hF
  have hW := Wd.start w
  replace hF : Fr 32 a [(0, .slice p l.length c), (1, .slice p2 m.length d), (2, .func (.func 104) #[] #[])] := hF
  refine wp_seq_k fun K1 hK1 => ?_
  refine rg hF fun ops => ?_; clear hF a
  refine sa trivial rfl rfl ?_
  refine St.nil fun a2 h2 => ?_
  refine hK1 _ _ ?_
  refine wp_seq_k fun K3 hK3 => ?_
  refine wp_seq_k fun K4 hK4 => ?_
  refine rg h2 fun ops => ?_; clear h2 a2
  refine sm trivial rfl rfl ?_
  refine slInss trivial rfl rfl ?_
  refine sm trivial rfl rfl ?_
  refine slInss trivial rfl rfl ?_
  refine sne trivial rfl rfl rfl ?_
  refine St.nil fun a5 h5 => ?_
  refine hK4 _ _ ?_
  refine fr_cond (t := 14) h5 rfl (fun hb => ?_) (fun hb => ?_)
  ·have h9 : ¬ l.length = m.length := by have h8 := bne_iff_ne.1 hb; omega
   have hlen : ¬ l.length = m.length := h9
   clear h9
   clear hb
   refine wp_seq_k fun K6 hK6 => ?_
   refine rg h5 fun ops => ?_; clear h5 a5
   refine sa trivial rfl rfl ?_
   refine St.nil fun a7 h7 => ?_
   refine hK6 _ _ ?_
   refine wp_ret ?_; with_reducible repeat first | refine of_then_ret ?_ | refine of_block_ret ?_
   have R : ¬ l = m := fun e => hlen (by rw [e])
   exact ret_tmp (t := 6) h7 rfl rfl ⟨by rw [bdec_false R], hW.bel⟩
  have h9 : l.length = m.length := by have h8 := bne_eq_false_iff_eq.1 hb; omega
  have hlen : Hid (l.length = m.length) := h9
  clear h9
  clear hb
  refine wp_skip ?_
  refine hK3 _ _ ?_
  refine wp_seq_k fun K8 hK8 => ?_
  refine wp_seq_k fun K9 hK9 => ?_
  refine rg h5 fun ops => ?_; clear h5 a5
  refine sm trivial rfl rfl ?_
  refine slInss trivial rfl rfl ?_
  refine sm trivial rfl rfl ?_
  refine St.nil fun a10 h10 => ?_
  refine hK9 _ _ ?_
  refine wp_block ?_
  refine fr_loop (fun r a w' => ∃ q : Nat, q ≤ l.length ∧ r = l.length - q ∧ (∀ j, j < q → l[j]? = m[j]?) ∧ Fr 32 a [(2, .func (.func 104) #[] #[]), (1, .slice p2 m.length d), (0, .slice p l.length c), (6, .bool false), (15, .slice p l.length c), (16, .int .i64 (l.length : Int)), (17, .int .i64 (q : Int))] ∧ Wd w w' []) (l.length) ⟨0, Nat.zero_le _, rfl, (fun j hj => by omega), (h10.keep (h10.keep (h10.keep (h10.keep (h10.keep (h10.keep (h10.keep h10.nil (t := 17) rfl) (t := 16) rfl) (t := 15) rfl) (t := 6) rfl) (t := 0) rfl) (t := 1) rfl) (t := 2) rfl), hW⟩ ?_
  clear h10 hW
  rintro r a11 w11 ⟨q, hq, hr, hall, hF11, hW11⟩ KL hKL
  refine wp_seq_k fun K12 hK12 => ?_
  refine rg hF11 fun ops => ?_; clear hF11 a11
  refine slt trivial rfl rfl rfl ?_
  refine St.nil fun a13 h13 => ?_
  refine hK12 _ _ ?_
  refine wp_seq_k fun K14 hK14 => ?_
  refine fr_cond (t := 18) h13 rfl (fun hb => ?_) (fun hb => ?_)
  ·have hlt1 : q < l.length := by have := of_decide_eq_true hb; omega
   have hlt2 : q < m.length := by have := hlen.out; omega
   clear hb
   obtain ⟨x, hx1⟩ : ∃ v9, (l)[q]? = some v9 := ⟨_, List.getElem?_eq_getElem hlt1⟩
   obtain ⟨g1, o1, i1, hp1, E1, In1⟩ := ins_at hl.out hx1
   replace In1 : Hid _ := In1
   replace hp1 : Hid _ := hp1
   replace hx1 : Hid _ := hx1
   replace E1 : Hid _ := E1
   obtain ⟨y, hx2⟩ : ∃ v9, (m)[q]? = some v9 := ⟨_, List.getElem?_eq_getElem hlt2⟩
   obtain ⟨g2, o2, i2, hp2, E2, In2⟩ := ins_at hm.out hx2
   replace In2 : Hid _ := In2
   replace hp2 : Hid _ := hp2
   replace hx2 : Hid _ := hx2
   replace E2 : Hid _ := E2
   refine wp_skip ?_
   refine hK14 _ _ ?_
   refine wp_seq_k fun K15 hK15 => ?_
   refine wp_block ?_
   refine wp_seq_k fun K16 hK16 => ?_
   refine rg h13 fun ops => ?_; clear h13 a13
   refine sm trivial rfl rfl ?_
   refine siInss hp1.out hlt1 trivial rfl rfl rfl ?_
   refine sSE Try.underlying46 rfl (rangeAt_bel E1.out hW11.bel) infIns trivial rfl rfl ?_
   refine sAIns hW11 trivial rfl ?_
   clear hW11; intro w17 B17 hW17 hN; clear hN
   refine sa trivial rfl rfl ?_
   refine sT 0 hW17 rfl rfl infIns rfl rfl rfl ?_
   clear hW17; intro w18 hW18
   refine St.nil fun a19 h19 => ?_
   refine hK16 _ _ ?_
   refine wp_seq_k fun K20 hK20 => ?_
   refine rg h19 fun ops => ?_; clear h19 a19
   refine sm trivial rfl rfl ?_
   refine sm trivial rfl rfl ?_
   refine siInss hp2.out hlt2 trivial rfl rfl rfl ?_
   refine sSE Try.underlying46 rfl (rangeAt_bel E2.out hW18.bel) infIns trivial rfl rfl ?_
   refine sAIns hW18 trivial rfl ?_
   clear hW18; intro w21 B21 hW21 hN; clear hN
   refine sT 0 hW21 rfl rfl infIns rfl rfl rfl ?_
   clear hW21; intro w22 hW22
   refine St.nil fun a23 h23 => ?_
   refine hK20 _ _ ?_
   refine wp_seq_k fun K24 hK24 => ?_
   refine rg h23 fun ops => ?_; clear h23 a23
   refine sm trivial rfl rfl ?_
   refine sS 1 8 Try.underlying46 rfl infIns hW22 trivial rfl rfl rfl rfl ?_
   refine sS 0 8 Try.underlying46 rfl infIns hW22 trivial rfl rfl rfl rfl ?_
   refine sv_20 cf104 hW22 (cSameIns_any (In1.out.below hW22.bel) (In2.out.below hW22.bel) (hs.out _ (List.mem_of_getElem? hx1.out))) trivial rfl rfl rfl rfl ?_
   clear hW22; intro w25 hW25
   refine sn trivial rfl rfl ?_
   refine St.nil fun a26 h26 => ?_
   refine hK24 _ _ ?_
   refine fr_cond (t := 30) h26 rfl (fun hb => ?_) (fun hb => ?_)
   ·have hb : (bdec (x = y)) = false := by simpa using hb
    have hel : ¬ (x = y) := fun h => by rw [bdec_true h] at hb; cases hb
    clear hb
    refine wp_seq_k fun K27 hK27 => ?_
    refine rg h26 fun ops => ?_; clear h26 a26
    refine sa trivial rfl rfl ?_
    refine St.nil fun a28 h28 => ?_
    refine hK27 _ _ ?_
    refine wp_ret ?_; with_reducible repeat first | refine of_then_ret ?_ | refine of_block_ret ?_
    have R : ¬ l = m := by
      intro e
      have h1 := hx1.out
      rw [e, hx2.out] at h1
      exact hel (Option.some.inj h1).symm
    exact ret_tmp (t := 6) h28 rfl rfl ⟨by rw [bdec_false R], hW25.bel⟩
   have hb : (bdec (x = y)) = true := by simpa using hb
   have hel : (x = y) := bdec_iff.1 hb
   clear hb
   refine wp_skip ?_
   refine hK15 _ _ ?_
   refine rg h26 fun ops => ?_; clear h26 a26
   refine sad (by omega) trivial rfl rfl rfl ?_
   refine sm trivial rfl rfl ?_
   refine St.nil fun a29 h29 => ?_
   refine hKL _ _ (l.length - (q + 1)) (by omega) ⟨q + 1, by omega, rfl, ?_, (h29.keep (h29.keep (h29.keep (h29.keep (h29.keep (h29.keep (h29.keep h29.nil (t := 17) rfl) (t := 16) rfl) (t := 15) rfl) (t := 6) rfl) (t := 0) rfl) (t := 1) rfl) (t := 2) rfl), hW25.tail.tail⟩
   ·intro j hj
    by_cases e : j = q
    · subst e; rw [hx1.out, hx2.out, hel]
    · exact hall j (by omega)
  have hge : q = l.length := by have := of_decide_eq_false hb; omega
  clear hb
  refine wp_exit ?_
  refine hK8 _ _ ?_
  refine wp_seq_k fun K30 hK30 => ?_
  refine rg h13 fun ops => ?_; clear h13 a13
  refine sa trivial rfl rfl ?_
  refine St.nil fun a31 h31 => ?_
  refine hK30 _ _ ?_
  refine wp_ret ?_; with_reducible repeat first | refine of_then_ret ?_ | refine of_block_ret ?_
  have R : l = m := by
    have := hlen.out
    refine List.ext_getElem? fun i => ?_
    by_cases hi : i < q
    · exact hall i hi
    · rw [List.getElem?_eq_none (by omega), List.getElem?_eq_none (by omega)]
  exact ret_tmp (t := 6) h31 rfl rfl ⟨by rw [bdec_true R], hW11.bel⟩
end Go.Proofs.Ytmnmnokkojcodab
/-
  The fields that an instruction of a kind has, as the reference tells them; numbers of an instruction.
-/
namespace Go.Proofs.Ytmnmnokkojcodab
open Go.ChangeShapes Go.WideShapes Go.ChangeAt Go.RowKit
set_option linter.unusedVariables false

/-- The seven fields as the reference answers them. -/
def fieldsV (op : Int) : Value := match fieldsOf op with
  | some (a, b, c, k, n, rg, ar) => .tuple #[.agg #[.bool a, .bool b, .bool c, .bool k, .bool n, .bool rg, .bool ar], .bool true]
  | none => .tuple #[.agg #[.bool false, .bool false, .bool false, .bool false, .bool false, .bool false, .bool false], .bool false]

theorem op_cases (op : Int) : op = 1 ∨ op = 2 ∨ op = 3 ∨ op = 4 ∨ op = 5 ∨ op = 6 ∨ op = 7 ∨ op = 8 ∨ op = 9 ∨ op = 10 ∨ op = 11 ∨ op = 12 ∨ op = 13 ∨ op = 14 ∨ (op ≠ 1 ∧ op ≠ 2 ∧ op ≠ 3 ∧ op ≠ 4 ∧ op ≠ 5 ∧ op ≠ 6 ∧ op ≠ 7 ∧ op ≠ 8 ∧ op ≠ 9 ∧ op ≠ 10 ∧ op ≠ 11 ∧ op ≠ 12 ∧ op ≠ 13 ∧ op ≠ 14) := by omega

set_option maxHeartbeats 4000000 in
set_option maxRecDepth 100000 in
theorem fieldsOf_any (op : Int) (w : World) :
    Calls Try.prog 60 #[.int .i64 op] w fun e w' => e = .returned (fieldsV op) ∧ Below w.heap.size w w' := by
  rcases op_cases op with rfl | rfl | rfl | rfl | rfl | rfl | rfl | rfl | rfl | rfl | rfl | rfl | rfl | rfl | ⟨n1, n2, n3, n4, n5, n6, n7, n8, n9, n10, n11, n12, n13, n14⟩
  · rw [show fieldsV 1 = .tuple #[.agg #[.bool false, .bool false, .bool false, .bool false, .bool true, .bool false, .bool false], .bool true] from rfl]
    go_enter Try.func60, Try.ntmps60
    go_wp2_with fail
    exact bodyPost_ret (v := .tuple #[.agg #[.bool false, .bool false, .bool false, .bool false, .bool true, .bool false, .bool false], .bool true]) (by simp [results, Try.results60, go_sem]) rfl ⟨rfl, by first | exact (Below.refl _ w).alloc (Nat.le_refl _) _ | (repeat (first | exact (Below.refl _ w).alloc (Nat.le_refl _) _ | refine Below.setCell ?_ (by simp) _))⟩
  · rw [show fieldsV 2 = .tuple #[.agg #[.bool true, .bool true, .bool false, .bool true, .bool false, .bool false, .bool false], .bool true] from rfl]
    go_enter Try.func60, Try.ntmps60
    go_wp2_with fail
    exact bodyPost_ret (v := .tuple #[.agg #[.bool true, .bool true, .bool false, .bool true, .bool false, .bool false, .bool false], .bool true]) (by simp [results, Try.results60, go_sem]) rfl ⟨rfl, by first | exact (Below.refl _ w).alloc (Nat.le_refl _) _ | (repeat (first | exact (Below.refl _ w).alloc (Nat.le_refl _) _ | refine Below.setCell ?_ (by simp) _))⟩
  · rw [show fieldsV 3 = .tuple #[.agg #[.bool false, .bool false, .bool false, .bool false, .bool false, .bool false, .bool false], .bool true] from rfl]
    go_enter Try.func60, Try.ntmps60
    go_wp2_with fail
    exact bodyPost_ret (v := .tuple #[.agg #[.bool false, .bool false, .bool false, .bool false, .bool false, .bool false, .bool false], .bool true]) (by simp [results, Try.results60, go_sem]) rfl ⟨rfl, by first | exact (Below.refl _ w).alloc (Nat.le_refl _) _ | (repeat (first | exact (Below.refl _ w).alloc (Nat.le_refl _) _ | refine Below.setCell ?_ (by simp) _))⟩
  · rw [show fieldsV 4 = .tuple #[.agg #[.bool true, .bool false, .bool false, .bool false, .bool false, .bool false, .bool false], .bool true] from rfl]
    go_enter Try.func60, Try.ntmps60
    go_wp2_with fail
    exact bodyPost_ret (v := .tuple #[.agg #[.bool true, .bool false, .bool false, .bool false, .bool false, .bool false, .bool false], .bool true]) (by simp [results, Try.results60, go_sem]) rfl ⟨rfl, by first | exact (Below.refl _ w).alloc (Nat.le_refl _) _ | (repeat (first | exact (Below.refl _ w).alloc (Nat.le_refl _) _ | refine Below.setCell ?_ (by simp) _))⟩
  · rw [show fieldsV 5 = .tuple #[.agg #[.bool true, .bool false, .bool false, .bool false, .bool false, .bool false, .bool true], .bool true] from rfl]
    go_enter Try.func60, Try.ntmps60
    go_wp2_with fail
    exact bodyPost_ret (v := .tuple #[.agg #[.bool true, .bool false, .bool false, .bool false, .bool false, .bool false, .bool true], .bool true]) (by simp [results, Try.results60, go_sem]) rfl ⟨rfl, by first | exact (Below.refl _ w).alloc (Nat.le_refl _) _ | (repeat (first | exact (Below.refl _ w).alloc (Nat.le_refl _) _ | refine Below.setCell ?_ (by simp) _))⟩
  · rw [show fieldsV 6 = .tuple #[.agg #[.bool true, .bool false, .bool false, .bool true, .bool false, .bool false, .bool false], .bool true] from rfl]
    go_enter Try.func60, Try.ntmps60
    go_wp2_with fail
    exact bodyPost_ret (v := .tuple #[.agg #[.bool true, .bool false, .bool false, .bool true, .bool false, .bool false, .bool false], .bool true]) (by simp [results, Try.results60, go_sem]) rfl ⟨rfl, by first | exact (Below.refl _ w).alloc (Nat.le_refl _) _ | (repeat (first | exact (Below.refl _ w).alloc (Nat.le_refl _) _ | refine Below.setCell ?_ (by simp) _))⟩
  · rw [show fieldsV 7 = .tuple #[.agg #[.bool true, .bool true, .bool false, .bool true, .bool false, .bool false, .bool false], .bool true] from rfl]
    go_enter Try.func60, Try.ntmps60
    go_wp2_with fail
    exact bodyPost_ret (v := .tuple #[.agg #[.bool true, .bool true, .bool false, .bool true, .bool false, .bool false, .bool false], .bool true]) (by simp [results, Try.results60, go_sem]) rfl ⟨rfl, by first | exact (Below.refl _ w).alloc (Nat.le_refl _) _ | (repeat (first | exact (Below.refl _ w).alloc (Nat.le_refl _) _ | refine Below.setCell ?_ (by simp) _))⟩
  · rw [show fieldsV 8 = .tuple #[.agg #[.bool true, .bool true, .bool false, .bool false, .bool false, .bool false, .bool false], .bool true] from rfl]
    go_enter Try.func60, Try.ntmps60
    go_wp2_with fail
    exact bodyPost_ret (v := .tuple #[.agg #[.bool true, .bool true, .bool false, .bool false, .bool false, .bool false, .bool false], .bool true]) (by simp [results, Try.results60, go_sem]) rfl ⟨rfl, by first | exact (Below.refl _ w).alloc (Nat.le_refl _) _ | (repeat (first | exact (Below.refl _ w).alloc (Nat.le_refl _) _ | refine Below.setCell ?_ (by simp) _))⟩
  · rw [show fieldsV 9 = .tuple #[.agg #[.bool true, .bool true, .bool false, .bool false, .bool false, .bool false, .bool false], .bool true] from rfl]
    go_enter Try.func60, Try.ntmps60
    go_wp2_with fail
    exact bodyPost_ret (v := .tuple #[.agg #[.bool true, .bool true, .bool false, .bool false, .bool false, .bool false, .bool false], .bool true]) (by simp [results, Try.results60, go_sem]) rfl ⟨rfl, by first | exact (Below.refl _ w).alloc (Nat.le_refl _) _ | (repeat (first | exact (Below.refl _ w).alloc (Nat.le_refl _) _ | refine Below.setCell ?_ (by simp) _))⟩
  · rw [show fieldsV 10 = .tuple #[.agg #[.bool true, .bool true, .bool true, .bool false, .bool false, .bool false, .bool false], .bool true] from rfl]
    go_enter Try.func60, Try.ntmps60
    go_wp2_with fail
    exact bodyPost_ret (v := .tuple #[.agg #[.bool true, .bool true, .bool true, .bool false, .bool false, .bool false, .bool false], .bool true]) (by simp [results, Try.results60, go_sem]) rfl ⟨rfl, by first | exact (Below.refl _ w).alloc (Nat.le_refl _) _ | (repeat (first | exact (Below.refl _ w).alloc (Nat.le_refl _) _ | refine Below.setCell ?_ (by simp) _))⟩
  · rw [show fieldsV 11 = .tuple #[.agg #[.bool true, .bool false, .bool false, .bool false, .bool false, .bool false, .bool false], .bool true] from rfl]
    go_enter Try.func60, Try.ntmps60
    go_wp2_with fail
    exact bodyPost_ret (v := .tuple #[.agg #[.bool true, .bool false, .bool false, .bool false, .bool false, .bool false, .bool false], .bool true]) (by simp [results, Try.results60, go_sem]) rfl ⟨rfl, by first | exact (Below.refl _ w).alloc (Nat.le_refl _) _ | (repeat (first | exact (Below.refl _ w).alloc (Nat.le_refl _) _ | refine Below.setCell ?_ (by simp) _))⟩
  · rw [show fieldsV 12 = .tuple #[.agg #[.bool false, .bool false, .bool false, .bool false, .bool false, .bool false, .bool false], .bool true] from rfl]
    go_enter Try.func60, Try.ntmps60
    go_wp2_with fail
    exact bodyPost_ret (v := .tuple #[.agg #[.bool false, .bool false, .bool false, .bool false, .bool false, .bool false, .bool false], .bool true]) (by simp [results, Try.results60, go_sem]) rfl ⟨rfl, by first | exact (Below.refl _ w).alloc (Nat.le_refl _) _ | (repeat (first | exact (Below.refl _ w).alloc (Nat.le_refl _) _ | refine Below.setCell ?_ (by simp) _))⟩
  · rw [show fieldsV 13 = .tuple #[.agg #[.bool true, .bool false, .bool false, .bool false, .bool false, .bool false, .bool false], .bool true] from rfl]
    go_enter Try.func60, Try.ntmps60
    go_wp2_with fail
    exact bodyPost_ret (v := .tuple #[.agg #[.bool true, .bool false, .bool false, .bool false, .bool false, .bool false, .bool false], .bool true]) (by simp [results, Try.results60, go_sem]) rfl ⟨rfl, by first | exact (Below.refl _ w).alloc (Nat.le_refl _) _ | (repeat (first | exact (Below.refl _ w).alloc (Nat.le_refl _) _ | refine Below.setCell ?_ (by simp) _))⟩
  · rw [show fieldsV 14 = .tuple #[.agg #[.bool false, .bool false, .bool false, .bool true, .bool false, .bool true, .bool true], .bool true] from rfl]
    go_enter Try.func60, Try.ntmps60
    go_wp2_with fail
    exact bodyPost_ret (v := .tuple #[.agg #[.bool false, .bool false, .bool false, .bool true, .bool false, .bool true, .bool true], .bool true]) (by simp [results, Try.results60, go_sem]) rfl ⟨rfl, by first | exact (Below.refl _ w).alloc (Nat.le_refl _) _ | (repeat (first | exact (Below.refl _ w).alloc (Nat.le_refl _) _ | refine Below.setCell ?_ (by simp) _))⟩
  · rw [show fieldsV op = .tuple #[.agg #[.bool false, .bool false, .bool false, .bool false, .bool false, .bool false, .bool false], .bool false] by unfold fieldsV fieldsOf; simp [n1, n2, n3, n4, n5, n6, n7, n8, n9, n10, n11, n12, n13, n14]]
    have g1 : (op == 1) = false := by simpa using n1
    have g2 : (op == 2) = false := by simpa using n2
    have g3 : (op == 3) = false := by simpa using n3
    have g4 : (op == 4) = false := by simpa using n4
    have g5 : (op == 5) = false := by simpa using n5
    have g6 : (op == 6) = false := by simpa using n6
    have g7 : (op == 7) = false := by simpa using n7
    have g8 : (op == 8) = false := by simpa using n8
    have g9 : (op == 9) = false := by simpa using n9
    have g10 : (op == 10) = false := by simpa using n10
    have g11 : (op == 11) = false := by simpa using n11
    have g12 : (op == 12) = false := by simpa using n12
    have g13 : (op == 13) = false := by simpa using n13
    have g14 : (op == 14) = false := by simpa using n14
    clear n1 n2 n3 n4 n5 n6 n7 n8 n9 n10 n11 n12 n13 n14
    go_enter Try.func60, Try.ntmps60
    go_wp2_with fail
    exact bodyPost_ret (v := .tuple #[.agg #[.bool false, .bool false, .bool false, .bool false, .bool false, .bool false, .bool false], .bool false]) (by simp [results, Try.results60, go_sem]) rfl ⟨rfl, by first | exact (Below.refl _ w).alloc (Nat.le_refl _) _ | (repeat (first | exact (Below.refl _ w).alloc (Nat.le_refl _) _ | refine Below.setCell ?_ (by simp) _))⟩

/-- The code of an instruction's form, by its numbers. -/
def insForm (funcs : Nat) (op a b c k n : Int) (rl al : Nat) : Int :=
  match fieldsOf op with
  | none => 3
  | some (fa, fb, fc, fk, fn, fr, fs) =>
    if (!fa && a != 0) || (!fb && b != 0) || (!fc && c != 0) || (!fk && k != 0) || (!fn && n != 0) || (!fr && decide (0 < rl)) || (!fs && decide (0 < al)) then 4
    else if op = 2 ∧ (k < 1 ∨ 9 < k) then 1
    else if op = 5 ∧ 8 < al then 2
    else if (op = 6 ∨ op = 7) ∧ (k < 0 ∨ 7 < k) then 1
    else if op = 14 ∧ (k < 0 ∨ (funcs : Int) ≤ k) then 1
    else if op = 14 ∧ (6 < rl ∨ 8 < al) then 2
    else 0
theorem MIns.form_eq (funcs : Nat) (x : MIns) : x.form funcs = insForm funcs x.op x.a x.b x.c x.k x.n x.regs.length x.args.length := by
  unfold MIns.form MIns.formless insForm
  cases fieldsOf x.op with
  | none => rfl
  | some p => obtain ⟨a, b, c, k, n, r, s⟩ := p; rfl
end Go.Proofs.Ytmnmnokkojcodab
/-
  FieldsOf, as a reader.
-/
namespace Go.Proofs.Ytmnmnokkojcodab
open Go.ChangeShapes Go.WideShapes Go.ChangeAt Go.RowKit
set_option linter.unusedVariables false
set_option linter.unusedSimpArgs false

theorem rdFieldsSome {op : Int} {fa fb fc fk fn fr fs : Bool} (hop : fieldsOf op = some (fa, fb, fc, fk, fn, fr, fs)) (w : World) : Rd Try.prog 60 #[.int .i64 op] w (.tuple #[.agg #[.bool fa, .bool fb, .bool fc, .bool fk, .bool fn, .bool fr, .bool fs], .bool true]) := by
  have := fieldsOf_any op w
  rwa [show fieldsV op = .tuple #[.agg #[.bool fa, .bool fb, .bool fc, .bool fk, .bool fn, .bool fr, .bool fs], .bool true] from by unfold fieldsV; rw [hop]] at this
theorem rdFieldsNo {op : Int} (hop : fieldsOf op = none) (w : World) : Rd Try.prog 60 #[.int .i64 op] w (.tuple #[.agg #[.bool false, .bool false, .bool false, .bool false, .bool false, .bool false, .bool false], .bool false]) := by
  have := fieldsOf_any op w
  rwa [show fieldsV op = .tuple #[.agg #[.bool false, .bool false, .bool false, .bool false, .bool false, .bool false, .bool false], .bool false] from by unfold fieldsV; rw [hop]] at this
theorem insForm_d {lm : Nat} {op a b c k n : Int} {rl al : Nat} {fa fb fc fk fn fr fs d1 d2 d3 d4 d5 d6 d7 : Bool} (e : fieldsOf op = some (fa, fb, fc, fk, fn, fr, fs))
    (h1 : d1 = (!fa && a != 0)) (h2 : d2 = (d1 || (!fb && b != 0))) (h3 : d3 = (d2 || (!fc && c != 0))) (h4 : d4 = (d3 || (!fk && k != 0))) (h5 : d5 = (d4 || (!fn && n != 0))) (h6 : d6 = (d5 || (!fr && decide ((0 : Int) < (rl : Int))))) (h7 : d7 = (d6 || (!fs && decide ((0 : Int) < (al : Int))))) :
    insForm lm op a b c k n rl al = if d7 then 4
    else if op = 2 ∧ (k < 1 ∨ 9 < k) then 1
    else if op = 5 ∧ 8 < al then 2
    else if (op = 6 ∨ op = 7) ∧ (k < 0 ∨ 7 < k) then 1
    else if op = 14 ∧ (k < 0 ∨ (lm : Int) ≤ k) then 1
    else if op = 14 ∧ (6 < rl ∨ 8 < al) then 2
    else 0 := by
  subst h1 h2 h3 h4 h5 h6 h7
  simp only [insForm, e]
  have e1 : decide ((0 : Int) < (rl : Int)) = decide (0 < rl) := by simp
  have e2 : decide ((0 : Int) < (al : Int)) = decide (0 < al) := by simp
  rw [e1, e2]
end Go.Proofs.Ytmnmnokkojcodab
/-
  The forms of ends and instructions: the reference, and package code.
-/
namespace Go.Proofs.Ytmnmnokkojcodab
open Go.ChangeShapes Go.WideShapes Go.ChangeAt Go.RowKit
set_option linter.unusedVariables false
set_option linter.unusedSimpArgs false

def rangeC (x l m : Int) : Int := if x < l ∨ m < x then 1 else 0
def manyC (len : Nat) (m : Int) : Int := if m < len then 2 else 0
def handedC (r : Nat) (m : Int) (s : Nat) : Int := if manyC r m ≠ 0 then manyC r m else manyC s 8
theorem wrap_add (p q : Nat) (h : p + q < 4611686018427387904) : IntKind.i64.wrap ((p : Int) + (q : Int)) = (p : Int) + (q : Int) := by
  have e1 : ((p : Int) + (q : Int)) % 2 ^ 64 = (p : Int) + (q : Int) := by omega
  simp only [IntKind.wrap, IntKind.signed, IntKind.bits, e1, Bool.true_and]
  rw [if_neg (by simp only [decide_eq_true_eq]; omega)]

set_option maxHeartbeats 4000000 in
set_option maxRecDepth 100000 in
theorem rangeCode_any {x l m : Int} {w : World}  :
    Rd Try.prog 86 #[.int .i64 x, .int .i64 l, .int .i64 m] w (.int .i64 (rangeC x l m)) := by
  refine fr_enter (n := 15) Try.func86 rfl rfl rfl ?_
  intro a hF
  have hW := Wd.start w
  replace hF : Fr 15 a [(0, .int .i64 x), (1, .int .i64 l), (2, .int .i64 m)] := hF
  refine wp_seq_k fun K1 hK1 => ?_
  refine rg hF fun ops => ?_; clear hF a
  refine sa trivial rfl rfl ?_
  refine St.nil fun a2 h2 => ?_
  refine hK1 _ _ ?_
  refine wp_seq_k fun K3 hK3 => ?_
  refine wp_seq_k fun K4 hK4 => ?_
  refine fr_region ?_
  intro ops hops
  have hg3 : (ops[3]?).bind (fun o : Oper => o.dst) = some 10 := hops 3
  clear hops
  refine St.go h2 ?_; clear h2 a2
  refine sm trivial rfl rfl ?_
  refine sm trivial rfl rfl ?_
  refine slt trivial rfl rfl rfl ?_
  refine sm trivial rfl rfl ?_
  intro a5 h5
  rcases Bool.eq_false_or_eq_true (decide (x < l)) with hb | hb
  ·rw [hb] at h5
   have hc6 : x < l := of_decide_eq_true hb
   clear hb
   refine St.go h5 ?_; clear h5 a5
   refine so hg3 rfl rfl rfl rfl ?_
   refine so hg3 rfl rfl rfl rfl ?_
   refine so hg3 rfl rfl rfl rfl ?_
   refine sp trivial rfl rfl rfl ?_
   refine St.nil fun a7 h7 => ?_
   refine hK4 _ _ ?_
   refine fr_true (t := 14) h7 rfl ?_
   refine wp_seq_k fun K8 hK8 => ?_
   refine rg h7 fun ops => ?_; clear h7 a7
   refine sa trivial rfl rfl ?_
   refine St.nil fun a9 h9 => ?_
   refine hK8 _ _ ?_
   refine wp_ret ?_; with_reducible repeat first | refine of_then_ret ?_ | refine of_block_ret ?_
   have R : rangeC x l m = 1 := by simp [rangeC, hc6]
   exact ret_tmp (t := 6) h9 rfl rfl ⟨by rw [R], hW.bel⟩
  rw [hb] at h5
  have hc10 : ¬ (x < l) := of_decide_eq_false hb
  clear hb
  refine St.go h5 ?_; clear h5 a5
  refine sm ⟨_, hg3, rfl, rfl⟩ rfl rfl ?_
  refine sm ⟨_, hg3, rfl, rfl⟩ rfl rfl ?_
  refine sgt ⟨_, hg3, rfl, rfl⟩ rfl rfl rfl ?_
  refine spf trivial rfl rfl rfl ?_
  refine St.nil fun a11 h11 => ?_
  refine hK4 _ _ ?_
  refine fr_cond (t := 14) h11 rfl (fun hb => ?_) (fun hb => ?_)
  ·have hc12 : m < x := of_decide_eq_true hb
   clear hb
   refine wp_seq_k fun K13 hK13 => ?_
   refine rg h11 fun ops => ?_; clear h11 a11
   refine sa trivial rfl rfl ?_
   refine St.nil fun a14 h14 => ?_
   refine hK13 _ _ ?_
   refine wp_ret ?_; with_reducible repeat first | refine of_then_ret ?_ | refine of_block_ret ?_
   have R : rangeC x l m = 1 := by simp [rangeC, hc10, hc12]
   exact ret_tmp (t := 6) h14 rfl rfl ⟨by rw [R], hW.bel⟩
  have hc15 : ¬ (m < x) := of_decide_eq_false hb
  clear hb
  refine wp_skip ?_
  refine hK3 _ _ ?_
  refine wp_seq_k fun K16 hK16 => ?_
  refine rg h11 fun ops => ?_; clear h11 a11
  refine sa trivial rfl rfl ?_
  refine St.nil fun a17 h17 => ?_
  refine hK16 _ _ ?_
  refine wp_ret ?_; with_reducible repeat first | refine of_then_ret ?_ | refine of_block_ret ?_
  have R : rangeC x l m = 0 := by simp [rangeC, hc10, hc15]
  exact ret_tmp (t := 6) h17 rfl rfl ⟨by rw [R], hW.bel⟩

set_option maxHeartbeats 4000000 in
set_option maxRecDepth 100000 in
theorem manyCode_any {p : Option Addr} {len c : Nat} {m : Int} {w : World}  :
    Rd Try.prog 87 #[.slice p len c, .int .i64 m] w (.int .i64 (manyC len m)) := by
  refine fr_enter (n := 9) Try.func87 rfl rfl rfl ?_
  intro a hF
  have hW := Wd.start w
  replace hF : Fr 9 a [(0, .slice p len c), (1, .int .i64 m)] := hF
  refine wp_seq_k fun K1 hK1 => ?_
  refine rg hF fun ops => ?_; clear hF a
  refine sa trivial rfl rfl ?_
  refine St.nil fun a2 h2 => ?_
  refine hK1 _ _ ?_
  refine wp_seq_k fun K3 hK3 => ?_
  refine wp_seq_k fun K4 hK4 => ?_
  refine rg h2 fun ops => ?_; clear h2 a2
  refine sm trivial rfl rfl ?_
  refine slInts trivial rfl rfl ?_
  refine sm trivial rfl rfl ?_
  refine sgt trivial rfl rfl rfl ?_
  refine St.nil fun a5 h5 => ?_
  refine hK4 _ _ ?_
  refine fr_cond (t := 8) h5 rfl (fun hb => ?_) (fun hb => ?_)
  ·have hc6 : m < (len : Int) := of_decide_eq_true hb
   clear hb
   refine wp_seq_k fun K7 hK7 => ?_
   refine rg h5 fun ops => ?_; clear h5 a5
   refine sa trivial rfl rfl ?_
   refine St.nil fun a8 h8 => ?_
   refine hK7 _ _ ?_
   refine wp_ret ?_; with_reducible repeat first | refine of_then_ret ?_ | refine of_block_ret ?_
   have R : manyC len m = 2 := by simp [manyC, hc6]
   exact ret_tmp (t := 4) h8 rfl rfl ⟨by rw [R], hW.bel⟩
  have hc9 : ¬ (m < (len : Int)) := of_decide_eq_false hb
  clear hb
  refine wp_skip ?_
  refine hK3 _ _ ?_
  refine wp_seq_k fun K10 hK10 => ?_
  refine rg h5 fun ops => ?_; clear h5 a5
  refine sa trivial rfl rfl ?_
  refine St.nil fun a11 h11 => ?_
  refine hK10 _ _ ?_
  refine wp_ret ?_; with_reducible repeat first | refine of_then_ret ?_ | refine of_block_ret ?_
  have R : manyC len m = 0 := by simp [manyC, hc9]
  exact ret_tmp (t := 4) h11 rfl rfl ⟨by rw [R], hW.bel⟩

set_option maxHeartbeats 4000000 in
set_option maxRecDepth 100000 in
theorem handedCode_any {p q : Option Addr} {r c s d : Nat} {m : Int} {w : World}  :
    Rd Try.prog 88 #[.slice p r c, .int .i64 m, .slice q s d] w (.int .i64 (handedC r m s)) := by
  refine fr_enter (n := 16) Try.func88 rfl rfl rfl ?_
  intro a hF
  have hW := Wd.start w
  replace hF : Fr 16 a [(0, .slice p r c), (1, .int .i64 m), (2, .slice q s d)] := hF
  refine wp_seq_k fun K1 hK1 => ?_
  refine rg hF fun ops => ?_; clear hF a
  refine sa trivial rfl rfl ?_
  refine St.nil fun a2 h2 => ?_
  refine hK1 _ _ ?_
  refine wp_seq_k fun K3 hK3 => ?_
  refine wp_seq_k fun K4 hK4 => ?_
  refine rg h2 fun ops => ?_; clear h2 a2
  refine sm trivial rfl rfl ?_
  refine sm trivial rfl rfl ?_
  refine sc_2 cf87 hW (manyCode_any) trivial rfl rfl rfl ?_
  clear hW; intro w5 hW5
  refine sa trivial rfl rfl ?_
  refine St.nil fun a6 h6 => ?_
  refine hK4 _ _ ?_
  refine wp_seq_k fun K7 hK7 => ?_
  refine rg h6 fun ops => ?_; clear h6 a6
  refine sm trivial rfl rfl ?_
  refine sne trivial rfl rfl rfl ?_
  refine St.nil fun a8 h8 => ?_
  refine hK7 _ _ ?_
  refine fr_cond (t := 12) h8 rfl (fun hb => ?_) (fun hb => ?_)
  ·have h9 : ¬ (manyC r m) = 0 := bne_iff_ne.1 hb
   have hc9 : ¬ (manyC r m) = 0 := h9
   clear h9
   clear hb
   refine wp_seq_k fun K10 hK10 => ?_
   refine rg h8 fun ops => ?_; clear h8 a8
   refine sm trivial rfl rfl ?_
   refine sa trivial rfl rfl ?_
   refine St.nil fun a11 h11 => ?_
   refine hK10 _ _ ?_
   refine wp_ret ?_; with_reducible repeat first | refine of_then_ret ?_ | refine of_block_ret ?_
   have R : handedC r m s = manyC r m := by simp [handedC, hc9]
   exact ret_tmp (t := 6) h11 rfl rfl ⟨by rw [R], hW5.bel⟩
  have h9 : (manyC r m) = 0 := bne_eq_false_iff_eq.1 hb
  have hc12 : Hid ((manyC r m) = 0) := h9
  clear h9
  clear hb
  refine wp_skip ?_
  refine hK3 _ _ ?_
  refine wp_seq_k fun K13 hK13 => ?_
  refine rg h8 fun ops => ?_; clear h8 a8
  refine sm trivial rfl rfl ?_
  refine sc_2 cf87 hW5 (manyCode_any) trivial rfl rfl rfl ?_
  clear hW5; intro w14 hW14
  refine sa trivial rfl rfl ?_
  refine St.nil fun a15 h15 => ?_
  refine hK13 _ _ ?_
  refine wp_ret ?_; with_reducible repeat first | refine of_then_ret ?_ | refine of_block_ret ?_
  have R : handedC r m s = manyC s 8 := by simp [handedC, hc12.out]
  exact ret_tmp (t := 6) h15 rfl rfl ⟨by rw [R], hW14.bel⟩

theorem wrap_pred (p : Nat) (h : p < 4611686018427387904) : IntKind.i64.wrap ((p : Int) - 1) = (p : Int) - 1 := by
  rcases Nat.eq_zero_or_pos p with rfl | hp
  · decide +kernel
  · have e1 : ((p : Int) - 1) % 2 ^ 64 = (p : Int) - 1 := by omega
    simp only [IntKind.wrap, IntKind.signed, IntKind.bits, e1, Bool.true_and]
    rw [if_neg (by simp only [decide_eq_true_eq]; omega)]
theorem toForm_eq (x : MTo) (bl : Nat) : x.form bl true = if rangeC x.block 0 ((bl : Int) - 1) = 0 then handedC x.regs.length 16 x.args.length else rangeC x.block 0 ((bl : Int) - 1) := by
  unfold MTo.form rangeC handedC manyC
  simp only [Bool.true_eq_false, if_false]
  repeat' split
  all_goals omega
theorem toForm_no (x : MTo) (bl : Nat) : x.form bl false = if x.block = 0 ∧ x.regs.length = 0 ∧ x.args.length = 0 then 0 else 4 := by
  unfold MTo.form
  simp only [if_true]
  repeat' split
  all_goals omega
/-- An end's form, in the order of the tests. -/
theorem endForm_eq (e : MEnd) (bl : Nat) : e.form bl = if e.op < 1 ∨ 3 < e.op then 3 else if (e.op ≠ 2 ∧ e.a ≠ 0) ∨ (e.op ≠ 3 ∧ 0 < e.args.length) then 4 else if 8 < e.args.length then 2
    else if e.yes.form bl (e.op != 3) = 0 then e.no.form bl (e.op == 2) else e.yes.form bl (e.op != 3) := by
  unfold MEnd.form
  have h1 : decide (e.op ≠ 3) = (e.op != 3) := by by_cases h : e.op = 3 <;> simp [h]
  have h2 : decide (e.op = 2) = (e.op == 2) := by by_cases h : e.op = 2 <;> simp [h]
  rw [h1, h2]
  by_cases c1 : e.op < 1 ∨ 3 < e.op
  · simp [c1]
  · rw [if_neg c1, if_neg c1]
    by_cases c2 : (e.op ≠ 2 ∧ e.a ≠ 0) ∨ (e.op ≠ 3 ∧ 0 < e.args.length)
    · rw [if_pos c2, if_pos (c2.imp (fun h => ⟨h.2, h.1⟩) (fun h => ⟨h.2, h.1⟩))]
    · rw [if_neg c2, if_neg (fun h => c2 (h.imp (fun h => ⟨h.2, h.1⟩) (fun h => ⟨h.2, h.1⟩)))]
      by_cases c3 : 8 < e.args.length
      · simp [c3]
      · rw [if_neg c3, if_neg c3]
        by_cases c4 : e.yes.form bl (e.op != 3) = 0
        · simp [c4]
        · simp [c4]

set_option maxHeartbeats 4000000 in
set_option maxRecDepth 100000 in
theorem toFormF {x : MTo} {pR pA : Option Addr} {cR cA : Nat} {fr : Int} {fp fq fb : Option Addr} {fl fc fm fd bl fe : Nat} {w : World} (hr : x.regs.length < 2305843009213693952) (ha : x.args.length < 2305843009213693952) (hbl : bl < 2305843009213693952) :
    Rd Try.prog 62 #[.agg #[.int .i64 fr, .slice fp fl fc, .slice fq fm fd, .slice fb bl fe], .agg #[.int .i64 x.block, .slice pR x.regs.length cR, .slice pA x.args.length cA], .bool false] w (.int .i64 (x.form bl false)) := by
  refine fr_enter (n := 43) Try.func62 rfl rfl rfl ?_
  intro a hF
  have hW := Wd.start w
  replace hF : Fr 43 a [(0, .agg #[.int .i64 fr, .slice fp fl fc, .slice fq fm fd, .slice fb bl fe]), (1, .agg #[.int .i64 x.block, .slice pR x.regs.length cR, .slice pA x.args.length cA]), (2, .bool false)] := hF
  refine wp_seq_k fun K1 hK1 => ?_
  refine rg hF fun ops => ?_; clear hF a
  refine sB hW trivial rfl rfl ?_
  clear hW; intro w2 B2 hW2 hN; clear hN
  refine sB hW2 trivial rfl rfl ?_
  clear hW2; intro w3 B3 hW3 hN; clear hN
  refine sa trivial rfl rfl ?_
  refine St.nil fun a4 h4 => ?_
  refine hK1 _ _ ?_
  refine wp_seq_k fun K5 hK5 => ?_
  refine wp_seq_k fun K6 hK6 => ?_
  refine rg h4 fun ops => ?_; clear h4 a4
  refine sm trivial rfl rfl ?_
  refine sn trivial rfl rfl ?_
  refine St.nil fun a7 h7 => ?_
  refine hK6 _ _ ?_
  refine fr_true (t := 8) h7 rfl ?_
  refine wp_seq_k fun K8 hK8 => ?_
  refine wp_seq_k fun K9 hK9 => ?_
  refine fr_region ?_
  intro ops hops
  have hg3 : (ops[3]?).bind (fun o : Oper => o.dst) = some 12 := hops 3
  clear hops
  refine St.go h7 ?_; clear h7 a7
  refine sfTo0 trivial rfl rfl ?_
  refine sbInt 0 hW3 trivial rfl rfl rfl rfl ?_
  refine sne trivial rfl rfl rfl ?_
  refine sm trivial rfl rfl ?_
  intro a10 h10
  rcases Bool.eq_false_or_eq_true (x.block != 0) with hb | hb
  ·rw [hb] at h10
   have h9 : ¬ x.block = 0 := bne_iff_ne.1 hb
   have hc11 : ¬ x.block = 0 := h9
   clear h9
   clear hb
   refine St.go h10 ?_; clear h10 a10
   refine so hg3 rfl rfl rfl rfl ?_
   refine so hg3 rfl rfl rfl rfl ?_
   refine so hg3 rfl rfl rfl rfl ?_
   refine so hg3 rfl rfl rfl rfl ?_
   refine so hg3 rfl rfl rfl rfl ?_
   refine so hg3 rfl rfl rfl rfl ?_
   refine so hg3 rfl rfl rfl rfl ?_
   refine so hg3 rfl rfl rfl rfl ?_
   refine sp trivial rfl rfl rfl ?_
   refine St.nil fun a12 h12 => ?_
   refine hK9 _ _ ?_
   refine fr_true (t := 21) h12 rfl ?_
   refine wp_seq_k fun K13 hK13 => ?_
   refine rg h12 fun ops => ?_; clear h12 a12
   refine sa trivial rfl rfl ?_
   refine St.nil fun a14 h14 => ?_
   refine hK13 _ _ ?_
   refine wp_ret ?_; with_reducible repeat first | refine of_then_ret ?_ | refine of_block_ret ?_
   have R : x.form bl false = 4 := by have := hc11; rw [toForm_no]; split <;> omega
   exact ret_tmp (t := 6) h14 rfl rfl ⟨by rw [R], hW3.bel⟩
  rw [hb] at h10
  have h9 : x.block = 0 := bne_eq_false_iff_eq.1 hb
  have hc15 : Hid (x.block = 0) := h9
  clear h9
  clear hb
  refine St.go h10 ?_; clear h10 a10
  refine sfTo1 ⟨_, hg3, rfl, rfl⟩ rfl rfl ?_
  refine sbInts 0 hW3 ⟨_, hg3, rfl, rfl⟩ rfl rfl rfl rfl ?_
  refine slInts ⟨_, hg3, rfl, rfl⟩ rfl rfl ?_
  refine sfTo2 ⟨_, hg3, rfl, rfl⟩ rfl rfl ?_
  refine sbInts 0 hW3 ⟨_, hg3, rfl, rfl⟩ rfl rfl rfl rfl ?_
  refine slInts ⟨_, hg3, rfl, rfl⟩ rfl rfl ?_
  intro a16 h16
  refine fr_pure_g (t := 19) (g := 3) (tg := 12) (want := false) (v := .int .i64 ((x.regs.length + x.args.length : Nat) : Int)) (w' := w3) h16 rfl rfl hg3 rfl rfl rfl (fun K hK => ?_) ?_
  ·have k0 : a16.tmps.getD 15 undef = .int .i64 (x.regs.length : Int) := h16.sl 15 _ rfl
   have k1 : a16.tmps.getD 18 undef = .int .i64 (x.args.length : Int) := h16.sl 18 _ rfl
   have hwr : IntKind.i64.wrap ((x.regs.length : Int) + (x.args.length : Int)) = (x.regs.length : Int) + (x.args.length : Int) := wrap_add _ _ (by omega)
   go_simp
   exact hK
  clear h16; intro a17 hF17
  refine St.go hF17 ?_; clear hF17 a17
  refine sgt ⟨_, hg3, rfl, rfl⟩ rfl rfl rfl ?_
  refine spf trivial rfl rfl rfl ?_
  refine St.nil fun a18 h18 => ?_
  refine hK9 _ _ ?_
  refine fr_cond (t := 21) h18 rfl (fun hb => ?_) (fun hb => ?_)
  ·have hc19 : 0 < ((x.regs.length + x.args.length : Nat) : Int) := of_decide_eq_true hb
   clear hb
   refine wp_seq_k fun K20 hK20 => ?_
   refine rg h18 fun ops => ?_; clear h18 a18
   refine sa trivial rfl rfl ?_
   refine St.nil fun a21 h21 => ?_
   refine hK20 _ _ ?_
   refine wp_ret ?_; with_reducible repeat first | refine of_then_ret ?_ | refine of_block_ret ?_
   have R : x.form bl false = 4 := by have := hc15.out; have := hc19; rw [toForm_no]; split <;> omega
   exact ret_tmp (t := 6) h21 rfl rfl ⟨by rw [R], hW3.bel⟩
  have hc22 : ¬ (0 < ((x.regs.length + x.args.length : Nat) : Int)) := of_decide_eq_false hb
  clear hb
  refine wp_skip ?_
  refine hK8 _ _ ?_
  refine wp_seq_k fun K23 hK23 => ?_
  refine rg h18 fun ops => ?_; clear h18 a18
  refine sa trivial rfl rfl ?_
  refine St.nil fun a24 h24 => ?_
  refine hK23 _ _ ?_
  refine wp_ret ?_; with_reducible repeat first | refine of_then_ret ?_ | refine of_block_ret ?_
  have R : x.form bl false = 0 := by have := hc15.out; have := hc22; rw [toForm_no]; split <;> omega
  exact ret_tmp (t := 6) h24 rfl rfl ⟨by rw [R], hW3.bel⟩

set_option maxHeartbeats 4000000 in
set_option maxRecDepth 100000 in
theorem toFormT {x : MTo} {pR pA : Option Addr} {cR cA : Nat} {fr : Int} {fp fq fb : Option Addr} {fl fc fm fd bl fe : Nat} {w : World} (hr : x.regs.length < 2305843009213693952) (ha : x.args.length < 2305843009213693952) (hbl : bl < 2305843009213693952) :
    Rd Try.prog 62 #[.agg #[.int .i64 fr, .slice fp fl fc, .slice fq fm fd, .slice fb bl fe], .agg #[.int .i64 x.block, .slice pR x.regs.length cR, .slice pA x.args.length cA], .bool true] w (.int .i64 (x.form bl true)) := by
  refine fr_enter (n := 43) Try.func62 rfl rfl rfl ?_
  intro a hF
  have hW := Wd.start w
  replace hF : Fr 43 a [(0, .agg #[.int .i64 fr, .slice fp fl fc, .slice fq fm fd, .slice fb bl fe]), (1, .agg #[.int .i64 x.block, .slice pR x.regs.length cR, .slice pA x.args.length cA]), (2, .bool true)] := hF
  refine wp_seq_k fun K1 hK1 => ?_
  refine rg hF fun ops => ?_; clear hF a
  refine sB hW trivial rfl rfl ?_
  clear hW; intro w2 B2 hW2 hN; clear hN
  refine sB hW2 trivial rfl rfl ?_
  clear hW2; intro w3 B3 hW3 hN; clear hN
  refine sa trivial rfl rfl ?_
  refine St.nil fun a4 h4 => ?_
  refine hK1 _ _ ?_
  refine wp_seq_k fun K5 hK5 => ?_
  refine wp_seq_k fun K6 hK6 => ?_
  refine rg h4 fun ops => ?_; clear h4 a4
  refine sm trivial rfl rfl ?_
  refine sn trivial rfl rfl ?_
  refine St.nil fun a7 h7 => ?_
  refine hK6 _ _ ?_
  refine fr_false (t := 8) h7 rfl ?_
  refine wp_skip ?_
  refine hK5 _ _ ?_
  refine wp_seq_k fun K8 hK8 => ?_
  refine wp_seq_k fun K9 hK9 => ?_
  refine fr_region ?_
  intro ops hops
  have hg3 : (ops[3]?).bind (fun o : Oper => o.dst) = some 25 := hops 3
  clear hops
  refine St.go h7 ?_; clear h7 a7
  refine sfTo0 trivial rfl rfl ?_
  refine sbInt 0 hW3 trivial rfl rfl rfl rfl ?_
  refine slt trivial rfl rfl rfl ?_
  refine sm trivial rfl rfl ?_
  intro a10 h10
  rcases Bool.eq_false_or_eq_true (decide (x.block < 0)) with hb | hb
  ·rw [hb] at h10
   have hc11 : x.block < 0 := of_decide_eq_true hb
   clear hb
   refine St.go h10 ?_; clear h10 a10
   refine so hg3 rfl rfl rfl rfl ?_
   refine so hg3 rfl rfl rfl rfl ?_
   refine so hg3 rfl rfl rfl rfl ?_
   refine so hg3 rfl rfl rfl rfl ?_
   refine so hg3 rfl rfl rfl rfl ?_
   refine so hg3 rfl rfl rfl rfl ?_
   refine sp trivial rfl rfl rfl ?_
   refine St.nil fun a12 h12 => ?_
   refine hK9 _ _ ?_
   refine fr_true (t := 32) h12 rfl ?_
   refine wp_seq_k fun K13 hK13 => ?_
   refine rg h12 fun ops => ?_; clear h12 a12
   refine sa trivial rfl rfl ?_
   refine St.nil fun a14 h14 => ?_
   refine hK13 _ _ ?_
   refine wp_ret ?_; with_reducible repeat first | refine of_then_ret ?_ | refine of_block_ret ?_
   have R : x.form bl true = 1 := by simp [MTo.form, hc11]
   exact ret_tmp (t := 6) h14 rfl rfl ⟨by rw [R], hW3.bel⟩
  rw [hb] at h10
  have hc15 : ¬ (x.block < 0) := of_decide_eq_false hb
  clear hb
  refine St.go h10 ?_; clear h10 a10
  refine sfTo0 ⟨_, hg3, rfl, rfl⟩ rfl rfl ?_
  refine sbInt 0 hW3 ⟨_, hg3, rfl, rfl⟩ rfl rfl rfl rfl ?_
  refine sfFunc3 ⟨_, hg3, rfl, rfl⟩ rfl rfl ?_
  refine sbBlocks 1 hW3 ⟨_, hg3, rfl, rfl⟩ rfl rfl rfl rfl ?_
  refine slBlocks ⟨_, hg3, rfl, rfl⟩ rfl rfl ?_
  refine sge ⟨_, hg3, rfl, rfl⟩ rfl rfl rfl ?_
  refine spf trivial rfl rfl rfl ?_
  refine St.nil fun a16 h16 => ?_
  refine hK9 _ _ ?_
  refine fr_cond (t := 32) h16 rfl (fun hb => ?_) (fun hb => ?_)
  ·have hc17 : (bl : Int) ≤ x.block := of_decide_eq_true hb
   clear hb
   refine wp_seq_k fun K18 hK18 => ?_
   refine rg h16 fun ops => ?_; clear h16 a16
   refine sa trivial rfl rfl ?_
   refine St.nil fun a19 h19 => ?_
   refine hK18 _ _ ?_
   refine wp_ret ?_; with_reducible repeat first | refine of_then_ret ?_ | refine of_block_ret ?_
   have R : x.form bl true = 1 := by simp [MTo.form, hc15, hc17]
   exact ret_tmp (t := 6) h19 rfl rfl ⟨by rw [R], hW3.bel⟩
  have hc20 : ¬ ((bl : Int) ≤ x.block) := of_decide_eq_false hb
  clear hb
  refine wp_skip ?_
  refine hK8 _ _ ?_
  refine wp_seq_k fun K21 hK21 => ?_
  refine wp_seq_k fun K22 hK22 => ?_
  refine fr_region ?_
  intro ops hops
  have hg4 : (ops[4]?).bind (fun o : Oper => o.dst) = some 37 := hops 4
  clear hops
  refine St.go h16 ?_; clear h16 a16
  refine sfTo1 trivial rfl rfl ?_
  refine sbInts 0 hW3 trivial rfl rfl rfl rfl ?_
  refine slInts trivial rfl rfl ?_
  refine sgt trivial rfl rfl rfl ?_
  refine sm trivial rfl rfl ?_
  intro a23 h23
  rcases Bool.eq_false_or_eq_true (decide (16 < (x.regs.length : Int))) with hb | hb
  ·rw [hb] at h23
   have hc24 : 16 < x.regs.length := by have := of_decide_eq_true hb; omega
   clear hb
   refine St.go h23 ?_; clear h23 a23
   refine so hg4 rfl rfl rfl rfl ?_
   refine so hg4 rfl rfl rfl rfl ?_
   refine so hg4 rfl rfl rfl rfl ?_
   refine so hg4 rfl rfl rfl rfl ?_
   refine sp trivial rfl rfl rfl ?_
   refine St.nil fun a25 h25 => ?_
   refine hK22 _ _ ?_
   refine fr_true (t := 42) h25 rfl ?_
   refine wp_seq_k fun K26 hK26 => ?_
   refine rg h25 fun ops => ?_; clear h25 a25
   refine sa trivial rfl rfl ?_
   refine St.nil fun a27 h27 => ?_
   refine hK26 _ _ ?_
   refine wp_ret ?_; with_reducible repeat first | refine of_then_ret ?_ | refine of_block_ret ?_
   have R : x.form bl true = 2 := by simp [MTo.form, hc15, hc20, hc24]
   exact ret_tmp (t := 6) h27 rfl rfl ⟨by rw [R], hW3.bel⟩
  rw [hb] at h23
  have hc28 : ¬ (16 < x.regs.length) := by have := of_decide_eq_false hb; omega
  clear hb
  refine St.go h23 ?_; clear h23 a23
  refine sfTo2 ⟨_, hg4, rfl, rfl⟩ rfl rfl ?_
  refine sbInts 0 hW3 ⟨_, hg4, rfl, rfl⟩ rfl rfl rfl rfl ?_
  refine slInts ⟨_, hg4, rfl, rfl⟩ rfl rfl ?_
  refine sgt ⟨_, hg4, rfl, rfl⟩ rfl rfl rfl ?_
  refine spf trivial rfl rfl rfl ?_
  refine St.nil fun a29 h29 => ?_
  refine hK22 _ _ ?_
  refine fr_cond (t := 42) h29 rfl (fun hb => ?_) (fun hb => ?_)
  ·have hc30 : 8 < x.args.length := by have := of_decide_eq_true hb; omega
   clear hb
   refine wp_seq_k fun K31 hK31 => ?_
   refine rg h29 fun ops => ?_; clear h29 a29
   refine sa trivial rfl rfl ?_
   refine St.nil fun a32 h32 => ?_
   refine hK31 _ _ ?_
   refine wp_ret ?_; with_reducible repeat first | refine of_then_ret ?_ | refine of_block_ret ?_
   have R : x.form bl true = 2 := by simp [MTo.form, hc15, hc20, hc28, hc30]
   exact ret_tmp (t := 6) h32 rfl rfl ⟨by rw [R], hW3.bel⟩
  have hc33 : ¬ (8 < x.args.length) := by have := of_decide_eq_false hb; omega
  clear hb
  refine wp_skip ?_
  refine hK21 _ _ ?_
  refine wp_seq_k fun K34 hK34 => ?_
  refine rg h29 fun ops => ?_; clear h29 a29
  refine sa trivial rfl rfl ?_
  refine St.nil fun a35 h35 => ?_
  refine hK34 _ _ ?_
  refine wp_ret ?_; with_reducible repeat first | refine of_then_ret ?_ | refine of_block_ret ?_
  have R : x.form bl true = 0 := by simp [MTo.form, hc15, hc20, hc28, hc33]
  exact ret_tmp (t := 6) h35 rfl rfl ⟨by rw [R], hW3.bel⟩
theorem toForm_any {x : MTo} {pR pA : Option Addr} {cR cA : Nat} {fr : Int} {fp fq fb : Option Addr} {fl fc fm fd bl fe : Nat} (has : Bool) {w : World} (hr : x.regs.length < 2305843009213693952) (ha : x.args.length < 2305843009213693952) (hbl : bl < 2305843009213693952) :
    Rd Try.prog 62 #[.agg #[.int .i64 fr, .slice fp fl fc, .slice fq fm fd, .slice fb bl fe], .agg #[.int .i64 x.block, .slice pR x.regs.length cR, .slice pA x.args.length cA], .bool has] w (.int .i64 (x.form bl has)) := by
  cases has
  · exact toFormF hr ha hbl
  · exact toFormT hr ha hbl

set_option maxHeartbeats 4000000 in
set_option maxRecDepth 100000 in
theorem toCodeF {x : MTo} {pR pA : Option Addr} {cR cA : Nat} {fr : Int} {fp fq fb : Option Addr} {fl fc fm fd bl fe : Nat} {w : World} (hr : x.regs.length < 2305843009213693952) (ha : x.args.length < 2305843009213693952) (hbl : bl < 2305843009213693952) :
    Rd Try.prog 61 #[.agg #[.int .i64 fr, .slice fp fl fc, .slice fq fm fd, .slice fb bl fe], .agg #[.int .i64 x.block, .slice pR x.regs.length cR, .slice pA x.args.length cA], .bool false] w (.int .i64 (x.form bl false)) := by
  refine fr_enter (n := 40) Try.func61 rfl rfl rfl ?_
  intro a hF
  have hW := Wd.start w
  replace hF : Fr 40 a [(0, .agg #[.int .i64 fr, .slice fp fl fc, .slice fq fm fd, .slice fb bl fe]), (1, .agg #[.int .i64 x.block, .slice pR x.regs.length cR, .slice pA x.args.length cA]), (2, .bool false)] := hF
  refine wp_seq_k fun K1 hK1 => ?_
  refine rg hF fun ops => ?_; clear hF a
  refine sB hW trivial rfl rfl ?_
  clear hW; intro w2 B2 hW2 hN; clear hN
  refine sB hW2 trivial rfl rfl ?_
  clear hW2; intro w3 B3 hW3 hN; clear hN
  refine sa trivial rfl rfl ?_
  refine St.nil fun a4 h4 => ?_
  refine hK1 _ _ ?_
  refine wp_seq_k fun K5 hK5 => ?_
  refine wp_seq_k fun K6 hK6 => ?_
  refine rg h4 fun ops => ?_; clear h4 a4
  refine sm trivial rfl rfl ?_
  refine sn trivial rfl rfl ?_
  refine St.nil fun a7 h7 => ?_
  refine hK6 _ _ ?_
  refine fr_true (t := 9) h7 rfl ?_
  refine wp_seq_k fun K8 hK8 => ?_
  refine wp_seq_k fun K9 hK9 => ?_
  refine fr_region ?_
  intro ops hops
  have hg3 : (ops[3]?).bind (fun o : Oper => o.dst) = some 13 := hops 3
  have hg9 : (ops[9]?).bind (fun o : Oper => o.dst) = some 19 := hops 9
  clear hops
  refine St.go h7 ?_; clear h7 a7
  refine sfTo0 trivial rfl rfl ?_
  refine sbInt 0 hW3 trivial rfl rfl rfl rfl ?_
  refine sne trivial rfl rfl rfl ?_
  refine sm trivial rfl rfl ?_
  intro a10 h10
  rcases Bool.eq_false_or_eq_true (x.block != 0) with hb | hb
  ·rw [hb] at h10
   have h9 : ¬ x.block = 0 := bne_iff_ne.1 hb
   have hc11 : ¬ x.block = 0 := h9
   clear h9
   clear hb
   refine St.go h10 ?_; clear h10 a10
   refine so hg3 rfl rfl rfl rfl ?_
   refine so hg3 rfl rfl rfl rfl ?_
   refine so hg3 rfl rfl rfl rfl ?_
   refine so hg3 rfl rfl rfl rfl ?_
   refine sp trivial rfl rfl rfl ?_
   refine sm trivial rfl rfl ?_
   refine so hg9 rfl rfl rfl rfl ?_
   refine so hg9 rfl rfl rfl rfl ?_
   refine so hg9 rfl rfl rfl rfl ?_
   refine so hg9 rfl rfl rfl rfl ?_
   refine sp trivial rfl rfl rfl ?_
   refine St.nil fun a12 h12 => ?_
   refine hK9 _ _ ?_
   refine fr_true (t := 24) h12 rfl ?_
   refine wp_seq_k fun K13 hK13 => ?_
   refine rg h12 fun ops => ?_; clear h12 a12
   refine sa trivial rfl rfl ?_
   refine St.nil fun a14 h14 => ?_
   refine hK13 _ _ ?_
   refine wp_ret ?_; with_reducible repeat first | refine of_then_ret ?_ | refine of_block_ret ?_
   have R : x.form bl false = 4 := by have := hc11; rw [toForm_no]; split <;> omega
   exact ret_tmp (t := 6) h14 rfl rfl ⟨by rw [R], hW3.bel⟩
  rw [hb] at h10
  have h9 : x.block = 0 := bne_eq_false_iff_eq.1 hb
  have hc15 : Hid (x.block = 0) := h9
  clear h9
  clear hb
  refine St.go h10 ?_; clear h10 a10
  refine sfTo1 ⟨_, hg3, rfl, rfl⟩ rfl rfl ?_
  refine sbInts 0 hW3 ⟨_, hg3, rfl, rfl⟩ rfl rfl rfl rfl ?_
  refine slInts ⟨_, hg3, rfl, rfl⟩ rfl rfl ?_
  refine sgt ⟨_, hg3, rfl, rfl⟩ rfl rfl rfl ?_
  refine spf trivial rfl rfl rfl ?_
  refine sm trivial rfl rfl ?_
  intro a16 h16
  rcases Bool.eq_false_or_eq_true (decide (0 < (x.regs.length : Int))) with hb | hb
  ·rw [hb] at h16
   have hc17 : 0 < x.regs.length := by have := of_decide_eq_true hb; omega
   clear hb
   refine St.go h16 ?_; clear h16 a16
   refine so hg9 rfl rfl rfl rfl ?_
   refine so hg9 rfl rfl rfl rfl ?_
   refine so hg9 rfl rfl rfl rfl ?_
   refine so hg9 rfl rfl rfl rfl ?_
   refine sp trivial rfl rfl rfl ?_
   refine St.nil fun a18 h18 => ?_
   refine hK9 _ _ ?_
   refine fr_true (t := 24) h18 rfl ?_
   refine wp_seq_k fun K19 hK19 => ?_
   refine rg h18 fun ops => ?_; clear h18 a18
   refine sa trivial rfl rfl ?_
   refine St.nil fun a20 h20 => ?_
   refine hK19 _ _ ?_
   refine wp_ret ?_; with_reducible repeat first | refine of_then_ret ?_ | refine of_block_ret ?_
   have R : x.form bl false = 4 := by have := hc15.out; have := hc17; rw [toForm_no]; split <;> omega
   exact ret_tmp (t := 6) h20 rfl rfl ⟨by rw [R], hW3.bel⟩
  rw [hb] at h16
  have hc21 : ¬ (0 < x.regs.length) := by have := of_decide_eq_false hb; omega
  clear hb
  refine St.go h16 ?_; clear h16 a16
  refine sfTo2 ⟨_, hg9, rfl, rfl⟩ rfl rfl ?_
  refine sbInts 0 hW3 ⟨_, hg9, rfl, rfl⟩ rfl rfl rfl rfl ?_
  refine slInts ⟨_, hg9, rfl, rfl⟩ rfl rfl ?_
  refine sgt ⟨_, hg9, rfl, rfl⟩ rfl rfl rfl ?_
  refine spf trivial rfl rfl rfl ?_
  refine St.nil fun a22 h22 => ?_
  refine hK9 _ _ ?_
  refine fr_cond (t := 24) h22 rfl (fun hb => ?_) (fun hb => ?_)
  ·have hc23 : 0 < x.args.length := by have := of_decide_eq_true hb; omega
   clear hb
   refine wp_seq_k fun K24 hK24 => ?_
   refine rg h22 fun ops => ?_; clear h22 a22
   refine sa trivial rfl rfl ?_
   refine St.nil fun a25 h25 => ?_
   refine hK24 _ _ ?_
   refine wp_ret ?_; with_reducible repeat first | refine of_then_ret ?_ | refine of_block_ret ?_
   have R : x.form bl false = 4 := by have := hc15.out; have := hc21; have := hc23; rw [toForm_no]; split <;> omega
   exact ret_tmp (t := 6) h25 rfl rfl ⟨by rw [R], hW3.bel⟩
  have hc26 : ¬ (0 < x.args.length) := by have := of_decide_eq_false hb; omega
  clear hb
  refine wp_skip ?_
  refine hK8 _ _ ?_
  refine wp_seq_k fun K27 hK27 => ?_
  refine rg h22 fun ops => ?_; clear h22 a22
  refine sa trivial rfl rfl ?_
  refine St.nil fun a28 h28 => ?_
  refine hK27 _ _ ?_
  refine wp_ret ?_; with_reducible repeat first | refine of_then_ret ?_ | refine of_block_ret ?_
  have R : x.form bl false = 0 := by have := hc15.out; have := hc21; have := hc26; rw [toForm_no]; split <;> omega
  exact ret_tmp (t := 6) h28 rfl rfl ⟨by rw [R], hW3.bel⟩

set_option maxHeartbeats 4000000 in
set_option maxRecDepth 100000 in
theorem toCodeT {x : MTo} {pR pA : Option Addr} {cR cA : Nat} {fr : Int} {fp fq fb : Option Addr} {fl fc fm fd bl fe : Nat} {w : World} (hr : x.regs.length < 2305843009213693952) (ha : x.args.length < 2305843009213693952) (hbl : bl < 2305843009213693952) :
    Rd Try.prog 61 #[.agg #[.int .i64 fr, .slice fp fl fc, .slice fq fm fd, .slice fb bl fe], .agg #[.int .i64 x.block, .slice pR x.regs.length cR, .slice pA x.args.length cA], .bool true] w (.int .i64 (x.form bl true)) := by
  refine fr_enter (n := 40) Try.func61 rfl rfl rfl ?_
  intro a hF
  have hW := Wd.start w
  replace hF : Fr 40 a [(0, .agg #[.int .i64 fr, .slice fp fl fc, .slice fq fm fd, .slice fb bl fe]), (1, .agg #[.int .i64 x.block, .slice pR x.regs.length cR, .slice pA x.args.length cA]), (2, .bool true)] := hF
  refine wp_seq_k fun K1 hK1 => ?_
  refine rg hF fun ops => ?_; clear hF a
  refine sB hW trivial rfl rfl ?_
  clear hW; intro w2 B2 hW2 hN; clear hN
  refine sB hW2 trivial rfl rfl ?_
  clear hW2; intro w3 B3 hW3 hN; clear hN
  refine sa trivial rfl rfl ?_
  refine St.nil fun a4 h4 => ?_
  refine hK1 _ _ ?_
  refine wp_seq_k fun K5 hK5 => ?_
  refine wp_seq_k fun K6 hK6 => ?_
  refine rg h4 fun ops => ?_; clear h4 a4
  refine sm trivial rfl rfl ?_
  refine sn trivial rfl rfl ?_
  refine St.nil fun a7 h7 => ?_
  refine hK6 _ _ ?_
  refine fr_false (t := 9) h7 rfl ?_
  refine wp_skip ?_
  refine hK5 _ _ ?_
  refine wp_seq_k fun K8 hK8 => ?_
  refine wp_seq_k fun K9 hK9 => ?_
  refine rg h7 fun ops => ?_; clear h7 a7
  refine sfTo0 trivial rfl rfl ?_
  refine sbInt 0 hW3 trivial rfl rfl rfl rfl ?_
  refine sfFunc3 trivial rfl rfl ?_
  refine sbBlocks 1 hW3 trivial rfl rfl rfl rfl ?_
  refine slBlocks trivial rfl rfl ?_
  intro a10 h10
  refine fr_pure (t := 30) (v := .int .i64 ((bl : Int) - 1)) (w' := w3) h10 rfl rfl rfl (fun K hK => ?_) ?_
  ·have k0 : a10.tmps.getD 29 undef = .int .i64 (bl : Int) := h10.sl 29 _ rfl
   have hwr : IntKind.i64.wrap ((bl : Int) - 1) = (bl : Int) - 1 := wrap_pred _ (by omega)
   go_simp
   exact hK
  clear h10; intro a11 hF11
  refine St.go hF11 ?_; clear hF11 a11
  refine sc_3 cf86 hW3 (rangeCode_any) trivial rfl rfl rfl rfl ?_
  clear hW3; intro w12 hW12
  refine sa trivial rfl rfl ?_
  refine St.nil fun a13 h13 => ?_
  refine hK9 _ _ ?_
  refine wp_seq_k fun K14 hK14 => ?_
  refine rg h13 fun ops => ?_; clear h13 a13
  refine sm trivial rfl rfl ?_
  refine sne trivial rfl rfl rfl ?_
  refine St.nil fun a15 h15 => ?_
  refine hK14 _ _ ?_
  refine fr_cond (t := 33) h15 rfl (fun hb => ?_) (fun hb => ?_)
  ·have h9 : ¬ (rangeC x.block 0 ((bl : Int) - 1)) = 0 := bne_iff_ne.1 hb
   have hc16 : ¬ (rangeC x.block 0 ((bl : Int) - 1)) = 0 := h9
   clear h9
   clear hb
   refine wp_seq_k fun K17 hK17 => ?_
   refine rg h15 fun ops => ?_; clear h15 a15
   refine sm trivial rfl rfl ?_
   refine sa trivial rfl rfl ?_
   refine St.nil fun a18 h18 => ?_
   refine hK17 _ _ ?_
   refine wp_ret ?_; with_reducible repeat first | refine of_then_ret ?_ | refine of_block_ret ?_
   have R : x.form bl true = rangeC x.block 0 ((bl : Int) - 1) := by simp [toForm_eq, hc16]
   exact ret_tmp (t := 6) h18 rfl rfl ⟨by rw [R], hW12.bel⟩
  have h9 : (rangeC x.block 0 ((bl : Int) - 1)) = 0 := bne_eq_false_iff_eq.1 hb
  have hc19 : Hid ((rangeC x.block 0 ((bl : Int) - 1)) = 0) := h9
  clear h9
  clear hb
  refine wp_skip ?_
  refine hK8 _ _ ?_
  refine wp_seq_k fun K20 hK20 => ?_
  refine rg h15 fun ops => ?_; clear h15 a15
  refine sfTo1 trivial rfl rfl ?_
  refine sbInts 0 hW12 trivial rfl rfl rfl rfl ?_
  refine sfTo2 trivial rfl rfl ?_
  refine sbInts 0 hW12 trivial rfl rfl rfl rfl ?_
  refine sc_3 cf88 hW12 (handedCode_any) trivial rfl rfl rfl rfl ?_
  clear hW12; intro w21 hW21
  refine sa trivial rfl rfl ?_
  refine St.nil fun a22 h22 => ?_
  refine hK20 _ _ ?_
  refine wp_ret ?_; with_reducible repeat first | refine of_then_ret ?_ | refine of_block_ret ?_
  have R : x.form bl true = handedC x.regs.length 16 x.args.length := by simp [toForm_eq, hc19.out]
  exact ret_tmp (t := 6) h22 rfl rfl ⟨by rw [R], hW21.bel⟩
theorem toCode_any {x : MTo} {pR pA : Option Addr} {cR cA : Nat} {fr : Int} {fp fq fb : Option Addr} {fl fc fm fd bl fe : Nat} (has : Bool) {w : World} (hr : x.regs.length < 2305843009213693952) (ha : x.args.length < 2305843009213693952) (hbl : bl < 2305843009213693952) :
    Rd Try.prog 61 #[.agg #[.int .i64 fr, .slice fp fl fc, .slice fq fm fd, .slice fb bl fe], .agg #[.int .i64 x.block, .slice pR x.regs.length cR, .slice pA x.args.length cA], .bool has] w (.int .i64 (x.form bl has)) := by
  cases has
  · exact toCodeF hr ha hbl
  · exact toCodeT hr ha hbl
end Go.Proofs.Ytmnmnokkojcodab
/-
  Places; the form of an instruction in package code.
-/
namespace Go.Proofs.Ytmnmnokkojcodab
open Go.ChangeShapes Go.WideShapes Go.ChangeAt Go.RowKit
set_option linter.unusedVariables false
set_option linter.unusedSimpArgs false

theorem wrap_small (x : Int) (h : -4611686018427387904 ≤ x ∧ x < 4611686018427387904) : IntKind.i64.wrap x = x := by
  by_cases hx : 0 ≤ x
  · have e1 : x % 2 ^ 64 = x := by omega
    simp only [IntKind.wrap, IntKind.signed, IntKind.bits, e1, Bool.true_and]
    rw [if_neg (by simp only [decide_eq_true_eq]; omega)]
  · have e1 : x % 2 ^ 64 = x + 2 ^ 64 := by omega
    simp only [IntKind.wrap, IntKind.signed, IntKind.bits, e1, Bool.true_and]
    rw [if_pos (by simp only [decide_eq_true_eq]; omega)]
    omega

set_option maxHeartbeats 4000000 in
set_option maxRecDepth 100000 in
theorem cFuncAt_any {f : Nat} {w : World} (h : f < 1000) :
    Rd Try.prog 24 #[.int .i64 (f : Int)] w (.int .i64 (10000 * (f : Int) + 9999)) := by
  refine fr_enter (n := 6) Try.func24 rfl rfl rfl ?_
  intro a hF
  have hW := Wd.start w
  replace hF : Fr 6 a [(0, .int .i64 (f : Int))] := hF
  refine wp_seq_k fun K1 hK1 => ?_
  refine rg hF fun ops => ?_; clear hF a
  refine sa trivial rfl rfl ?_
  refine St.nil fun a2 h2 => ?_
  refine hK1 _ _ ?_
  refine wp_seq_k fun K3 hK3 => ?_
  refine rg h2 fun ops => ?_; clear h2 a2
  refine sm trivial rfl rfl ?_
  intro a4 h4
  refine fr_pure (t := 4) (v := .int .i64 ((f : Int) * 10000)) (w' := w) h4 rfl rfl rfl (fun K hK => ?_) ?_
  ·have k0 : a4.tmps.getD 3 undef = .int .i64 (f : Int) := h4.sl 3 _ rfl
   have hwr : IntKind.i64.wrap ((f : Int) * 10000) = (f : Int) * 10000 := wrap_small _ (by omega)
   go_simp
   exact hK
  clear h4; intro a5 hF5
  refine fr_pure (t := 5) (v := .int .i64 (((f : Int) * 10000) + 9999)) (w' := w) hF5 rfl rfl rfl (fun K hK => ?_) ?_
  ·have k0 : a5.tmps.getD 4 undef = .int .i64 ((f : Int) * 10000) := hF5.sl 4 _ rfl
   have hwr : IntKind.i64.wrap (((f : Int) * 10000) + 9999) = ((f : Int) * 10000) + 9999 := wrap_small _ (by omega)
   go_simp
   exact hK
  clear hF5; intro a6 hF6
  refine St.go hF6 ?_; clear hF6 a6
  refine sa trivial rfl rfl ?_
  refine St.nil fun a7 h7 => ?_
  refine hK3 _ _ ?_
  refine wp_ret ?_; with_reducible repeat first | refine of_then_ret ?_ | refine of_block_ret ?_
  have R : 10000 * (f : Int) + 9999 = (((f : Int) * 10000) + 9999) := by omega
  exact ret_tmp (t := 2) h7 rfl rfl ⟨by rw [R], hW.bel⟩

set_option maxHeartbeats 4000000 in
set_option maxRecDepth 100000 in
theorem atFunc_any {f : Nat} {w : World} (h : f < 1000) :
    Rd Try.prog 25 #[.int .i64 (f : Int)] w (.int .i64 (10000 * (f : Int) + 9999)) := by
  refine fr_enter (n := 6) Try.func25 rfl rfl rfl ?_
  intro a hF
  have hW := Wd.start w
  replace hF : Fr 6 a [(0, .int .i64 (f : Int))] := hF
  refine wp_seq_k fun K1 hK1 => ?_
  refine rg hF fun ops => ?_; clear hF a
  refine sa trivial rfl rfl ?_
  refine St.nil fun a2 h2 => ?_
  refine hK1 _ _ ?_
  refine wp_seq_k fun K3 hK3 => ?_
  refine rg h2 fun ops => ?_; clear h2 a2
  refine sm trivial rfl rfl ?_
  intro a4 h4
  refine fr_pure (t := 4) (v := .int .i64 (10000 * (f : Int))) (w' := w) h4 rfl rfl rfl (fun K hK => ?_) ?_
  ·have k0 : a4.tmps.getD 3 undef = .int .i64 (f : Int) := h4.sl 3 _ rfl
   have hwr : IntKind.i64.wrap (10000 * (f : Int)) = 10000 * (f : Int) := wrap_small _ (by omega)
   go_simp
   exact hK
  clear h4; intro a5 hF5
  refine fr_pure (t := 5) (v := .int .i64 ((10000 * (f : Int)) + 9999)) (w' := w) hF5 rfl rfl rfl (fun K hK => ?_) ?_
  ·have k0 : a5.tmps.getD 4 undef = .int .i64 (10000 * (f : Int)) := hF5.sl 4 _ rfl
   have hwr : IntKind.i64.wrap ((10000 * (f : Int)) + 9999) = (10000 * (f : Int)) + 9999 := wrap_small _ (by omega)
   go_simp
   exact hK
  clear hF5; intro a6 hF6
  refine St.go hF6 ?_; clear hF6 a6
  refine sa trivial rfl rfl ?_
  refine St.nil fun a7 h7 => ?_
  refine hK3 _ _ ?_
  refine wp_ret ?_; with_reducible repeat first | refine of_then_ret ?_ | refine of_block_ret ?_
  have R : 10000 * (f : Int) + 9999 = ((10000 * (f : Int)) + 9999) := by omega
  exact ret_tmp (t := 2) h7 rfl rfl ⟨by rw [R], hW.bel⟩

set_option maxHeartbeats 4000000 in
set_option maxRecDepth 100000 in
theorem cBlockAt_any {f b : Nat} {w : World} (h : f < 1000 ∧ b < 1000) :
    Rd Try.prog 26 #[.int .i64 (f : Int), .int .i64 (b : Int)] w (.int .i64 (10000 * (f : Int) + 100 * (b : Int) + 90)) := by
  refine fr_enter (n := 11) Try.func26 rfl rfl rfl ?_
  intro a hF
  have hW := Wd.start w
  replace hF : Fr 11 a [(0, .int .i64 (f : Int)), (1, .int .i64 (b : Int))] := hF
  refine wp_seq_k fun K1 hK1 => ?_
  refine rg hF fun ops => ?_; clear hF a
  refine sa trivial rfl rfl ?_
  refine St.nil fun a2 h2 => ?_
  refine hK1 _ _ ?_
  refine wp_seq_k fun K3 hK3 => ?_
  refine rg h2 fun ops => ?_; clear h2 a2
  refine sm trivial rfl rfl ?_
  intro a4 h4
  refine fr_pure (t := 6) (v := .int .i64 ((f : Int) * 10000)) (w' := w) h4 rfl rfl rfl (fun K hK => ?_) ?_
  ·have k0 : a4.tmps.getD 5 undef = .int .i64 (f : Int) := h4.sl 5 _ rfl
   have hwr : IntKind.i64.wrap ((f : Int) * 10000) = (f : Int) * 10000 := wrap_small _ (by omega)
   go_simp
   exact hK
  clear h4; intro a5 hF5
  refine St.go hF5 ?_; clear hF5 a5
  refine sm trivial rfl rfl ?_
  intro a6 h6
  refine fr_pure (t := 8) (v := .int .i64 ((b : Int) * 100)) (w' := w) h6 rfl rfl rfl (fun K hK => ?_) ?_
  ·have k0 : a6.tmps.getD 7 undef = .int .i64 (b : Int) := h6.sl 7 _ rfl
   have hwr : IntKind.i64.wrap ((b : Int) * 100) = (b : Int) * 100 := wrap_small _ (by omega)
   go_simp
   exact hK
  clear h6; intro a7 hF7
  refine fr_pure (t := 9) (v := .int .i64 (((f : Int) * 10000) + ((b : Int) * 100))) (w' := w) hF7 rfl rfl rfl (fun K hK => ?_) ?_
  ·have k0 : a7.tmps.getD 6 undef = .int .i64 ((f : Int) * 10000) := hF7.sl 6 _ rfl
   have k1 : a7.tmps.getD 8 undef = .int .i64 ((b : Int) * 100) := hF7.sl 8 _ rfl
   have hwr : IntKind.i64.wrap (((f : Int) * 10000) + ((b : Int) * 100)) = ((f : Int) * 10000) + ((b : Int) * 100) := wrap_small _ (by omega)
   go_simp
   exact hK
  clear hF7; intro a8 hF8
  refine fr_pure (t := 10) (v := .int .i64 ((((f : Int) * 10000) + ((b : Int) * 100)) + 90)) (w' := w) hF8 rfl rfl rfl (fun K hK => ?_) ?_
  ·have k0 : a8.tmps.getD 9 undef = .int .i64 (((f : Int) * 10000) + ((b : Int) * 100)) := hF8.sl 9 _ rfl
   have hwr : IntKind.i64.wrap ((((f : Int) * 10000) + ((b : Int) * 100)) + 90) = (((f : Int) * 10000) + ((b : Int) * 100)) + 90 := wrap_small _ (by omega)
   go_simp
   exact hK
  clear hF8; intro a9 hF9
  refine St.go hF9 ?_; clear hF9 a9
  refine sa trivial rfl rfl ?_
  refine St.nil fun a10 h10 => ?_
  refine hK3 _ _ ?_
  refine wp_ret ?_; with_reducible repeat first | refine of_then_ret ?_ | refine of_block_ret ?_
  have R : 10000 * (f : Int) + 100 * (b : Int) + 90 = ((((f : Int) * 10000) + ((b : Int) * 100)) + 90) := by omega
  exact ret_tmp (t := 4) h10 rfl rfl ⟨by rw [R], hW.bel⟩

set_option maxHeartbeats 4000000 in
set_option maxRecDepth 100000 in
theorem atBlock_any {f b : Nat} {w : World} (h : f < 1000 ∧ b < 1000) :
    Rd Try.prog 27 #[.int .i64 (f : Int), .int .i64 (b : Int)] w (.int .i64 (10000 * (f : Int) + 100 * (b : Int) + 90)) := by
  refine fr_enter (n := 11) Try.func27 rfl rfl rfl ?_
  intro a hF
  have hW := Wd.start w
  replace hF : Fr 11 a [(0, .int .i64 (f : Int)), (1, .int .i64 (b : Int))] := hF
  refine wp_seq_k fun K1 hK1 => ?_
  refine rg hF fun ops => ?_; clear hF a
  refine sa trivial rfl rfl ?_
  refine St.nil fun a2 h2 => ?_
  refine hK1 _ _ ?_
  refine wp_seq_k fun K3 hK3 => ?_
  refine rg h2 fun ops => ?_; clear h2 a2
  refine sm trivial rfl rfl ?_
  intro a4 h4
  refine fr_pure (t := 6) (v := .int .i64 (10000 * (f : Int))) (w' := w) h4 rfl rfl rfl (fun K hK => ?_) ?_
  ·have k0 : a4.tmps.getD 5 undef = .int .i64 (f : Int) := h4.sl 5 _ rfl
   have hwr : IntKind.i64.wrap (10000 * (f : Int)) = 10000 * (f : Int) := wrap_small _ (by omega)
   go_simp
   exact hK
  clear h4; intro a5 hF5
  refine St.go hF5 ?_; clear hF5 a5
  refine sm trivial rfl rfl ?_
  intro a6 h6
  refine fr_pure (t := 8) (v := .int .i64 (100 * (b : Int))) (w' := w) h6 rfl rfl rfl (fun K hK => ?_) ?_
  ·have k0 : a6.tmps.getD 7 undef = .int .i64 (b : Int) := h6.sl 7 _ rfl
   have hwr : IntKind.i64.wrap (100 * (b : Int)) = 100 * (b : Int) := wrap_small _ (by omega)
   go_simp
   exact hK
  clear h6; intro a7 hF7
  refine fr_pure (t := 9) (v := .int .i64 ((10000 * (f : Int)) + (100 * (b : Int)))) (w' := w) hF7 rfl rfl rfl (fun K hK => ?_) ?_
  ·have k0 : a7.tmps.getD 6 undef = .int .i64 (10000 * (f : Int)) := hF7.sl 6 _ rfl
   have k1 : a7.tmps.getD 8 undef = .int .i64 (100 * (b : Int)) := hF7.sl 8 _ rfl
   have hwr : IntKind.i64.wrap ((10000 * (f : Int)) + (100 * (b : Int))) = (10000 * (f : Int)) + (100 * (b : Int)) := wrap_small _ (by omega)
   go_simp
   exact hK
  clear hF7; intro a8 hF8
  refine fr_pure (t := 10) (v := .int .i64 (((10000 * (f : Int)) + (100 * (b : Int))) + 90)) (w' := w) hF8 rfl rfl rfl (fun K hK => ?_) ?_
  ·have k0 : a8.tmps.getD 9 undef = .int .i64 ((10000 * (f : Int)) + (100 * (b : Int))) := hF8.sl 9 _ rfl
   have hwr : IntKind.i64.wrap (((10000 * (f : Int)) + (100 * (b : Int))) + 90) = ((10000 * (f : Int)) + (100 * (b : Int))) + 90 := wrap_small _ (by omega)
   go_simp
   exact hK
  clear hF8; intro a9 hF9
  refine St.go hF9 ?_; clear hF9 a9
  refine sa trivial rfl rfl ?_
  refine St.nil fun a10 h10 => ?_
  refine hK3 _ _ ?_
  refine wp_ret ?_; with_reducible repeat first | refine of_then_ret ?_ | refine of_block_ret ?_
  have R : 10000 * (f : Int) + 100 * (b : Int) + 90 = (((10000 * (f : Int)) + (100 * (b : Int))) + 90) := by omega
  exact ret_tmp (t := 4) h10 rfl rfl ⟨by rw [R], hW.bel⟩

set_option maxHeartbeats 4000000 in
set_option maxRecDepth 100000 in
theorem cEndAt_any {f b : Nat} {w : World} (h : f < 1000 ∧ b < 1000) :
    Rd Try.prog 28 #[.int .i64 (f : Int), .int .i64 (b : Int)] w (.int .i64 (10000 * (f : Int) + 100 * (b : Int) + 91)) := by
  refine fr_enter (n := 11) Try.func28 rfl rfl rfl ?_
  intro a hF
  have hW := Wd.start w
  replace hF : Fr 11 a [(0, .int .i64 (f : Int)), (1, .int .i64 (b : Int))] := hF
  refine wp_seq_k fun K1 hK1 => ?_
  refine rg hF fun ops => ?_; clear hF a
  refine sa trivial rfl rfl ?_
  refine St.nil fun a2 h2 => ?_
  refine hK1 _ _ ?_
  refine wp_seq_k fun K3 hK3 => ?_
  refine rg h2 fun ops => ?_; clear h2 a2
  refine sm trivial rfl rfl ?_
  intro a4 h4
  refine fr_pure (t := 6) (v := .int .i64 ((f : Int) * 10000)) (w' := w) h4 rfl rfl rfl (fun K hK => ?_) ?_
  ·have k0 : a4.tmps.getD 5 undef = .int .i64 (f : Int) := h4.sl 5 _ rfl
   have hwr : IntKind.i64.wrap ((f : Int) * 10000) = (f : Int) * 10000 := wrap_small _ (by omega)
   go_simp
   exact hK
  clear h4; intro a5 hF5
  refine St.go hF5 ?_; clear hF5 a5
  refine sm trivial rfl rfl ?_
  intro a6 h6
  refine fr_pure (t := 8) (v := .int .i64 ((b : Int) * 100)) (w' := w) h6 rfl rfl rfl (fun K hK => ?_) ?_
  ·have k0 : a6.tmps.getD 7 undef = .int .i64 (b : Int) := h6.sl 7 _ rfl
   have hwr : IntKind.i64.wrap ((b : Int) * 100) = (b : Int) * 100 := wrap_small _ (by omega)
   go_simp
   exact hK
  clear h6; intro a7 hF7
  refine fr_pure (t := 9) (v := .int .i64 (((f : Int) * 10000) + ((b : Int) * 100))) (w' := w) hF7 rfl rfl rfl (fun K hK => ?_) ?_
  ·have k0 : a7.tmps.getD 6 undef = .int .i64 ((f : Int) * 10000) := hF7.sl 6 _ rfl
   have k1 : a7.tmps.getD 8 undef = .int .i64 ((b : Int) * 100) := hF7.sl 8 _ rfl
   have hwr : IntKind.i64.wrap (((f : Int) * 10000) + ((b : Int) * 100)) = ((f : Int) * 10000) + ((b : Int) * 100) := wrap_small _ (by omega)
   go_simp
   exact hK
  clear hF7; intro a8 hF8
  refine fr_pure (t := 10) (v := .int .i64 ((((f : Int) * 10000) + ((b : Int) * 100)) + 91)) (w' := w) hF8 rfl rfl rfl (fun K hK => ?_) ?_
  ·have k0 : a8.tmps.getD 9 undef = .int .i64 (((f : Int) * 10000) + ((b : Int) * 100)) := hF8.sl 9 _ rfl
   have hwr : IntKind.i64.wrap ((((f : Int) * 10000) + ((b : Int) * 100)) + 91) = (((f : Int) * 10000) + ((b : Int) * 100)) + 91 := wrap_small _ (by omega)
   go_simp
   exact hK
  clear hF8; intro a9 hF9
  refine St.go hF9 ?_; clear hF9 a9
  refine sa trivial rfl rfl ?_
  refine St.nil fun a10 h10 => ?_
  refine hK3 _ _ ?_
  refine wp_ret ?_; with_reducible repeat first | refine of_then_ret ?_ | refine of_block_ret ?_
  have R : 10000 * (f : Int) + 100 * (b : Int) + 91 = ((((f : Int) * 10000) + ((b : Int) * 100)) + 91) := by omega
  exact ret_tmp (t := 4) h10 rfl rfl ⟨by rw [R], hW.bel⟩

set_option maxHeartbeats 4000000 in
set_option maxRecDepth 100000 in
theorem atEnd_any {f b : Nat} {w : World} (h : f < 1000 ∧ b < 1000) :
    Rd Try.prog 29 #[.int .i64 (f : Int), .int .i64 (b : Int)] w (.int .i64 (10000 * (f : Int) + 100 * (b : Int) + 91)) := by
  refine fr_enter (n := 11) Try.func29 rfl rfl rfl ?_
  intro a hF
  have hW := Wd.start w
  replace hF : Fr 11 a [(0, .int .i64 (f : Int)), (1, .int .i64 (b : Int))] := hF
  refine wp_seq_k fun K1 hK1 => ?_
  refine rg hF fun ops => ?_; clear hF a
  refine sa trivial rfl rfl ?_
  refine St.nil fun a2 h2 => ?_
  refine hK1 _ _ ?_
  refine wp_seq_k fun K3 hK3 => ?_
  refine rg h2 fun ops => ?_; clear h2 a2
  refine sm trivial rfl rfl ?_
  intro a4 h4
  refine fr_pure (t := 6) (v := .int .i64 (10000 * (f : Int))) (w' := w) h4 rfl rfl rfl (fun K hK => ?_) ?_
  ·have k0 : a4.tmps.getD 5 undef = .int .i64 (f : Int) := h4.sl 5 _ rfl
   have hwr : IntKind.i64.wrap (10000 * (f : Int)) = 10000 * (f : Int) := wrap_small _ (by omega)
   go_simp
   exact hK
  clear h4; intro a5 hF5
  refine St.go hF5 ?_; clear hF5 a5
  refine sm trivial rfl rfl ?_
  intro a6 h6
  refine fr_pure (t := 8) (v := .int .i64 (100 * (b : Int))) (w' := w) h6 rfl rfl rfl (fun K hK => ?_) ?_
  ·have k0 : a6.tmps.getD 7 undef = .int .i64 (b : Int) := h6.sl 7 _ rfl
   have hwr : IntKind.i64.wrap (100 * (b : Int)) = 100 * (b : Int) := wrap_small _ (by omega)
   go_simp
   exact hK
  clear h6; intro a7 hF7
  refine fr_pure (t := 9) (v := .int .i64 ((10000 * (f : Int)) + (100 * (b : Int)))) (w' := w) hF7 rfl rfl rfl (fun K hK => ?_) ?_
  ·have k0 : a7.tmps.getD 6 undef = .int .i64 (10000 * (f : Int)) := hF7.sl 6 _ rfl
   have k1 : a7.tmps.getD 8 undef = .int .i64 (100 * (b : Int)) := hF7.sl 8 _ rfl
   have hwr : IntKind.i64.wrap ((10000 * (f : Int)) + (100 * (b : Int))) = (10000 * (f : Int)) + (100 * (b : Int)) := wrap_small _ (by omega)
   go_simp
   exact hK
  clear hF7; intro a8 hF8
  refine fr_pure (t := 10) (v := .int .i64 (((10000 * (f : Int)) + (100 * (b : Int))) + 91)) (w' := w) hF8 rfl rfl rfl (fun K hK => ?_) ?_
  ·have k0 : a8.tmps.getD 9 undef = .int .i64 ((10000 * (f : Int)) + (100 * (b : Int))) := hF8.sl 9 _ rfl
   have hwr : IntKind.i64.wrap (((10000 * (f : Int)) + (100 * (b : Int))) + 91) = ((10000 * (f : Int)) + (100 * (b : Int))) + 91 := wrap_small _ (by omega)
   go_simp
   exact hK
  clear hF8; intro a9 hF9
  refine St.go hF9 ?_; clear hF9 a9
  refine sa trivial rfl rfl ?_
  refine St.nil fun a10 h10 => ?_
  refine hK3 _ _ ?_
  refine wp_ret ?_; with_reducible repeat first | refine of_then_ret ?_ | refine of_block_ret ?_
  have R : 10000 * (f : Int) + 100 * (b : Int) + 91 = (((10000 * (f : Int)) + (100 * (b : Int))) + 91) := by omega
  exact ret_tmp (t := 4) h10 rfl rfl ⟨by rw [R], hW.bel⟩

set_option maxHeartbeats 4000000 in
set_option maxRecDepth 100000 in
theorem cInsAt_any {f b i : Nat} {w : World} (h : f < 1000 ∧ b < 1000 ∧ i < 1000) :
    Rd Try.prog 30 #[.int .i64 (f : Int), .int .i64 (b : Int), .int .i64 (i : Int)] w (.int .i64 (10000 * (f : Int) + 100 * (b : Int) + (i : Int))) := by
  refine fr_enter (n := 14) Try.func30 rfl rfl rfl ?_
  intro a hF
  have hW := Wd.start w
  replace hF : Fr 14 a [(0, .int .i64 (f : Int)), (1, .int .i64 (b : Int)), (2, .int .i64 (i : Int))] := hF
  refine wp_seq_k fun K1 hK1 => ?_
  refine rg hF fun ops => ?_; clear hF a
  refine sa trivial rfl rfl ?_
  refine St.nil fun a2 h2 => ?_
  refine hK1 _ _ ?_
  refine wp_seq_k fun K3 hK3 => ?_
  refine rg h2 fun ops => ?_; clear h2 a2
  refine sm trivial rfl rfl ?_
  intro a4 h4
  refine fr_pure (t := 8) (v := .int .i64 ((f : Int) * 10000)) (w' := w) h4 rfl rfl rfl (fun K hK => ?_) ?_
  ·have k0 : a4.tmps.getD 7 undef = .int .i64 (f : Int) := h4.sl 7 _ rfl
   have hwr : IntKind.i64.wrap ((f : Int) * 10000) = (f : Int) * 10000 := wrap_small _ (by omega)
   go_simp
   exact hK
  clear h4; intro a5 hF5
  refine St.go hF5 ?_; clear hF5 a5
  refine sm trivial rfl rfl ?_
  intro a6 h6
  refine fr_pure (t := 10) (v := .int .i64 ((b : Int) * 100)) (w' := w) h6 rfl rfl rfl (fun K hK => ?_) ?_
  ·have k0 : a6.tmps.getD 9 undef = .int .i64 (b : Int) := h6.sl 9 _ rfl
   have hwr : IntKind.i64.wrap ((b : Int) * 100) = (b : Int) * 100 := wrap_small _ (by omega)
   go_simp
   exact hK
  clear h6; intro a7 hF7
  refine fr_pure (t := 11) (v := .int .i64 (((f : Int) * 10000) + ((b : Int) * 100))) (w' := w) hF7 rfl rfl rfl (fun K hK => ?_) ?_
  ·have k0 : a7.tmps.getD 8 undef = .int .i64 ((f : Int) * 10000) := hF7.sl 8 _ rfl
   have k1 : a7.tmps.getD 10 undef = .int .i64 ((b : Int) * 100) := hF7.sl 10 _ rfl
   have hwr : IntKind.i64.wrap (((f : Int) * 10000) + ((b : Int) * 100)) = ((f : Int) * 10000) + ((b : Int) * 100) := wrap_small _ (by omega)
   go_simp
   exact hK
  clear hF7; intro a8 hF8
  refine St.go hF8 ?_; clear hF8 a8
  refine sm trivial rfl rfl ?_
  intro a9 h9
  refine fr_pure (t := 13) (v := .int .i64 ((((f : Int) * 10000) + ((b : Int) * 100)) + (i : Int))) (w' := w) h9 rfl rfl rfl (fun K hK => ?_) ?_
  ·have k0 : a9.tmps.getD 11 undef = .int .i64 (((f : Int) * 10000) + ((b : Int) * 100)) := h9.sl 11 _ rfl
   have k1 : a9.tmps.getD 12 undef = .int .i64 (i : Int) := h9.sl 12 _ rfl
   have hwr : IntKind.i64.wrap ((((f : Int) * 10000) + ((b : Int) * 100)) + (i : Int)) = (((f : Int) * 10000) + ((b : Int) * 100)) + (i : Int) := wrap_small _ (by omega)
   go_simp
   exact hK
  clear h9; intro a10 hF10
  refine St.go hF10 ?_; clear hF10 a10
  refine sa trivial rfl rfl ?_
  refine St.nil fun a11 h11 => ?_
  refine hK3 _ _ ?_
  refine wp_ret ?_; with_reducible repeat first | refine of_then_ret ?_ | refine of_block_ret ?_
  have R : 10000 * (f : Int) + 100 * (b : Int) + (i : Int) = ((((f : Int) * 10000) + ((b : Int) * 100)) + (i : Int)) := by omega
  exact ret_tmp (t := 6) h11 rfl rfl ⟨by rw [R], hW.bel⟩

set_option maxHeartbeats 4000000 in
set_option maxRecDepth 100000 in
theorem atIns_any {f b i : Nat} {w : World} (h : f < 1000 ∧ b < 1000 ∧ i < 1000) :
    Rd Try.prog 31 #[.int .i64 (f : Int), .int .i64 (b : Int), .int .i64 (i : Int)] w (.int .i64 (10000 * (f : Int) + 100 * (b : Int) + (i : Int))) := by
  refine fr_enter (n := 14) Try.func31 rfl rfl rfl ?_
  intro a hF
  have hW := Wd.start w
  replace hF : Fr 14 a [(0, .int .i64 (f : Int)), (1, .int .i64 (b : Int)), (2, .int .i64 (i : Int))] := hF
  refine wp_seq_k fun K1 hK1 => ?_
  refine rg hF fun ops => ?_; clear hF a
  refine sa trivial rfl rfl ?_
  refine St.nil fun a2 h2 => ?_
  refine hK1 _ _ ?_
  refine wp_seq_k fun K3 hK3 => ?_
  refine rg h2 fun ops => ?_; clear h2 a2
  refine sm trivial rfl rfl ?_
  intro a4 h4
  refine fr_pure (t := 8) (v := .int .i64 (10000 * (f : Int))) (w' := w) h4 rfl rfl rfl (fun K hK => ?_) ?_
  ·have k0 : a4.tmps.getD 7 undef = .int .i64 (f : Int) := h4.sl 7 _ rfl
   have hwr : IntKind.i64.wrap (10000 * (f : Int)) = 10000 * (f : Int) := wrap_small _ (by omega)
   go_simp
   exact hK
  clear h4; intro a5 hF5
  refine St.go hF5 ?_; clear hF5 a5
  refine sm trivial rfl rfl ?_
  intro a6 h6
  refine fr_pure (t := 10) (v := .int .i64 (100 * (b : Int))) (w' := w) h6 rfl rfl rfl (fun K hK => ?_) ?_
  ·have k0 : a6.tmps.getD 9 undef = .int .i64 (b : Int) := h6.sl 9 _ rfl
   have hwr : IntKind.i64.wrap (100 * (b : Int)) = 100 * (b : Int) := wrap_small _ (by omega)
   go_simp
   exact hK
  clear h6; intro a7 hF7
  refine fr_pure (t := 11) (v := .int .i64 ((10000 * (f : Int)) + (100 * (b : Int)))) (w' := w) hF7 rfl rfl rfl (fun K hK => ?_) ?_
  ·have k0 : a7.tmps.getD 8 undef = .int .i64 (10000 * (f : Int)) := hF7.sl 8 _ rfl
   have k1 : a7.tmps.getD 10 undef = .int .i64 (100 * (b : Int)) := hF7.sl 10 _ rfl
   have hwr : IntKind.i64.wrap ((10000 * (f : Int)) + (100 * (b : Int))) = (10000 * (f : Int)) + (100 * (b : Int)) := wrap_small _ (by omega)
   go_simp
   exact hK
  clear hF7; intro a8 hF8
  refine St.go hF8 ?_; clear hF8 a8
  refine sm trivial rfl rfl ?_
  intro a9 h9
  refine fr_pure (t := 13) (v := .int .i64 (((10000 * (f : Int)) + (100 * (b : Int))) + (i : Int))) (w' := w) h9 rfl rfl rfl (fun K hK => ?_) ?_
  ·have k0 : a9.tmps.getD 11 undef = .int .i64 ((10000 * (f : Int)) + (100 * (b : Int))) := h9.sl 11 _ rfl
   have k1 : a9.tmps.getD 12 undef = .int .i64 (i : Int) := h9.sl 12 _ rfl
   have hwr : IntKind.i64.wrap (((10000 * (f : Int)) + (100 * (b : Int))) + (i : Int)) = ((10000 * (f : Int)) + (100 * (b : Int))) + (i : Int) := wrap_small _ (by omega)
   go_simp
   exact hK
  clear h9; intro a10 hF10
  refine St.go hF10 ?_; clear hF10 a10
  refine sa trivial rfl rfl ?_
  refine St.nil fun a11 h11 => ?_
  refine hK3 _ _ ?_
  refine wp_ret ?_; with_reducible repeat first | refine of_then_ret ?_ | refine of_block_ret ?_
  have R : 10000 * (f : Int) + 100 * (b : Int) + (i : Int) = (((10000 * (f : Int)) + (100 * (b : Int))) + (i : Int)) := by omega
  exact ret_tmp (t := 6) h11 rfl rfl ⟨by rw [R], hW.bel⟩

def bareB (a b c k n : Int) (rl al : Nat) : Bool := a == 0 && b == 0 && c == 0 && k == 0 && n == 0 && (rl : Int) == 0 && (al : Int) == 0
def boundsC (funcs : Nat) (op k : Int) (rl al : Nat) : Int :=
  if op = 2 then rangeC k 1 9 else if op = 6 ∨ op = 7 then rangeC k 0 7 else if op = 5 then manyC al 8
  else if op = 14 then (if rangeC k 0 ((funcs : Int) - 1) = 0 then handedC rl 6 al else rangeC k 0 ((funcs : Int) - 1)) else 0

set_option maxHeartbeats 4000000 in
set_option maxRecDepth 100000 in
theorem isBare_any {xop xa xb xc xk xn : Int} {ra aa : Option Addr} {rl rc al ac : Nat} {w : World} :
    Rd Try.prog 58 #[.agg #[.int .i64 xop, .int .i64 xa, .int .i64 xb, .int .i64 xc, .int .i64 xk, .int .i64 xn, .slice ra rl rc, .slice aa al ac]] w (.bool (bareB xa xb xc xk xn rl al)) := by
  refine fr_enter (n := 38) Try.func58 rfl rfl rfl ?_
  intro a hF
  have hW := Wd.start w
  replace hF : Fr 38 a [(0, .agg #[.int .i64 xop, .int .i64 xa, .int .i64 xb, .int .i64 xc, .int .i64 xk, .int .i64 xn, .slice ra rl rc, .slice aa al ac])] := hF
  refine wp_seq_k fun K1 hK1 => ?_
  refine rg hF fun ops => ?_; clear hF a
  refine sB hW trivial rfl rfl ?_
  clear hW; intro w2 B2 hW2 hN; clear hN
  refine sa trivial rfl rfl ?_
  refine St.nil fun a3 h3 => ?_
  refine hK1 _ _ ?_
  refine wp_seq_k fun K4 hK4 => ?_
  refine fr_region ?_
  intro ops hops
  have hg3 : (ops[3]?).bind (fun o : Oper => o.dst) = some 6 := hops 3
  have hg8 : (ops[8]?).bind (fun o : Oper => o.dst) = some 11 := hops 8
  have hg13 : (ops[13]?).bind (fun o : Oper => o.dst) = some 16 := hops 13
  have hg18 : (ops[18]?).bind (fun o : Oper => o.dst) = some 21 := hops 18
  have hg23 : (ops[23]?).bind (fun o : Oper => o.dst) = some 26 := hops 23
  have hg29 : (ops[29]?).bind (fun o : Oper => o.dst) = some 32 := hops 29
  clear hops
  refine St.go h3 ?_; clear h3 a3
  refine sfIns1 trivial rfl rfl ?_
  refine sbInt 0 hW2 trivial rfl rfl rfl rfl ?_
  refine seq trivial rfl rfl rfl ?_
  refine sm trivial rfl rfl ?_
  intro a5 h5
  rcases Bool.eq_false_or_eq_true (xa == 0) with hb | hb
  ·rw [hb] at h5
   have h9 : xa = 0 := eq_of_beq hb
   have hc6 : Hid (xa = 0) := h9
   clear h9
   clear hb
   refine St.go h5 ?_; clear h5 a5
   refine sfIns2 ⟨_, hg3, rfl, rfl⟩ rfl rfl ?_
   refine sbInt 0 hW2 ⟨_, hg3, rfl, rfl⟩ rfl rfl rfl rfl ?_
   refine seq ⟨_, hg3, rfl, rfl⟩ rfl rfl rfl ?_
   refine sp trivial rfl rfl rfl ?_
   refine sm trivial rfl rfl ?_
   intro a7 h7
   rcases Bool.eq_false_or_eq_true (xb == 0) with hb | hb
   ·rw [hb] at h7
    have h9 : xb = 0 := eq_of_beq hb
    have hc8 : Hid (xb = 0) := h9
    clear h9
    clear hb
    refine St.go h7 ?_; clear h7 a7
    refine sfIns3 ⟨_, hg8, rfl, rfl⟩ rfl rfl ?_
    refine sbInt 0 hW2 ⟨_, hg8, rfl, rfl⟩ rfl rfl rfl rfl ?_
    refine seq ⟨_, hg8, rfl, rfl⟩ rfl rfl rfl ?_
    refine sp trivial rfl rfl rfl ?_
    refine sm trivial rfl rfl ?_
    intro a9 h9
    rcases Bool.eq_false_or_eq_true (xc == 0) with hb | hb
    ·rw [hb] at h9
     have h9 : xc = 0 := eq_of_beq hb
     have hc10 : Hid (xc = 0) := h9
     clear h9
     clear hb
     refine St.go h9 ?_; clear h9 a9
     refine sfIns4 ⟨_, hg13, rfl, rfl⟩ rfl rfl ?_
     refine sbInt 0 hW2 ⟨_, hg13, rfl, rfl⟩ rfl rfl rfl rfl ?_
     refine seq ⟨_, hg13, rfl, rfl⟩ rfl rfl rfl ?_
     refine sp trivial rfl rfl rfl ?_
     refine sm trivial rfl rfl ?_
     intro a11 h11
     rcases Bool.eq_false_or_eq_true (xk == 0) with hb | hb
     ·rw [hb] at h11
      have h9 : xk = 0 := eq_of_beq hb
      have hc12 : Hid (xk = 0) := h9
      clear h9
      clear hb
      refine St.go h11 ?_; clear h11 a11
      refine sfIns5 ⟨_, hg18, rfl, rfl⟩ rfl rfl ?_
      refine sbInt6 0 hW2 ⟨_, hg18, rfl, rfl⟩ rfl rfl rfl rfl ?_
      refine seq6 ⟨_, hg18, rfl, rfl⟩ rfl rfl rfl ?_
      refine sp trivial rfl rfl rfl ?_
      refine sm trivial rfl rfl ?_
      intro a13 h13
      rcases Bool.eq_false_or_eq_true (xn == 0) with hb | hb
      ·rw [hb] at h13
       have h9 : xn = 0 := eq_of_beq hb
       have hc14 : Hid (xn = 0) := h9
       clear h9
       clear hb
       refine St.go h13 ?_; clear h13 a13
       refine sfIns6 ⟨_, hg23, rfl, rfl⟩ rfl rfl ?_
       refine sbInts 0 hW2 ⟨_, hg23, rfl, rfl⟩ rfl rfl rfl rfl ?_
       refine slInts ⟨_, hg23, rfl, rfl⟩ rfl rfl ?_
       refine seq ⟨_, hg23, rfl, rfl⟩ rfl rfl rfl ?_
       refine sp trivial rfl rfl rfl ?_
       refine sm trivial rfl rfl ?_
       intro a15 h15
       rcases Bool.eq_false_or_eq_true ((rl : Int) == 0) with hb | hb
       ·rw [hb] at h15
        have h9 : rl = 0 := by have h8 := eq_of_beq hb; omega
        have hc16 : Hid (rl = 0) := h9
        clear h9
        clear hb
        refine St.go h15 ?_; clear h15 a15
        refine sfIns7 ⟨_, hg29, rfl, rfl⟩ rfl rfl ?_
        refine sbInts 0 hW2 ⟨_, hg29, rfl, rfl⟩ rfl rfl rfl rfl ?_
        refine slInts ⟨_, hg29, rfl, rfl⟩ rfl rfl ?_
        refine seq ⟨_, hg29, rfl, rfl⟩ rfl rfl rfl ?_
        refine sp trivial rfl rfl rfl ?_
        refine sa trivial rfl rfl ?_
        refine St.nil fun a17 h17 => ?_
        refine hK4 _ _ ?_
        refine wp_ret ?_; with_reducible repeat first | refine of_then_ret ?_ | refine of_block_ret ?_
        have R : bareB xa xb xc xk xn rl al = ((al : Int) == 0) := by simp [bareB, hc6.out, hc8.out, hc10.out, hc12.out, hc14.out, hc16.out]
        exact ret_tmp (t := 2) h17 rfl rfl ⟨by rw [R], hW2.bel⟩
       rw [hb] at h15
       have h9 : ¬ rl = 0 := by have h8 := ne_of_beq_false hb; omega
       have hc18 : ¬ rl = 0 := h9
       clear h9
       clear hb
       refine St.go h15 ?_; clear h15 a15
       refine so hg29 rfl rfl rfl rfl ?_
       refine so hg29 rfl rfl rfl rfl ?_
       refine so hg29 rfl rfl rfl rfl ?_
       refine so hg29 rfl rfl rfl rfl ?_
       refine spf trivial rfl rfl rfl ?_
       refine sa trivial rfl rfl ?_
       refine St.nil fun a19 h19 => ?_
       refine hK4 _ _ ?_
       refine wp_ret ?_; with_reducible repeat first | refine of_then_ret ?_ | refine of_block_ret ?_
       have R : bareB xa xb xc xk xn rl al = false := by simp [bareB, hc6.out, hc8.out, hc10.out, hc12.out, hc14.out, hc18]
       exact ret_tmp (t := 2) h19 rfl rfl ⟨by rw [R], hW2.bel⟩
      rw [hb] at h13
      have h9 : ¬ xn = 0 := ne_of_beq_false hb
      have hc20 : ¬ xn = 0 := h9
      clear h9
      clear hb
      refine St.go h13 ?_; clear h13 a13
      refine so hg23 rfl rfl rfl rfl ?_
      refine so hg23 rfl rfl rfl rfl ?_
      refine so hg23 rfl rfl rfl rfl ?_
      refine so hg23 rfl rfl rfl rfl ?_
      refine spf trivial rfl rfl rfl ?_
      refine sm trivial rfl rfl ?_
      refine so hg29 rfl rfl rfl rfl ?_
      refine so hg29 rfl rfl rfl rfl ?_
      refine so hg29 rfl rfl rfl rfl ?_
      refine so hg29 rfl rfl rfl rfl ?_
      refine spf trivial rfl rfl rfl ?_
      refine sa trivial rfl rfl ?_
      refine St.nil fun a21 h21 => ?_
      refine hK4 _ _ ?_
      refine wp_ret ?_; with_reducible repeat first | refine of_then_ret ?_ | refine of_block_ret ?_
      have R : bareB xa xb xc xk xn rl al = false := by simp [bareB, hc6.out, hc8.out, hc10.out, hc12.out, hc20]
      exact ret_tmp (t := 2) h21 rfl rfl ⟨by rw [R], hW2.bel⟩
     rw [hb] at h11
     have h9 : ¬ xk = 0 := ne_of_beq_false hb
     have hc22 : ¬ xk = 0 := h9
     clear h9
     clear hb
     refine St.go h11 ?_; clear h11 a11
     refine so hg18 rfl rfl rfl rfl ?_
     refine so hg18 rfl rfl rfl rfl ?_
     refine so hg18 rfl rfl rfl rfl ?_
     refine spf trivial rfl rfl rfl ?_
     refine sm trivial rfl rfl ?_
     refine so hg23 rfl rfl rfl rfl ?_
     refine so hg23 rfl rfl rfl rfl ?_
     refine so hg23 rfl rfl rfl rfl ?_
     refine so hg23 rfl rfl rfl rfl ?_
     refine spf trivial rfl rfl rfl ?_
     refine sm trivial rfl rfl ?_
     refine so hg29 rfl rfl rfl rfl ?_
     refine so hg29 rfl rfl rfl rfl ?_
     refine so hg29 rfl rfl rfl rfl ?_
     refine so hg29 rfl rfl rfl rfl ?_
     refine spf trivial rfl rfl rfl ?_
     refine sa trivial rfl rfl ?_
     refine St.nil fun a23 h23 => ?_
     refine hK4 _ _ ?_
     refine wp_ret ?_; with_reducible repeat first | refine of_then_ret ?_ | refine of_block_ret ?_
     have R : bareB xa xb xc xk xn rl al = false := by simp [bareB, hc6.out, hc8.out, hc10.out, hc22]
     exact ret_tmp (t := 2) h23 rfl rfl ⟨by rw [R], hW2.bel⟩
    rw [hb] at h9
    have h9 : ¬ xc = 0 := ne_of_beq_false hb
    have hc24 : ¬ xc = 0 := h9
    clear h9
    clear hb
    refine St.go h9 ?_; clear h9 a9
    refine so hg13 rfl rfl rfl rfl ?_
    refine so hg13 rfl rfl rfl rfl ?_
    refine so hg13 rfl rfl rfl rfl ?_
    refine spf trivial rfl rfl rfl ?_
    refine sm trivial rfl rfl ?_
    refine so hg18 rfl rfl rfl rfl ?_
    refine so hg18 rfl rfl rfl rfl ?_
    refine so hg18 rfl rfl rfl rfl ?_
    refine spf trivial rfl rfl rfl ?_
    refine sm trivial rfl rfl ?_
    refine so hg23 rfl rfl rfl rfl ?_
    refine so hg23 rfl rfl rfl rfl ?_
    refine so hg23 rfl rfl rfl rfl ?_
    refine so hg23 rfl rfl rfl rfl ?_
    refine spf trivial rfl rfl rfl ?_
    refine sm trivial rfl rfl ?_
    refine so hg29 rfl rfl rfl rfl ?_
    refine so hg29 rfl rfl rfl rfl ?_
    refine so hg29 rfl rfl rfl rfl ?_
    refine so hg29 rfl rfl rfl rfl ?_
    refine spf trivial rfl rfl rfl ?_
    refine sa trivial rfl rfl ?_
    refine St.nil fun a25 h25 => ?_
    refine hK4 _ _ ?_
    refine wp_ret ?_; with_reducible repeat first | refine of_then_ret ?_ | refine of_block_ret ?_
    have R : bareB xa xb xc xk xn rl al = false := by simp [bareB, hc6.out, hc8.out, hc24]
    exact ret_tmp (t := 2) h25 rfl rfl ⟨by rw [R], hW2.bel⟩
   rw [hb] at h7
   have h9 : ¬ xb = 0 := ne_of_beq_false hb
   have hc26 : ¬ xb = 0 := h9
   clear h9
   clear hb
   refine St.go h7 ?_; clear h7 a7
   refine so hg8 rfl rfl rfl rfl ?_
   refine so hg8 rfl rfl rfl rfl ?_
   refine so hg8 rfl rfl rfl rfl ?_
   refine spf trivial rfl rfl rfl ?_
   refine sm trivial rfl rfl ?_
   refine so hg13 rfl rfl rfl rfl ?_
   refine so hg13 rfl rfl rfl rfl ?_
   refine so hg13 rfl rfl rfl rfl ?_
   refine spf trivial rfl rfl rfl ?_
   refine sm trivial rfl rfl ?_
   refine so hg18 rfl rfl rfl rfl ?_
   refine so hg18 rfl rfl rfl rfl ?_
   refine so hg18 rfl rfl rfl rfl ?_
   refine spf trivial rfl rfl rfl ?_
   refine sm trivial rfl rfl ?_
   refine so hg23 rfl rfl rfl rfl ?_
   refine so hg23 rfl rfl rfl rfl ?_
   refine so hg23 rfl rfl rfl rfl ?_
   refine so hg23 rfl rfl rfl rfl ?_
   refine spf trivial rfl rfl rfl ?_
   refine sm trivial rfl rfl ?_
   refine so hg29 rfl rfl rfl rfl ?_
   refine so hg29 rfl rfl rfl rfl ?_
   refine so hg29 rfl rfl rfl rfl ?_
   refine so hg29 rfl rfl rfl rfl ?_
   refine spf trivial rfl rfl rfl ?_
   refine sa trivial rfl rfl ?_
   refine St.nil fun a27 h27 => ?_
   refine hK4 _ _ ?_
   refine wp_ret ?_; with_reducible repeat first | refine of_then_ret ?_ | refine of_block_ret ?_
   have R : bareB xa xb xc xk xn rl al = false := by simp [bareB, hc6.out, hc26]
   exact ret_tmp (t := 2) h27 rfl rfl ⟨by rw [R], hW2.bel⟩
  rw [hb] at h5
  have h9 : ¬ xa = 0 := ne_of_beq_false hb
  have hc28 : ¬ xa = 0 := h9
  clear h9
  clear hb
  refine St.go h5 ?_; clear h5 a5
  refine so hg3 rfl rfl rfl rfl ?_
  refine so hg3 rfl rfl rfl rfl ?_
  refine so hg3 rfl rfl rfl rfl ?_
  refine spf trivial rfl rfl rfl ?_
  refine sm trivial rfl rfl ?_
  refine so hg8 rfl rfl rfl rfl ?_
  refine so hg8 rfl rfl rfl rfl ?_
  refine so hg8 rfl rfl rfl rfl ?_
  refine spf trivial rfl rfl rfl ?_
  refine sm trivial rfl rfl ?_
  refine so hg13 rfl rfl rfl rfl ?_
  refine so hg13 rfl rfl rfl rfl ?_
  refine so hg13 rfl rfl rfl rfl ?_
  refine spf trivial rfl rfl rfl ?_
  refine sm trivial rfl rfl ?_
  refine so hg18 rfl rfl rfl rfl ?_
  refine so hg18 rfl rfl rfl rfl ?_
  refine so hg18 rfl rfl rfl rfl ?_
  refine spf trivial rfl rfl rfl ?_
  refine sm trivial rfl rfl ?_
  refine so hg23 rfl rfl rfl rfl ?_
  refine so hg23 rfl rfl rfl rfl ?_
  refine so hg23 rfl rfl rfl rfl ?_
  refine so hg23 rfl rfl rfl rfl ?_
  refine spf trivial rfl rfl rfl ?_
  refine sm trivial rfl rfl ?_
  refine so hg29 rfl rfl rfl rfl ?_
  refine so hg29 rfl rfl rfl rfl ?_
  refine so hg29 rfl rfl rfl rfl ?_
  refine so hg29 rfl rfl rfl rfl ?_
  refine spf trivial rfl rfl rfl ?_
  refine sa trivial rfl rfl ?_
  refine St.nil fun a29 h29 => ?_
  refine hK4 _ _ ?_
  refine wp_ret ?_; with_reducible repeat first | refine of_then_ret ?_ | refine of_block_ret ?_
  have R : bareB xa xb xc xk xn rl al = false := by simp [bareB, hc28]
  exact ret_tmp (t := 2) h29 rfl rfl ⟨by rw [R], hW2.bel⟩

set_option maxHeartbeats 4000000 in
set_option maxRecDepth 100000 in
theorem bounds2 {xa xb xc xk xn : Int} {ra aa : Option Addr} {rl rc al ac : Nat} {am : Option Addr} {lm cm : Nat} {w : World} (hlm : lm < 2305843009213693952) :
    Rd Try.prog 59 #[.agg #[.slice am lm cm], .agg #[.int .i64 2, .int .i64 xa, .int .i64 xb, .int .i64 xc, .int .i64 xk, .int .i64 xn, .slice ra rl rc, .slice aa al ac]] w (.int .i64 (boundsC lm 2 xk rl al)) := by
  refine fr_enter (n := 41) Try.func59 rfl rfl rfl ?_
  intro a hF
  have hW := Wd.start w
  replace hF : Fr 41 a [(0, .agg #[.slice am lm cm]), (1, .agg #[.int .i64 2, .int .i64 xa, .int .i64 xb, .int .i64 xc, .int .i64 xk, .int .i64 xn, .slice ra rl rc, .slice aa al ac])] := hF
  refine wp_seq_k fun K1 hK1 => ?_
  refine rg hF fun ops => ?_; clear hF a
  refine sB hW trivial rfl rfl ?_
  clear hW; intro w2 B2 hW2 hN; clear hN
  refine sB hW2 trivial rfl rfl ?_
  clear hW2; intro w3 B3 hW3 hN; clear hN
  refine sa trivial rfl rfl ?_
  refine St.nil fun a4 h4 => ?_
  refine hK1 _ _ ?_
  refine wp_seq_k fun K5 hK5 => ?_
  refine wp_seq_k fun K6 hK6 => ?_
  refine rg h4 fun ops => ?_; clear h4 a4
  refine sfIns0 trivial rfl rfl ?_
  refine sbInt 0 hW3 trivial rfl rfl rfl rfl ?_
  refine St.nil fun a7 h7 => ?_
  refine hK6 _ _ ?_
  refine wp_block ?_
  refine wp_seq_k fun K8 hK8 => ?_
  refine rg h7 fun ops => ?_; clear h7 a7
  intro a9 h9
  refine fr_pure (t := 9) (v := .bool true) (w' := w3) h9 rfl rfl rfl (fun K hK => ?_) ?_
  ·have k0 : a9.tmps.getD 7 undef = .int .i64 2 := h9.sl 7 _ rfl
   go_simp
   exact hK
  clear h9; intro a10 hF10
  refine St.go hF10 ?_; clear hF10 a10
  refine sa trivial rfl rfl ?_
  refine St.nil fun a11 h11 => ?_
  refine hK8 _ _ ?_
  refine fr_true (t := 8) h11 rfl ?_
  refine wp_seq_k fun K12 hK12 => ?_
  refine rg h11 fun ops => ?_; clear h11 a11
  refine sfIns4 trivial rfl rfl ?_
  refine sbInt 0 hW3 trivial rfl rfl rfl rfl ?_
  refine sc_3 cf86 hW3 (rangeCode_any) trivial rfl rfl rfl rfl ?_
  clear hW3; intro w13 hW13
  refine sa trivial rfl rfl ?_
  refine St.nil fun a14 h14 => ?_
  refine hK12 _ _ ?_
  refine wp_ret ?_; with_reducible repeat first | refine of_then_ret ?_ | refine of_block_ret ?_
  have R : boundsC lm 2 xk rl al = rangeC xk 1 9 := by simp [boundsC]
  exact ret_tmp (t := 4) h14 rfl rfl ⟨by rw [R], hW13.bel⟩

set_option maxHeartbeats 4000000 in
set_option maxRecDepth 100000 in
theorem bounds5 {xa xb xc xk xn : Int} {ra aa : Option Addr} {rl rc al ac : Nat} {am : Option Addr} {lm cm : Nat} {w : World} (hlm : lm < 2305843009213693952) :
    Rd Try.prog 59 #[.agg #[.slice am lm cm], .agg #[.int .i64 5, .int .i64 xa, .int .i64 xb, .int .i64 xc, .int .i64 xk, .int .i64 xn, .slice ra rl rc, .slice aa al ac]] w (.int .i64 (boundsC lm 5 xk rl al)) := by
  refine fr_enter (n := 41) Try.func59 rfl rfl rfl ?_
  intro a hF
  have hW := Wd.start w
  replace hF : Fr 41 a [(0, .agg #[.slice am lm cm]), (1, .agg #[.int .i64 5, .int .i64 xa, .int .i64 xb, .int .i64 xc, .int .i64 xk, .int .i64 xn, .slice ra rl rc, .slice aa al ac])] := hF
  refine wp_seq_k fun K1 hK1 => ?_
  refine rg hF fun ops => ?_; clear hF a
  refine sB hW trivial rfl rfl ?_
  clear hW; intro w2 B2 hW2 hN; clear hN
  refine sB hW2 trivial rfl rfl ?_
  clear hW2; intro w3 B3 hW3 hN; clear hN
  refine sa trivial rfl rfl ?_
  refine St.nil fun a4 h4 => ?_
  refine hK1 _ _ ?_
  refine wp_seq_k fun K5 hK5 => ?_
  refine wp_seq_k fun K6 hK6 => ?_
  refine rg h4 fun ops => ?_; clear h4 a4
  refine sfIns0 trivial rfl rfl ?_
  refine sbInt 0 hW3 trivial rfl rfl rfl rfl ?_
  refine St.nil fun a7 h7 => ?_
  refine hK6 _ _ ?_
  refine wp_block ?_
  refine wp_seq_k fun K8 hK8 => ?_
  refine rg h7 fun ops => ?_; clear h7 a7
  refine seq trivial rfl rfl rfl ?_
  refine sa trivial rfl rfl ?_
  refine St.nil fun a9 h9 => ?_
  refine hK8 _ _ ?_
  refine fr_false (t := 8) h9 rfl ?_
  refine wp_seq_k fun K10 hK10 => ?_
  refine wp_seq_k fun K11 hK11 => ?_
  refine rg h9 fun ops => ?_; clear h9 a9
  refine seq trivial rfl rfl rfl ?_
  refine sa trivial rfl rfl ?_
  refine St.nil fun a12 h12 => ?_
  refine hK11 _ _ ?_
  refine fr_false (t := 13) h12 rfl ?_
  refine rg h12 fun ops => ?_; clear h12 a12
  refine seq trivial rfl rfl rfl ?_
  refine sa trivial rfl rfl ?_
  refine St.nil fun a13 h13 => ?_
  refine hK10 _ _ ?_
  refine fr_false (t := 13) h13 rfl ?_
  refine wp_seq_k fun K14 hK14 => ?_
  refine rg h13 fun ops => ?_; clear h13 a13
  intro a15 h15
  refine fr_pure (t := 20) (v := .bool true) (w' := w3) h15 rfl rfl rfl (fun K hK => ?_) ?_
  ·have k0 : a15.tmps.getD 7 undef = .int .i64 5 := h15.sl 7 _ rfl
   go_simp
   exact hK
  clear h15; intro a16 hF16
  refine St.go hF16 ?_; clear hF16 a16
  refine sa trivial rfl rfl ?_
  refine St.nil fun a17 h17 => ?_
  refine hK14 _ _ ?_
  refine fr_true (t := 19) h17 rfl ?_
  refine wp_seq_k fun K18 hK18 => ?_
  refine rg h17 fun ops => ?_; clear h17 a17
  refine sfIns7 trivial rfl rfl ?_
  refine sbInts 0 hW3 trivial rfl rfl rfl rfl ?_
  refine sc_2 cf87 hW3 (manyCode_any) trivial rfl rfl rfl ?_
  clear hW3; intro w19 hW19
  refine sa trivial rfl rfl ?_
  refine St.nil fun a20 h20 => ?_
  refine hK18 _ _ ?_
  refine wp_ret ?_; with_reducible repeat first | refine of_then_ret ?_ | refine of_block_ret ?_
  have R : boundsC lm 5 xk rl al = manyC al 8 := by simp [boundsC]
  exact ret_tmp (t := 4) h20 rfl rfl ⟨by rw [R], hW19.bel⟩

set_option maxHeartbeats 4000000 in
set_option maxRecDepth 100000 in
theorem bounds6 {xa xb xc xk xn : Int} {ra aa : Option Addr} {rl rc al ac : Nat} {am : Option Addr} {lm cm : Nat} {w : World} (hlm : lm < 2305843009213693952) :
    Rd Try.prog 59 #[.agg #[.slice am lm cm], .agg #[.int .i64 6, .int .i64 xa, .int .i64 xb, .int .i64 xc, .int .i64 xk, .int .i64 xn, .slice ra rl rc, .slice aa al ac]] w (.int .i64 (boundsC lm 6 xk rl al)) := by
  refine fr_enter (n := 41) Try.func59 rfl rfl rfl ?_
  intro a hF
  have hW := Wd.start w
  replace hF : Fr 41 a [(0, .agg #[.slice am lm cm]), (1, .agg #[.int .i64 6, .int .i64 xa, .int .i64 xb, .int .i64 xc, .int .i64 xk, .int .i64 xn, .slice ra rl rc, .slice aa al ac])] := hF
  refine wp_seq_k fun K1 hK1 => ?_
  refine rg hF fun ops => ?_; clear hF a
  refine sB hW trivial rfl rfl ?_
  clear hW; intro w2 B2 hW2 hN; clear hN
  refine sB hW2 trivial rfl rfl ?_
  clear hW2; intro w3 B3 hW3 hN; clear hN
  refine sa trivial rfl rfl ?_
  refine St.nil fun a4 h4 => ?_
  refine hK1 _ _ ?_
  refine wp_seq_k fun K5 hK5 => ?_
  refine wp_seq_k fun K6 hK6 => ?_
  refine rg h4 fun ops => ?_; clear h4 a4
  refine sfIns0 trivial rfl rfl ?_
  refine sbInt 0 hW3 trivial rfl rfl rfl rfl ?_
  refine St.nil fun a7 h7 => ?_
  refine hK6 _ _ ?_
  refine wp_block ?_
  refine wp_seq_k fun K8 hK8 => ?_
  refine rg h7 fun ops => ?_; clear h7 a7
  refine seq trivial rfl rfl rfl ?_
  refine sa trivial rfl rfl ?_
  refine St.nil fun a9 h9 => ?_
  refine hK8 _ _ ?_
  refine fr_false (t := 8) h9 rfl ?_
  refine wp_seq_k fun K10 hK10 => ?_
  refine wp_seq_k fun K11 hK11 => ?_
  refine rg h9 fun ops => ?_; clear h9 a9
  intro a12 h12
  refine fr_pure (t := 14) (v := .bool true) (w' := w3) h12 rfl rfl rfl (fun K hK => ?_) ?_
  ·have k0 : a12.tmps.getD 7 undef = .int .i64 6 := h12.sl 7 _ rfl
   go_simp
   exact hK
  clear h12; intro a13 hF13
  refine St.go hF13 ?_; clear hF13 a13
  refine sa trivial rfl rfl ?_
  refine St.nil fun a14 h14 => ?_
  refine hK11 _ _ ?_
  refine fr_true (t := 13) h14 rfl ?_
  refine wp_skip ?_
  refine hK10 _ _ ?_
  refine fr_true (t := 13) h14 rfl ?_
  refine wp_seq_k fun K15 hK15 => ?_
  refine rg h14 fun ops => ?_; clear h14 a14
  refine sfIns4 trivial rfl rfl ?_
  refine sbInt 0 hW3 trivial rfl rfl rfl rfl ?_
  refine sc_3 cf86 hW3 (rangeCode_any) trivial rfl rfl rfl rfl ?_
  clear hW3; intro w16 hW16
  refine sa trivial rfl rfl ?_
  refine St.nil fun a17 h17 => ?_
  refine hK15 _ _ ?_
  refine wp_ret ?_; with_reducible repeat first | refine of_then_ret ?_ | refine of_block_ret ?_
  have R : boundsC lm 6 xk rl al = rangeC xk 0 7 := by simp [boundsC]
  exact ret_tmp (t := 4) h17 rfl rfl ⟨by rw [R], hW16.bel⟩

set_option maxHeartbeats 4000000 in
set_option maxRecDepth 100000 in
theorem bounds7 {xa xb xc xk xn : Int} {ra aa : Option Addr} {rl rc al ac : Nat} {am : Option Addr} {lm cm : Nat} {w : World} (hlm : lm < 2305843009213693952) :
    Rd Try.prog 59 #[.agg #[.slice am lm cm], .agg #[.int .i64 7, .int .i64 xa, .int .i64 xb, .int .i64 xc, .int .i64 xk, .int .i64 xn, .slice ra rl rc, .slice aa al ac]] w (.int .i64 (boundsC lm 7 xk rl al)) := by
  refine fr_enter (n := 41) Try.func59 rfl rfl rfl ?_
  intro a hF
  have hW := Wd.start w
  replace hF : Fr 41 a [(0, .agg #[.slice am lm cm]), (1, .agg #[.int .i64 7, .int .i64 xa, .int .i64 xb, .int .i64 xc, .int .i64 xk, .int .i64 xn, .slice ra rl rc, .slice aa al ac])] := hF
  refine wp_seq_k fun K1 hK1 => ?_
  refine rg hF fun ops => ?_; clear hF a
  refine sB hW trivial rfl rfl ?_
  clear hW; intro w2 B2 hW2 hN; clear hN
  refine sB hW2 trivial rfl rfl ?_
  clear hW2; intro w3 B3 hW3 hN; clear hN
  refine sa trivial rfl rfl ?_
  refine St.nil fun a4 h4 => ?_
  refine hK1 _ _ ?_
  refine wp_seq_k fun K5 hK5 => ?_
  refine wp_seq_k fun K6 hK6 => ?_
  refine rg h4 fun ops => ?_; clear h4 a4
  refine sfIns0 trivial rfl rfl ?_
  refine sbInt 0 hW3 trivial rfl rfl rfl rfl ?_
  refine St.nil fun a7 h7 => ?_
  refine hK6 _ _ ?_
  refine wp_block ?_
  refine wp_seq_k fun K8 hK8 => ?_
  refine rg h7 fun ops => ?_; clear h7 a7
  refine seq trivial rfl rfl rfl ?_
  refine sa trivial rfl rfl ?_
  refine St.nil fun a9 h9 => ?_
  refine hK8 _ _ ?_
  refine fr_false (t := 8) h9 rfl ?_
  refine wp_seq_k fun K10 hK10 => ?_
  refine wp_seq_k fun K11 hK11 => ?_
  refine rg h9 fun ops => ?_; clear h9 a9
  refine seq trivial rfl rfl rfl ?_
  refine sa trivial rfl rfl ?_
  refine St.nil fun a12 h12 => ?_
  refine hK11 _ _ ?_
  refine fr_false (t := 13) h12 rfl ?_
  refine rg h12 fun ops => ?_; clear h12 a12
  intro a13 h13
  refine fr_pure (t := 15) (v := .bool true) (w' := w3) h13 rfl rfl rfl (fun K hK => ?_) ?_
  ·have k0 : a13.tmps.getD 7 undef = .int .i64 7 := h13.sl 7 _ rfl
   go_simp
   exact hK
  clear h13; intro a14 hF14
  refine St.go hF14 ?_; clear hF14 a14
  refine sa trivial rfl rfl ?_
  refine St.nil fun a15 h15 => ?_
  refine hK10 _ _ ?_
  refine fr_true (t := 13) h15 rfl ?_
  refine wp_seq_k fun K16 hK16 => ?_
  refine rg h15 fun ops => ?_; clear h15 a15
  refine sfIns4 trivial rfl rfl ?_
  refine sbInt 0 hW3 trivial rfl rfl rfl rfl ?_
  refine sc_3 cf86 hW3 (rangeCode_any) trivial rfl rfl rfl rfl ?_
  clear hW3; intro w17 hW17
  refine sa trivial rfl rfl ?_
  refine St.nil fun a18 h18 => ?_
  refine hK16 _ _ ?_
  refine wp_ret ?_; with_reducible repeat first | refine of_then_ret ?_ | refine of_block_ret ?_
  have R : boundsC lm 7 xk rl al = rangeC xk 0 7 := by simp [boundsC]
  exact ret_tmp (t := 4) h18 rfl rfl ⟨by rw [R], hW17.bel⟩

set_option maxHeartbeats 4000000 in
set_option maxRecDepth 100000 in
theorem bounds14 {xa xb xc xk xn : Int} {ra aa : Option Addr} {rl rc al ac : Nat} {am : Option Addr} {lm cm : Nat} {w : World} (hlm : lm < 2305843009213693952) :
    Rd Try.prog 59 #[.agg #[.slice am lm cm], .agg #[.int .i64 14, .int .i64 xa, .int .i64 xb, .int .i64 xc, .int .i64 xk, .int .i64 xn, .slice ra rl rc, .slice aa al ac]] w (.int .i64 (boundsC lm 14 xk rl al)) := by
  refine fr_enter (n := 41) Try.func59 rfl rfl rfl ?_
  intro a hF
  have hW := Wd.start w
  replace hF : Fr 41 a [(0, .agg #[.slice am lm cm]), (1, .agg #[.int .i64 14, .int .i64 xa, .int .i64 xb, .int .i64 xc, .int .i64 xk, .int .i64 xn, .slice ra rl rc, .slice aa al ac])] := hF
  refine wp_seq_k fun K1 hK1 => ?_
  refine rg hF fun ops => ?_; clear hF a
  refine sB hW trivial rfl rfl ?_
  clear hW; intro w2 B2 hW2 hN; clear hN
  refine sB hW2 trivial rfl rfl ?_
  clear hW2; intro w3 B3 hW3 hN; clear hN
  refine sa trivial rfl rfl ?_
  refine St.nil fun a4 h4 => ?_
  refine hK1 _ _ ?_
  refine wp_seq_k fun K5 hK5 => ?_
  refine wp_seq_k fun K6 hK6 => ?_
  refine rg h4 fun ops => ?_; clear h4 a4
  refine sfIns0 trivial rfl rfl ?_
  refine sbInt 0 hW3 trivial rfl rfl rfl rfl ?_
  refine St.nil fun a7 h7 => ?_
  refine hK6 _ _ ?_
  refine wp_block ?_
  refine wp_seq_k fun K8 hK8 => ?_
  refine rg h7 fun ops => ?_; clear h7 a7
  refine seq trivial rfl rfl rfl ?_
  refine sa trivial rfl rfl ?_
  refine St.nil fun a9 h9 => ?_
  refine hK8 _ _ ?_
  refine fr_false (t := 8) h9 rfl ?_
  refine wp_seq_k fun K10 hK10 => ?_
  refine wp_seq_k fun K11 hK11 => ?_
  refine rg h9 fun ops => ?_; clear h9 a9
  refine seq trivial rfl rfl rfl ?_
  refine sa trivial rfl rfl ?_
  refine St.nil fun a12 h12 => ?_
  refine hK11 _ _ ?_
  refine fr_false (t := 13) h12 rfl ?_
  refine rg h12 fun ops => ?_; clear h12 a12
  refine seq trivial rfl rfl rfl ?_
  refine sa trivial rfl rfl ?_
  refine St.nil fun a13 h13 => ?_
  refine hK10 _ _ ?_
  refine fr_false (t := 13) h13 rfl ?_
  refine wp_seq_k fun K14 hK14 => ?_
  refine rg h13 fun ops => ?_; clear h13 a13
  refine seq trivial rfl rfl rfl ?_
  refine sa trivial rfl rfl ?_
  refine St.nil fun a15 h15 => ?_
  refine hK14 _ _ ?_
  refine fr_false (t := 19) h15 rfl ?_
  refine wp_seq_k fun K16 hK16 => ?_
  refine rg h15 fun ops => ?_; clear h15 a15
  intro a17 h17
  refine fr_pure (t := 25) (v := .bool true) (w' := w3) h17 rfl rfl rfl (fun K hK => ?_) ?_
  ·have k0 : a17.tmps.getD 7 undef = .int .i64 14 := h17.sl 7 _ rfl
   go_simp
   exact hK
  clear h17; intro a18 hF18
  refine St.go hF18 ?_; clear hF18 a18
  refine sa trivial rfl rfl ?_
  refine St.nil fun a19 h19 => ?_
  refine hK16 _ _ ?_
  refine fr_true (t := 24) h19 rfl ?_
  refine wp_seq_k fun K20 hK20 => ?_
  refine wp_seq_k fun K21 hK21 => ?_
  refine rg h19 fun ops => ?_; clear h19 a19
  refine sfIns4 trivial rfl rfl ?_
  refine sbInt 0 hW3 trivial rfl rfl rfl rfl ?_
  refine sfModule0 trivial rfl rfl ?_
  refine sbFuncs 1 hW3 trivial rfl rfl rfl rfl ?_
  refine slFuncs trivial rfl rfl ?_
  intro a22 h22
  refine fr_pure (t := 31) (v := .int .i64 ((lm : Int) - 1)) (w' := w3) h22 rfl rfl rfl (fun K hK => ?_) ?_
  ·have k0 : a22.tmps.getD 30 undef = .int .i64 (lm : Int) := h22.sl 30 _ rfl
   have hwr : IntKind.i64.wrap ((lm : Int) - 1) = (lm : Int) - 1 := wrap_pred _ (by omega)
   go_simp
   exact hK
  clear h22; intro a23 hF23
  refine St.go hF23 ?_; clear hF23 a23
  refine sc_3 cf86 hW3 (rangeCode_any) trivial rfl rfl rfl rfl ?_
  clear hW3; intro w24 hW24
  refine sa trivial rfl rfl ?_
  refine St.nil fun a25 h25 => ?_
  refine hK21 _ _ ?_
  refine wp_seq_k fun K26 hK26 => ?_
  refine rg h25 fun ops => ?_; clear h25 a25
  refine sm trivial rfl rfl ?_
  refine sne trivial rfl rfl rfl ?_
  refine St.nil fun a27 h27 => ?_
  refine hK26 _ _ ?_
  refine fr_cond (t := 34) h27 rfl (fun hb => ?_) (fun hb => ?_)
  ·have h9 : ¬ (rangeC xk 0 ((lm : Int) - 1)) = 0 := bne_iff_ne.1 hb
   have hc28 : ¬ (rangeC xk 0 ((lm : Int) - 1)) = 0 := h9
   clear h9
   clear hb
   refine wp_seq_k fun K29 hK29 => ?_
   refine rg h27 fun ops => ?_; clear h27 a27
   refine sm trivial rfl rfl ?_
   refine sa trivial rfl rfl ?_
   refine St.nil fun a30 h30 => ?_
   refine hK29 _ _ ?_
   refine wp_ret ?_; with_reducible repeat first | refine of_then_ret ?_ | refine of_block_ret ?_
   have R : boundsC lm 14 xk rl al = rangeC xk 0 ((lm : Int) - 1) := by simp [boundsC, hc28]
   exact ret_tmp (t := 4) h30 rfl rfl ⟨by rw [R], hW24.bel⟩
  have h9 : (rangeC xk 0 ((lm : Int) - 1)) = 0 := bne_eq_false_iff_eq.1 hb
  have hc31 : Hid ((rangeC xk 0 ((lm : Int) - 1)) = 0) := h9
  clear h9
  clear hb
  refine wp_skip ?_
  refine hK20 _ _ ?_
  refine wp_seq_k fun K32 hK32 => ?_
  refine rg h27 fun ops => ?_; clear h27 a27
  refine sfIns6 trivial rfl rfl ?_
  refine sbInts 0 hW24 trivial rfl rfl rfl rfl ?_
  refine sfIns7 trivial rfl rfl ?_
  refine sbInts 0 hW24 trivial rfl rfl rfl rfl ?_
  refine sc_3 cf88 hW24 (handedCode_any) trivial rfl rfl rfl rfl ?_
  clear hW24; intro w33 hW33
  refine sa trivial rfl rfl ?_
  refine St.nil fun a34 h34 => ?_
  refine hK32 _ _ ?_
  refine wp_ret ?_; with_reducible repeat first | refine of_then_ret ?_ | refine of_block_ret ?_
  have R : boundsC lm 14 xk rl al = handedC rl 6 al := by simp [boundsC, hc31.out]
  exact ret_tmp (t := 4) h34 rfl rfl ⟨by rw [R], hW33.bel⟩

set_option maxHeartbeats 4000000 in
set_option maxRecDepth 100000 in
theorem boundsNo {xop xa xb xc xk xn : Int} {ra aa : Option Addr} {rl rc al ac : Nat} {am : Option Addr} {lm cm : Nat} {w : World} (hlm : lm < 2305843009213693952) (h : xop ≠ 2 ∧ xop ≠ 6 ∧ xop ≠ 7 ∧ xop ≠ 5 ∧ xop ≠ 14) :
    Rd Try.prog 59 #[.agg #[.slice am lm cm], .agg #[.int .i64 xop, .int .i64 xa, .int .i64 xb, .int .i64 xc, .int .i64 xk, .int .i64 xn, .slice ra rl rc, .slice aa al ac]] w (.int .i64 (boundsC lm xop xk rl al)) := by
  refine fr_enter (n := 41) Try.func59 rfl rfl rfl ?_
  intro a hF
  have hW := Wd.start w
  replace hF : Fr 41 a [(0, .agg #[.slice am lm cm]), (1, .agg #[.int .i64 xop, .int .i64 xa, .int .i64 xb, .int .i64 xc, .int .i64 xk, .int .i64 xn, .slice ra rl rc, .slice aa al ac])] := hF
  refine wp_seq_k fun K1 hK1 => ?_
  refine rg hF fun ops => ?_; clear hF a
  refine sB hW trivial rfl rfl ?_
  clear hW; intro w2 B2 hW2 hN; clear hN
  refine sB hW2 trivial rfl rfl ?_
  clear hW2; intro w3 B3 hW3 hN; clear hN
  refine sa trivial rfl rfl ?_
  refine St.nil fun a4 h4 => ?_
  refine hK1 _ _ ?_
  refine wp_seq_k fun K5 hK5 => ?_
  refine wp_seq_k fun K6 hK6 => ?_
  refine rg h4 fun ops => ?_; clear h4 a4
  refine sfIns0 trivial rfl rfl ?_
  refine sbInt 0 hW3 trivial rfl rfl rfl rfl ?_
  refine St.nil fun a7 h7 => ?_
  refine hK6 _ _ ?_
  refine wp_block ?_
  refine wp_seq_k fun K8 hK8 => ?_
  refine rg h7 fun ops => ?_; clear h7 a7
  refine seq trivial rfl rfl rfl ?_
  refine sa trivial rfl rfl ?_
  refine St.nil fun a9 h9 => ?_
  refine hK8 _ _ ?_
  refine fr_cond (t := 8) h9 rfl (fun hb => ?_) (fun hb => ?_)
  ·exact absurd (by simpa using hb) h.1
  clear hb
  refine wp_seq_k fun K10 hK10 => ?_
  refine wp_seq_k fun K11 hK11 => ?_
  refine rg h9 fun ops => ?_; clear h9 a9
  refine seq trivial rfl rfl rfl ?_
  refine sa trivial rfl rfl ?_
  refine St.nil fun a12 h12 => ?_
  refine hK11 _ _ ?_
  refine fr_cond (t := 13) h12 rfl (fun hb => ?_) (fun hb => ?_)
  ·rw [hb] at h12
   exact absurd (by simpa using hb) h.2.1
  rw [hb] at h12
  clear hb
  refine rg h12 fun ops => ?_; clear h12 a12
  refine seq trivial rfl rfl rfl ?_
  refine sa trivial rfl rfl ?_
  refine St.nil fun a13 h13 => ?_
  refine hK10 _ _ ?_
  refine fr_cond (t := 13) h13 rfl (fun hb => ?_) (fun hb => ?_)
  ·rw [hb] at h13
   exact absurd (by simpa using hb) h.2.2.1
  rw [hb] at h13
  clear hb
  refine wp_seq_k fun K14 hK14 => ?_
  refine rg h13 fun ops => ?_; clear h13 a13
  refine seq trivial rfl rfl rfl ?_
  refine sa trivial rfl rfl ?_
  refine St.nil fun a15 h15 => ?_
  refine hK14 _ _ ?_
  refine fr_cond (t := 19) h15 rfl (fun hb => ?_) (fun hb => ?_)
  ·exact absurd (by simpa using hb) h.2.2.2.1
  clear hb
  refine wp_seq_k fun K16 hK16 => ?_
  refine rg h15 fun ops => ?_; clear h15 a15
  refine seq trivial rfl rfl rfl ?_
  refine sa trivial rfl rfl ?_
  refine St.nil fun a17 h17 => ?_
  refine hK16 _ _ ?_
  refine fr_cond (t := 24) h17 rfl (fun hb => ?_) (fun hb => ?_)
  ·exact absurd (by simpa using hb) h.2.2.2.2
  clear hb
  refine wp_skip ?_
  refine hK5 _ _ ?_
  refine wp_seq_k fun K18 hK18 => ?_
  refine rg h17 fun ops => ?_; clear h17 a17
  refine sa trivial rfl rfl ?_
  refine St.nil fun a19 h19 => ?_
  refine hK18 _ _ ?_
  refine wp_ret ?_; with_reducible repeat first | refine of_then_ret ?_ | refine of_block_ret ?_
  have R : boundsC lm xop xk rl al = 0 := by simp [boundsC, h.1, h.2.1, h.2.2.1, h.2.2.2.1, h.2.2.2.2]
  exact ret_tmp (t := 4) h19 rfl rfl ⟨by rw [R], hW3.bel⟩
end Go.Proofs.Ytmnmnokkojcodab
/-
  InsForm.
-/
namespace Go.Proofs.Ytmnmnokkojcodab
open Go.ChangeShapes Go.WideShapes Go.ChangeAt Go.RowKit
set_option linter.unusedVariables false
set_option linter.unusedSimpArgs false

set_option maxHeartbeats 4000000 in
set_option maxRecDepth 100000 in
theorem insFSome {xop : Int} {fa fb fc fk fn fr fs : Bool} (hop : fieldsOf xop = some (fa, fb, fc, fk, fn, fr, fs)) (xa xb xc xk xn : Int) (am ra aa : Option Addr) (lm cm rl rc al ac : Nat) (w : World) :
    Rd Try.prog 21 #[.agg #[.slice am lm cm], .agg #[.int .i64 xop, .int .i64 xa, .int .i64 xb, .int .i64 xc, .int .i64 xk, .int .i64 xn, .slice ra rl rc, .slice aa al ac]] w (.int .i64 (insForm lm xop xa xb xc xk xn rl al)) := by
  refine fr_enter (n := 137) Try.func21 rfl rfl rfl ?_
  intro a hF
  have hW := Wd.start w
  replace hF : Fr 137 a [(0, .agg #[.slice am lm cm]), (1, .agg #[.int .i64 xop, .int .i64 xa, .int .i64 xb, .int .i64 xc, .int .i64 xk, .int .i64 xn, .slice ra rl rc, .slice aa al ac])] := hF
  refine wp_seq_k fun K1 hK1 => ?_
  refine rg hF fun ops => ?_; clear hF a
  refine sB hW trivial rfl rfl ?_
  clear hW; intro w2 B2 hW2 hN; clear hN
  refine sB hW2 trivial rfl rfl ?_
  clear hW2; intro w3 B3 hW3 hN; clear hN
  refine sa trivial rfl rfl ?_
  refine St.nil fun a4 h4 => ?_
  refine hK1 _ _ ?_
  refine wp_seq_k fun K5 hK5 => ?_
  refine rg h4 fun ops => ?_; clear h4 a4
  refine sfIns0 trivial rfl rfl ?_
  refine sbInt 0 hW3 trivial rfl rfl rfl rfl ?_
  refine sc_1 cf60 hW3 (rdFieldsSome hop w3) trivial rfl rfl ?_
  clear hW3; intro w6 hW6
  refine sm trivial rfl rfl ?_
  intro a7 h7
  refine fr_pure (t := 11) (v := .agg #[.bool fa, .bool fb, .bool fc, .bool fk, .bool fn, .bool fr, .bool fs]) (w' := w6) h7 rfl rfl rfl (fun K hK => ?_) ?_
  ·have k0 : a7.tmps.getD 7 undef = .tuple #[.agg #[.bool fa, .bool fb, .bool fc, .bool fk, .bool fn, .bool fr, .bool fs], .bool true] := h7.sl 7 _ rfl
   go_simp
   exact hK
  clear h7; intro a8 hF8
  refine fr_pure (t := 12) (v := .bool true) (w' := w6) hF8 rfl rfl rfl (fun K hK => ?_) ?_
  ·have k0 : a8.tmps.getD 7 undef = .tuple #[.agg #[.bool fa, .bool fb, .bool fc, .bool fk, .bool fn, .bool fr, .bool fs], .bool true] := hF8.sl 7 _ rfl
   go_simp
   exact hK
  clear hF8; intro a9 hF9
  refine St.go hF9 ?_; clear hF9 a9
  refine sAFields hW6 trivial rfl ?_
  clear hW6; intro w10 B10 hW10 hN; clear hN
  refine sT 0 hW10 rfl rfl infFields rfl rfl rfl ?_
  clear hW10; intro w11 hW11
  refine sa trivial rfl rfl ?_
  refine St.nil fun a12 h12 => ?_
  refine hK5 _ _ ?_
  refine wp_seq_k fun K13 hK13 => ?_
  refine wp_seq_k fun K14 hK14 => ?_
  refine rg h12 fun ops => ?_; clear h12 a12
  refine sm trivial rfl rfl ?_
  refine sn trivial rfl rfl ?_
  refine St.nil fun a15 h15 => ?_
  refine hK14 _ _ ?_
  refine fr_false (t := 14) h15 rfl ?_
  refine wp_skip ?_
  refine hK13 _ _ ?_
  refine wp_seq_k fun K16 hK16 => ?_
  refine wp_seq_k fun K17 hK17 => ?_
  refine fr_region ?_
  intro ops hops
  have hg3 : (ops[3]?).bind (fun o : Oper => o.dst) = some 18 := hops 3
  have hg8 : (ops[8]?).bind (fun o : Oper => o.dst) = some 23 := hops 8
  have hg12 : (ops[12]?).bind (fun o : Oper => o.dst) = some 27 := hops 12
  have hg18 : (ops[18]?).bind (fun o : Oper => o.dst) = some 33 := hops 18
  have hg22 : (ops[22]?).bind (fun o : Oper => o.dst) = some 37 := hops 22
  have hg28 : (ops[28]?).bind (fun o : Oper => o.dst) = some 43 := hops 28
  have hg32 : (ops[32]?).bind (fun o : Oper => o.dst) = some 47 := hops 32
  have hg38 : (ops[38]?).bind (fun o : Oper => o.dst) = some 53 := hops 38
  have hg42 : (ops[42]?).bind (fun o : Oper => o.dst) = some 57 := hops 42
  have hg48 : (ops[48]?).bind (fun o : Oper => o.dst) = some 63 := hops 48
  have hg52 : (ops[52]?).bind (fun o : Oper => o.dst) = some 67 := hops 52
  have hg59 : (ops[59]?).bind (fun o : Oper => o.dst) = some 74 := hops 59
  have hg63 : (ops[63]?).bind (fun o : Oper => o.dst) = some 78 := hops 63
  clear hops
  refine cut_k 9 (fun a' w' => (∃ d1 : Bool, d1 = (!fa && xa != 0) ∧ Fr 137 a' [(23, .bool d1), (1, .agg #[.int .i64 xop, .int .i64 xa, .int .i64 xb, .int .i64 xc, .int .i64 xk, .int .i64 xn, .slice ra rl rc, .slice aa al ac]), (0, .agg #[.slice am lm cm]), (2, .pointer (some ⟨B2, 0, none⟩)), (3, .pointer (some ⟨B3, 0, none⟩)), (4, .int .i64 0), (5, .pointer (some ⟨B10, 0, none⟩)), (6, .bool true)]) ∧ w11 = w') (fun KC hKC => ?_) ?_
  ·refine St.go h15 ?_; clear h15 a15
   refine sfFields0 trivial rfl rfl ?_
   refine sbBool 0 hW11 trivial rfl rfl rfl rfl ?_
   refine sn trivial rfl rfl ?_
   refine sm trivial rfl rfl ?_
   intro a18 h18
   rcases Bool.eq_false_or_eq_true (!fa) with hb | hb
   ·rw [hb] at h18
    have hc19 : fa = false := by simpa using hb
    clear hb
    refine St.go h18 ?_; clear h18 a18
    refine sfIns1 ⟨_, hg3, rfl, rfl⟩ rfl rfl ?_
    refine sbInt 1 hW11 ⟨_, hg3, rfl, rfl⟩ rfl rfl rfl rfl ?_
    refine sne ⟨_, hg3, rfl, rfl⟩ rfl rfl rfl ?_
    refine sp trivial rfl rfl rfl ?_
    refine sm trivial rfl rfl ?_
    refine St.nil fun a20 h20 => ?_
    exact hKC _ _ ⟨⟨xa != 0, by simp [hc19], (h20.keep (h20.keep (h20.keep (h20.keep (h20.keep (h20.keep (h20.keep (h20.keep h20.nil (t := 6) rfl) (t := 5) rfl) (t := 4) rfl) (t := 3) rfl) (t := 2) rfl) (t := 0) rfl) (t := 1) rfl) (t := 23) rfl)⟩, rfl⟩
   rw [hb] at h18
   have hc21 : fa = true := by simpa using hb
   clear hb
   refine St.go h18 ?_; clear h18 a18
   refine so hg3 rfl rfl rfl rfl ?_
   refine so hg3 rfl rfl rfl rfl ?_
   refine so hg3 rfl rfl rfl rfl ?_
   refine spf trivial rfl rfl rfl ?_
   refine sm trivial rfl rfl ?_
   refine St.nil fun a22 h22 => ?_
   exact hKC _ _ ⟨⟨false, by simp [hc21], (h22.keep (h22.keep (h22.keep (h22.keep (h22.keep (h22.keep (h22.keep (h22.keep h22.nil (t := 6) rfl) (t := 5) rfl) (t := 4) rfl) (t := 3) rfl) (t := 2) rfl) (t := 0) rfl) (t := 1) rfl) (t := 23) rfl)⟩, rfl⟩
  ·clear h15; rintro a23 _ ⟨⟨d1, hdd1, h23⟩, rfl⟩; replace hdd1 : Hid _ := hdd1
   refine cut_k 10 (fun a' w' => (∃ d2 : Bool, d2 = (d1 || (!fb && xb != 0)) ∧ Fr 137 a' [(33, .bool d2), (1, .agg #[.int .i64 xop, .int .i64 xa, .int .i64 xb, .int .i64 xc, .int .i64 xk, .int .i64 xn, .slice ra rl rc, .slice aa al ac]), (0, .agg #[.slice am lm cm]), (2, .pointer (some ⟨B2, 0, none⟩)), (3, .pointer (some ⟨B3, 0, none⟩)), (4, .int .i64 0), (5, .pointer (some ⟨B10, 0, none⟩)), (6, .bool true)]) ∧ w11 = w') (fun KC hKC => ?_) ?_
   ·rcases Bool.eq_false_or_eq_true d1 with hb | hb
    ·rw [hb] at h23
     have hc24 := hb
     clear hb
     refine St.go h23 ?_; clear h23 a23
     refine so hg8 rfl rfl rfl rfl ?_
     refine so hg8 rfl rfl rfl rfl ?_
     refine so hg8 rfl rfl rfl rfl ?_
     refine so hg8 rfl rfl rfl rfl ?_
     refine so hg12 rfl rfl rfl rfl ?_
     refine so hg12 rfl rfl rfl rfl ?_
     refine so hg12 rfl rfl rfl rfl ?_
     refine so hg8 rfl rfl rfl rfl ?_
     refine sp trivial rfl rfl rfl ?_
     refine sm trivial rfl rfl ?_
     refine St.nil fun a25 h25 => ?_
     exact hKC _ _ ⟨⟨true, by simp [hc24], (h25.keep (h25.keep (h25.keep (h25.keep (h25.keep (h25.keep (h25.keep (h25.keep h25.nil (t := 6) rfl) (t := 5) rfl) (t := 4) rfl) (t := 3) rfl) (t := 2) rfl) (t := 0) rfl) (t := 1) rfl) (t := 33) rfl)⟩, rfl⟩
    rw [hb] at h23
    have hc26 := hb
    clear hb
    refine St.go h23 ?_; clear h23 a23
    refine sfFields1 ⟨_, hg8, rfl, rfl⟩ rfl rfl ?_
    refine sbBool 0 hW11 ⟨_, hg8, rfl, rfl⟩ rfl rfl rfl rfl ?_
    refine sn ⟨_, hg8, rfl, rfl⟩ rfl rfl ?_
    refine sm ⟨_, hg8, rfl, rfl⟩ rfl rfl ?_
    intro a27 h27
    rcases Bool.eq_false_or_eq_true (!fb) with hb | hb
    ·rw [hb] at h27
     have hc28 : fb = false := by simpa using hb
     clear hb
     refine St.go h27 ?_; clear h27 a27
     refine sfIns2 ⟨_, hg12, rfl, rfl⟩ rfl rfl ?_
     refine sbInt 1 hW11 ⟨_, hg12, rfl, rfl⟩ rfl rfl rfl rfl ?_
     refine sne ⟨_, hg12, rfl, rfl⟩ rfl rfl rfl ?_
     refine sp ⟨_, hg8, rfl, rfl⟩ rfl rfl rfl ?_
     refine spf trivial rfl rfl rfl ?_
     refine sm trivial rfl rfl ?_
     refine St.nil fun a29 h29 => ?_
     exact hKC _ _ ⟨⟨xb != 0, by simp [hc26, hc28], (h29.keep (h29.keep (h29.keep (h29.keep (h29.keep (h29.keep (h29.keep (h29.keep h29.nil (t := 6) rfl) (t := 5) rfl) (t := 4) rfl) (t := 3) rfl) (t := 2) rfl) (t := 0) rfl) (t := 1) rfl) (t := 33) rfl)⟩, rfl⟩
    rw [hb] at h27
    have hc30 : fb = true := by simpa using hb
    clear hb
    refine St.go h27 ?_; clear h27 a27
    refine so hg12 rfl rfl rfl rfl ?_
    refine so hg12 rfl rfl rfl rfl ?_
    refine so hg12 rfl rfl rfl rfl ?_
    refine spf ⟨_, hg8, rfl, rfl⟩ rfl rfl rfl ?_
    refine spf trivial rfl rfl rfl ?_
    refine sm trivial rfl rfl ?_
    refine St.nil fun a31 h31 => ?_
    exact hKC _ _ ⟨⟨false, by simp [hc26, hc30], (h31.keep (h31.keep (h31.keep (h31.keep (h31.keep (h31.keep (h31.keep (h31.keep h31.nil (t := 6) rfl) (t := 5) rfl) (t := 4) rfl) (t := 3) rfl) (t := 2) rfl) (t := 0) rfl) (t := 1) rfl) (t := 33) rfl)⟩, rfl⟩
   ·clear h23; rintro a32 _ ⟨⟨d2, hdd2, h32⟩, rfl⟩; replace hdd2 : Hid _ := hdd2
    refine cut_k 10 (fun a' w' => (∃ d3 : Bool, d3 = (d2 || (!fc && xc != 0)) ∧ Fr 137 a' [(43, .bool d3), (1, .agg #[.int .i64 xop, .int .i64 xa, .int .i64 xb, .int .i64 xc, .int .i64 xk, .int .i64 xn, .slice ra rl rc, .slice aa al ac]), (0, .agg #[.slice am lm cm]), (2, .pointer (some ⟨B2, 0, none⟩)), (3, .pointer (some ⟨B3, 0, none⟩)), (4, .int .i64 0), (5, .pointer (some ⟨B10, 0, none⟩)), (6, .bool true)]) ∧ w11 = w') (fun KC hKC => ?_) ?_
    ·rcases Bool.eq_false_or_eq_true d2 with hb | hb
     ·rw [hb] at h32
      have hc33 := hb
      clear hb
      refine St.go h32 ?_; clear h32 a32
      refine so hg18 rfl rfl rfl rfl ?_
      refine so hg18 rfl rfl rfl rfl ?_
      refine so hg18 rfl rfl rfl rfl ?_
      refine so hg18 rfl rfl rfl rfl ?_
      refine so hg22 rfl rfl rfl rfl ?_
      refine so hg22 rfl rfl rfl rfl ?_
      refine so hg22 rfl rfl rfl rfl ?_
      refine so hg18 rfl rfl rfl rfl ?_
      refine sp trivial rfl rfl rfl ?_
      refine sm trivial rfl rfl ?_
      refine St.nil fun a34 h34 => ?_
      exact hKC _ _ ⟨⟨true, by simp [hc33], (h34.keep (h34.keep (h34.keep (h34.keep (h34.keep (h34.keep (h34.keep (h34.keep h34.nil (t := 6) rfl) (t := 5) rfl) (t := 4) rfl) (t := 3) rfl) (t := 2) rfl) (t := 0) rfl) (t := 1) rfl) (t := 43) rfl)⟩, rfl⟩
     rw [hb] at h32
     have hc35 := hb
     clear hb
     refine St.go h32 ?_; clear h32 a32
     refine sfFields2 ⟨_, hg18, rfl, rfl⟩ rfl rfl ?_
     refine sbBool 0 hW11 ⟨_, hg18, rfl, rfl⟩ rfl rfl rfl rfl ?_
     refine sn ⟨_, hg18, rfl, rfl⟩ rfl rfl ?_
     refine sm ⟨_, hg18, rfl, rfl⟩ rfl rfl ?_
     intro a36 h36
     rcases Bool.eq_false_or_eq_true (!fc) with hb | hb
     ·rw [hb] at h36
      have hc37 : fc = false := by simpa using hb
      clear hb
      refine St.go h36 ?_; clear h36 a36
      refine sfIns3 ⟨_, hg22, rfl, rfl⟩ rfl rfl ?_
      refine sbInt 1 hW11 ⟨_, hg22, rfl, rfl⟩ rfl rfl rfl rfl ?_
      refine sne ⟨_, hg22, rfl, rfl⟩ rfl rfl rfl ?_
      refine sp ⟨_, hg18, rfl, rfl⟩ rfl rfl rfl ?_
      refine spf trivial rfl rfl rfl ?_
      refine sm trivial rfl rfl ?_
      refine St.nil fun a38 h38 => ?_
      exact hKC _ _ ⟨⟨xc != 0, by simp [hc35, hc37], (h38.keep (h38.keep (h38.keep (h38.keep (h38.keep (h38.keep (h38.keep (h38.keep h38.nil (t := 6) rfl) (t := 5) rfl) (t := 4) rfl) (t := 3) rfl) (t := 2) rfl) (t := 0) rfl) (t := 1) rfl) (t := 43) rfl)⟩, rfl⟩
     rw [hb] at h36
     have hc39 : fc = true := by simpa using hb
     clear hb
     refine St.go h36 ?_; clear h36 a36
     refine so hg22 rfl rfl rfl rfl ?_
     refine so hg22 rfl rfl rfl rfl ?_
     refine so hg22 rfl rfl rfl rfl ?_
     refine spf ⟨_, hg18, rfl, rfl⟩ rfl rfl rfl ?_
     refine spf trivial rfl rfl rfl ?_
     refine sm trivial rfl rfl ?_
     refine St.nil fun a40 h40 => ?_
     exact hKC _ _ ⟨⟨false, by simp [hc35, hc39], (h40.keep (h40.keep (h40.keep (h40.keep (h40.keep (h40.keep (h40.keep (h40.keep h40.nil (t := 6) rfl) (t := 5) rfl) (t := 4) rfl) (t := 3) rfl) (t := 2) rfl) (t := 0) rfl) (t := 1) rfl) (t := 43) rfl)⟩, rfl⟩
    ·clear h32; rintro a41 _ ⟨⟨d3, hdd3, h41⟩, rfl⟩; replace hdd3 : Hid _ := hdd3
     refine cut_k 10 (fun a' w' => (∃ d4 : Bool, d4 = (d3 || (!fk && xk != 0)) ∧ Fr 137 a' [(53, .bool d4), (1, .agg #[.int .i64 xop, .int .i64 xa, .int .i64 xb, .int .i64 xc, .int .i64 xk, .int .i64 xn, .slice ra rl rc, .slice aa al ac]), (0, .agg #[.slice am lm cm]), (2, .pointer (some ⟨B2, 0, none⟩)), (3, .pointer (some ⟨B3, 0, none⟩)), (4, .int .i64 0), (5, .pointer (some ⟨B10, 0, none⟩)), (6, .bool true)]) ∧ w11 = w') (fun KC hKC => ?_) ?_
     ·rcases Bool.eq_false_or_eq_true d3 with hb | hb
      ·rw [hb] at h41
       have hc42 := hb
       clear hb
       refine St.go h41 ?_; clear h41 a41
       refine so hg28 rfl rfl rfl rfl ?_
       refine so hg28 rfl rfl rfl rfl ?_
       refine so hg28 rfl rfl rfl rfl ?_
       refine so hg28 rfl rfl rfl rfl ?_
       refine so hg32 rfl rfl rfl rfl ?_
       refine so hg32 rfl rfl rfl rfl ?_
       refine so hg32 rfl rfl rfl rfl ?_
       refine so hg28 rfl rfl rfl rfl ?_
       refine sp trivial rfl rfl rfl ?_
       refine sm trivial rfl rfl ?_
       refine St.nil fun a43 h43 => ?_
       exact hKC _ _ ⟨⟨true, by simp [hc42], (h43.keep (h43.keep (h43.keep (h43.keep (h43.keep (h43.keep (h43.keep (h43.keep h43.nil (t := 6) rfl) (t := 5) rfl) (t := 4) rfl) (t := 3) rfl) (t := 2) rfl) (t := 0) rfl) (t := 1) rfl) (t := 53) rfl)⟩, rfl⟩
      rw [hb] at h41
      have hc44 := hb
      clear hb
      refine St.go h41 ?_; clear h41 a41
      refine sfFields3 ⟨_, hg28, rfl, rfl⟩ rfl rfl ?_
      refine sbBool 0 hW11 ⟨_, hg28, rfl, rfl⟩ rfl rfl rfl rfl ?_
      refine sn ⟨_, hg28, rfl, rfl⟩ rfl rfl ?_
      refine sm ⟨_, hg28, rfl, rfl⟩ rfl rfl ?_
      intro a45 h45
      rcases Bool.eq_false_or_eq_true (!fk) with hb | hb
      ·rw [hb] at h45
       have hc46 : fk = false := by simpa using hb
       clear hb
       refine St.go h45 ?_; clear h45 a45
       refine sfIns4 ⟨_, hg32, rfl, rfl⟩ rfl rfl ?_
       refine sbInt 1 hW11 ⟨_, hg32, rfl, rfl⟩ rfl rfl rfl rfl ?_
       refine sne ⟨_, hg32, rfl, rfl⟩ rfl rfl rfl ?_
       refine sp ⟨_, hg28, rfl, rfl⟩ rfl rfl rfl ?_
       refine spf trivial rfl rfl rfl ?_
       refine sm trivial rfl rfl ?_
       refine St.nil fun a47 h47 => ?_
       exact hKC _ _ ⟨⟨xk != 0, by simp [hc44, hc46], (h47.keep (h47.keep (h47.keep (h47.keep (h47.keep (h47.keep (h47.keep (h47.keep h47.nil (t := 6) rfl) (t := 5) rfl) (t := 4) rfl) (t := 3) rfl) (t := 2) rfl) (t := 0) rfl) (t := 1) rfl) (t := 53) rfl)⟩, rfl⟩
      rw [hb] at h45
      have hc48 : fk = true := by simpa using hb
      clear hb
      refine St.go h45 ?_; clear h45 a45
      refine so hg32 rfl rfl rfl rfl ?_
      refine so hg32 rfl rfl rfl rfl ?_
      refine so hg32 rfl rfl rfl rfl ?_
      refine spf ⟨_, hg28, rfl, rfl⟩ rfl rfl rfl ?_
      refine spf trivial rfl rfl rfl ?_
      refine sm trivial rfl rfl ?_
      refine St.nil fun a49 h49 => ?_
      exact hKC _ _ ⟨⟨false, by simp [hc44, hc48], (h49.keep (h49.keep (h49.keep (h49.keep (h49.keep (h49.keep (h49.keep (h49.keep h49.nil (t := 6) rfl) (t := 5) rfl) (t := 4) rfl) (t := 3) rfl) (t := 2) rfl) (t := 0) rfl) (t := 1) rfl) (t := 53) rfl)⟩, rfl⟩
     ·clear h41; rintro a50 _ ⟨⟨d4, hdd4, h50⟩, rfl⟩; replace hdd4 : Hid _ := hdd4
      refine cut_k 10 (fun a' w' => (∃ d5 : Bool, d5 = (d4 || (!fn && xn != 0)) ∧ Fr 137 a' [(63, .bool d5), (1, .agg #[.int .i64 xop, .int .i64 xa, .int .i64 xb, .int .i64 xc, .int .i64 xk, .int .i64 xn, .slice ra rl rc, .slice aa al ac]), (0, .agg #[.slice am lm cm]), (2, .pointer (some ⟨B2, 0, none⟩)), (3, .pointer (some ⟨B3, 0, none⟩)), (4, .int .i64 0), (5, .pointer (some ⟨B10, 0, none⟩)), (6, .bool true)]) ∧ w11 = w') (fun KC hKC => ?_) ?_
      ·rcases Bool.eq_false_or_eq_true d4 with hb | hb
       ·rw [hb] at h50
        have hc51 := hb
        clear hb
        refine St.go h50 ?_; clear h50 a50
        refine so hg38 rfl rfl rfl rfl ?_
        refine so hg38 rfl rfl rfl rfl ?_
        refine so hg38 rfl rfl rfl rfl ?_
        refine so hg38 rfl rfl rfl rfl ?_
        refine so hg42 rfl rfl rfl rfl ?_
        refine so hg42 rfl rfl rfl rfl ?_
        refine so hg42 rfl rfl rfl rfl ?_
        refine so hg38 rfl rfl rfl rfl ?_
        refine sp trivial rfl rfl rfl ?_
        refine sm trivial rfl rfl ?_
        refine St.nil fun a52 h52 => ?_
        exact hKC _ _ ⟨⟨true, by simp [hc51], (h52.keep (h52.keep (h52.keep (h52.keep (h52.keep (h52.keep (h52.keep (h52.keep h52.nil (t := 6) rfl) (t := 5) rfl) (t := 4) rfl) (t := 3) rfl) (t := 2) rfl) (t := 0) rfl) (t := 1) rfl) (t := 63) rfl)⟩, rfl⟩
       rw [hb] at h50
       have hc53 := hb
       clear hb
       refine St.go h50 ?_; clear h50 a50
       refine sfFields4 ⟨_, hg38, rfl, rfl⟩ rfl rfl ?_
       refine sbBool 0 hW11 ⟨_, hg38, rfl, rfl⟩ rfl rfl rfl rfl ?_
       refine sn ⟨_, hg38, rfl, rfl⟩ rfl rfl ?_
       refine sm ⟨_, hg38, rfl, rfl⟩ rfl rfl ?_
       intro a54 h54
       rcases Bool.eq_false_or_eq_true (!fn) with hb | hb
       ·rw [hb] at h54
        have hc55 : fn = false := by simpa using hb
        clear hb
        refine St.go h54 ?_; clear h54 a54
        refine sfIns5 ⟨_, hg42, rfl, rfl⟩ rfl rfl ?_
        refine sbInt6 1 hW11 ⟨_, hg42, rfl, rfl⟩ rfl rfl rfl rfl ?_
        refine sne6 ⟨_, hg42, rfl, rfl⟩ rfl rfl rfl ?_
        refine sp ⟨_, hg38, rfl, rfl⟩ rfl rfl rfl ?_
        refine spf trivial rfl rfl rfl ?_
        refine sm trivial rfl rfl ?_
        refine St.nil fun a56 h56 => ?_
        exact hKC _ _ ⟨⟨xn != 0, by simp [hc53, hc55], (h56.keep (h56.keep (h56.keep (h56.keep (h56.keep (h56.keep (h56.keep (h56.keep h56.nil (t := 6) rfl) (t := 5) rfl) (t := 4) rfl) (t := 3) rfl) (t := 2) rfl) (t := 0) rfl) (t := 1) rfl) (t := 63) rfl)⟩, rfl⟩
       rw [hb] at h54
       have hc57 : fn = true := by simpa using hb
       clear hb
       refine St.go h54 ?_; clear h54 a54
       refine so hg42 rfl rfl rfl rfl ?_
       refine so hg42 rfl rfl rfl rfl ?_
       refine so hg42 rfl rfl rfl rfl ?_
       refine spf ⟨_, hg38, rfl, rfl⟩ rfl rfl rfl ?_
       refine spf trivial rfl rfl rfl ?_
       refine sm trivial rfl rfl ?_
       refine St.nil fun a58 h58 => ?_
       exact hKC _ _ ⟨⟨false, by simp [hc53, hc57], (h58.keep (h58.keep (h58.keep (h58.keep (h58.keep (h58.keep (h58.keep (h58.keep h58.nil (t := 6) rfl) (t := 5) rfl) (t := 4) rfl) (t := 3) rfl) (t := 2) rfl) (t := 0) rfl) (t := 1) rfl) (t := 63) rfl)⟩, rfl⟩
      ·clear h50; rintro a59 _ ⟨⟨d5, hdd5, h59⟩, rfl⟩; replace hdd5 : Hid _ := hdd5
       refine cut_k 11 (fun a' w' => (∃ d6 : Bool, d6 = (d5 || (!fr && decide ((0 : Int) < (rl : Int)))) ∧ Fr 137 a' [(74, .bool d6), (1, .agg #[.int .i64 xop, .int .i64 xa, .int .i64 xb, .int .i64 xc, .int .i64 xk, .int .i64 xn, .slice ra rl rc, .slice aa al ac]), (0, .agg #[.slice am lm cm]), (2, .pointer (some ⟨B2, 0, none⟩)), (3, .pointer (some ⟨B3, 0, none⟩)), (4, .int .i64 0), (5, .pointer (some ⟨B10, 0, none⟩)), (6, .bool true)]) ∧ w11 = w') (fun KC hKC => ?_) ?_
       ·rcases Bool.eq_false_or_eq_true d5 with hb | hb
        ·rw [hb] at h59
         have hc60 := hb
         clear hb
         refine St.go h59 ?_; clear h59 a59
         refine so hg48 rfl rfl rfl rfl ?_
         refine so hg48 rfl rfl rfl rfl ?_
         refine so hg48 rfl rfl rfl rfl ?_
         refine so hg48 rfl rfl rfl rfl ?_
         refine so hg52 rfl rfl rfl rfl ?_
         refine so hg52 rfl rfl rfl rfl ?_
         refine so hg52 rfl rfl rfl rfl ?_
         refine so hg52 rfl rfl rfl rfl ?_
         refine so hg48 rfl rfl rfl rfl ?_
         refine sp trivial rfl rfl rfl ?_
         refine sm trivial rfl rfl ?_
         refine St.nil fun a61 h61 => ?_
         exact hKC _ _ ⟨⟨true, by simp [hc60], (h61.keep (h61.keep (h61.keep (h61.keep (h61.keep (h61.keep (h61.keep (h61.keep h61.nil (t := 6) rfl) (t := 5) rfl) (t := 4) rfl) (t := 3) rfl) (t := 2) rfl) (t := 0) rfl) (t := 1) rfl) (t := 74) rfl)⟩, rfl⟩
        rw [hb] at h59
        have hc62 := hb
        clear hb
        refine St.go h59 ?_; clear h59 a59
        refine sfFields5 ⟨_, hg48, rfl, rfl⟩ rfl rfl ?_
        refine sbBool 0 hW11 ⟨_, hg48, rfl, rfl⟩ rfl rfl rfl rfl ?_
        refine sn ⟨_, hg48, rfl, rfl⟩ rfl rfl ?_
        refine sm ⟨_, hg48, rfl, rfl⟩ rfl rfl ?_
        intro a63 h63
        rcases Bool.eq_false_or_eq_true (!fr) with hb | hb
        ·rw [hb] at h63
         have hc64 : fr = false := by simpa using hb
         clear hb
         refine St.go h63 ?_; clear h63 a63
         refine sfIns6 ⟨_, hg52, rfl, rfl⟩ rfl rfl ?_
         refine sbInts 1 hW11 ⟨_, hg52, rfl, rfl⟩ rfl rfl rfl rfl ?_
         refine slInts ⟨_, hg52, rfl, rfl⟩ rfl rfl ?_
         refine sgt ⟨_, hg52, rfl, rfl⟩ rfl rfl rfl ?_
         refine sp ⟨_, hg48, rfl, rfl⟩ rfl rfl rfl ?_
         refine spf trivial rfl rfl rfl ?_
         refine sm trivial rfl rfl ?_
         refine St.nil fun a65 h65 => ?_
         exact hKC _ _ ⟨⟨decide (0 < (rl : Int)), by simp [hc62, hc64], (h65.keep (h65.keep (h65.keep (h65.keep (h65.keep (h65.keep (h65.keep (h65.keep h65.nil (t := 6) rfl) (t := 5) rfl) (t := 4) rfl) (t := 3) rfl) (t := 2) rfl) (t := 0) rfl) (t := 1) rfl) (t := 74) rfl)⟩, rfl⟩
        rw [hb] at h63
        have hc66 : fr = true := by simpa using hb
        clear hb
        refine St.go h63 ?_; clear h63 a63
        refine so hg52 rfl rfl rfl rfl ?_
        refine so hg52 rfl rfl rfl rfl ?_
        refine so hg52 rfl rfl rfl rfl ?_
        refine so hg52 rfl rfl rfl rfl ?_
        refine spf ⟨_, hg48, rfl, rfl⟩ rfl rfl rfl ?_
        refine spf trivial rfl rfl rfl ?_
        refine sm trivial rfl rfl ?_
        refine St.nil fun a67 h67 => ?_
        exact hKC _ _ ⟨⟨false, by simp [hc62, hc66], (h67.keep (h67.keep (h67.keep (h67.keep (h67.keep (h67.keep (h67.keep (h67.keep h67.nil (t := 6) rfl) (t := 5) rfl) (t := 4) rfl) (t := 3) rfl) (t := 2) rfl) (t := 0) rfl) (t := 1) rfl) (t := 74) rfl)⟩, rfl⟩
       ·clear h59; rintro a68 _ ⟨⟨d6, hdd6, h68⟩, rfl⟩; replace hdd6 : Hid _ := hdd6
        refine cut_k 10 (fun a' w' => (∃ d7 : Bool, d7 = (d6 || (!fs && decide ((0 : Int) < (al : Int)))) ∧ Fr 137 a' [(84, .bool d7), (1, .agg #[.int .i64 xop, .int .i64 xa, .int .i64 xb, .int .i64 xc, .int .i64 xk, .int .i64 xn, .slice ra rl rc, .slice aa al ac]), (0, .agg #[.slice am lm cm]), (2, .pointer (some ⟨B2, 0, none⟩)), (3, .pointer (some ⟨B3, 0, none⟩)), (4, .int .i64 0), (5, .pointer (some ⟨B10, 0, none⟩)), (6, .bool true)]) ∧ w11 = w') (fun KC hKC => ?_) ?_
        ·rcases Bool.eq_false_or_eq_true d6 with hb | hb
         ·rw [hb] at h68
          have hc69 := hb
          clear hb
          refine St.go h68 ?_; clear h68 a68
          refine so hg59 rfl rfl rfl rfl ?_
          refine so hg59 rfl rfl rfl rfl ?_
          refine so hg59 rfl rfl rfl rfl ?_
          refine so hg59 rfl rfl rfl rfl ?_
          refine so hg63 rfl rfl rfl rfl ?_
          refine so hg63 rfl rfl rfl rfl ?_
          refine so hg63 rfl rfl rfl rfl ?_
          refine so hg63 rfl rfl rfl rfl ?_
          refine so hg59 rfl rfl rfl rfl ?_
          refine sp trivial rfl rfl rfl ?_
          refine St.nil fun a70 h70 => ?_
          exact hKC _ _ ⟨⟨true, by simp [hc69], (h70.keep (h70.keep (h70.keep (h70.keep (h70.keep (h70.keep (h70.keep (h70.keep h70.nil (t := 6) rfl) (t := 5) rfl) (t := 4) rfl) (t := 3) rfl) (t := 2) rfl) (t := 0) rfl) (t := 1) rfl) (t := 84) rfl)⟩, rfl⟩
         rw [hb] at h68
         have hc71 := hb
         clear hb
         refine St.go h68 ?_; clear h68 a68
         refine sfFields6 ⟨_, hg59, rfl, rfl⟩ rfl rfl ?_
         refine sbBool 0 hW11 ⟨_, hg59, rfl, rfl⟩ rfl rfl rfl rfl ?_
         refine sn ⟨_, hg59, rfl, rfl⟩ rfl rfl ?_
         refine sm ⟨_, hg59, rfl, rfl⟩ rfl rfl ?_
         intro a72 h72
         rcases Bool.eq_false_or_eq_true (!fs) with hb | hb
         ·rw [hb] at h72
          have hc73 : fs = false := by simpa using hb
          clear hb
          refine St.go h72 ?_; clear h72 a72
          refine sfIns7 ⟨_, hg63, rfl, rfl⟩ rfl rfl ?_
          refine sbInts 1 hW11 ⟨_, hg63, rfl, rfl⟩ rfl rfl rfl rfl ?_
          refine slInts ⟨_, hg63, rfl, rfl⟩ rfl rfl ?_
          refine sgt ⟨_, hg63, rfl, rfl⟩ rfl rfl rfl ?_
          refine sp ⟨_, hg59, rfl, rfl⟩ rfl rfl rfl ?_
          refine spf trivial rfl rfl rfl ?_
          refine St.nil fun a74 h74 => ?_
          exact hKC _ _ ⟨⟨decide (0 < (al : Int)), by simp [hc71, hc73], (h74.keep (h74.keep (h74.keep (h74.keep (h74.keep (h74.keep (h74.keep (h74.keep h74.nil (t := 6) rfl) (t := 5) rfl) (t := 4) rfl) (t := 3) rfl) (t := 2) rfl) (t := 0) rfl) (t := 1) rfl) (t := 84) rfl)⟩, rfl⟩
         rw [hb] at h72
         have hc75 : fs = true := by simpa using hb
         clear hb
         refine St.go h72 ?_; clear h72 a72
         refine so hg63 rfl rfl rfl rfl ?_
         refine so hg63 rfl rfl rfl rfl ?_
         refine so hg63 rfl rfl rfl rfl ?_
         refine so hg63 rfl rfl rfl rfl ?_
         refine spf ⟨_, hg59, rfl, rfl⟩ rfl rfl rfl ?_
         refine spf trivial rfl rfl rfl ?_
         refine St.nil fun a76 h76 => ?_
         exact hKC _ _ ⟨⟨false, by simp [hc71, hc75], (h76.keep (h76.keep (h76.keep (h76.keep (h76.keep (h76.keep (h76.keep (h76.keep h76.nil (t := 6) rfl) (t := 5) rfl) (t := 4) rfl) (t := 3) rfl) (t := 2) rfl) (t := 0) rfl) (t := 1) rfl) (t := 84) rfl)⟩, rfl⟩
        ·clear h68; rintro a77 _ ⟨⟨d7, hdd7, h77⟩, rfl⟩; replace hdd7 : Hid _ := hdd7
         refine wpList_nil ?_
         refine hK17 _ _ ?_
         refine fr_cond (t := 84) h77 rfl (fun hb => ?_) (fun hb => ?_)
         ·have hc78 := hb
          clear hb
          refine wp_seq_k fun K79 hK79 => ?_
          refine rg h77 fun ops => ?_; clear h77 a77
          refine sa trivial rfl rfl ?_
          refine St.nil fun a80 h80 => ?_
          refine hK79 _ _ ?_
          refine wp_ret ?_; with_reducible repeat first | refine of_then_ret ?_ | refine of_block_ret ?_
          have e7 := insForm_d hop hdd1.out hdd2.out hdd3.out hdd4.out hdd5.out hdd6.out hdd7.out (lm := lm)
          have R : insForm lm xop xa xb xc xk xn rl al = 4 := by rw [e7]; simp [hc78]
          exact ret_tmp (t := 4) h80 rfl rfl ⟨by rw [R], hW11.bel⟩
         have hc81 := hb
         clear hb
         refine wp_skip ?_
         refine hK16 _ _ ?_
         refine wp_seq_k fun K82 hK82 => ?_
         refine wp_seq_k fun K83 hK83 => ?_
         refine rg h77 fun ops => ?_; clear h77 a77
         refine sfIns0 trivial rfl rfl ?_
         refine sbInt 1 hW11 trivial rfl rfl rfl rfl ?_
         refine St.nil fun a84 h84 => ?_
         refine hK83 _ _ ?_
         refine wp_block ?_
         refine wp_seq_k fun K85 hK85 => ?_
         refine rg h84 fun ops => ?_; clear h84 a84
         refine seq trivial rfl rfl rfl ?_
         refine sa trivial rfl rfl ?_
         refine St.nil fun a86 h86 => ?_
         refine hK85 _ _ ?_
         refine fr_cond (t := 87) h86 rfl (fun hb => ?_) (fun hb => ?_)
         ·have h9 : xop = 2 := eq_of_beq hb
          have hc87 : Hid (xop = 2) := h9
          clear h9
          clear hb
          refine wp_seq_k fun K88 hK88 => ?_
          refine fr_region ?_
          intro ops hops
          have hg3 : (ops[3]?).bind (fun o : Oper => o.dst) = some 92 := hops 3
          clear hops
          refine St.go h86 ?_; clear h86 a86
          refine sfIns4 trivial rfl rfl ?_
          refine sbInt 1 hW11 trivial rfl rfl rfl rfl ?_
          refine slt trivial rfl rfl rfl ?_
          refine sm trivial rfl rfl ?_
          intro a89 h89
          rcases Bool.eq_false_or_eq_true (decide (xk < 1)) with hb | hb
          ·rw [hb] at h89
           have hc90 : xk < 1 := of_decide_eq_true hb
           clear hb
           refine St.go h89 ?_; clear h89 a89
           refine so hg3 rfl rfl rfl rfl ?_
           refine so hg3 rfl rfl rfl rfl ?_
           refine so hg3 rfl rfl rfl rfl ?_
           refine sp trivial rfl rfl rfl ?_
           refine St.nil fun a91 h91 => ?_
           refine hK88 _ _ ?_
           refine fr_true (t := 96) h91 rfl ?_
           refine wp_seq_k fun K92 hK92 => ?_
           refine rg h91 fun ops => ?_; clear h91 a91
           refine sa trivial rfl rfl ?_
           refine St.nil fun a93 h93 => ?_
           refine hK92 _ _ ?_
           refine wp_ret ?_; with_reducible repeat first | refine of_then_ret ?_ | refine of_block_ret ?_
           have e7 := insForm_d hop hdd1.out hdd2.out hdd3.out hdd4.out hdd5.out hdd6.out hdd7.out (lm := lm)
           have R : insForm lm xop xa xb xc xk xn rl al = 1 := by rw [e7]; simp [hc81, hc87.out, hc90]
           exact ret_tmp (t := 4) h93 rfl rfl ⟨by rw [R], hW11.bel⟩
          rw [hb] at h89
          have hc94 : ¬ (xk < 1) := of_decide_eq_false hb
          clear hb
          refine St.go h89 ?_; clear h89 a89
          refine sfIns4 ⟨_, hg3, rfl, rfl⟩ rfl rfl ?_
          refine sbInt 1 hW11 ⟨_, hg3, rfl, rfl⟩ rfl rfl rfl rfl ?_
          refine sgt ⟨_, hg3, rfl, rfl⟩ rfl rfl rfl ?_
          refine spf trivial rfl rfl rfl ?_
          refine St.nil fun a95 h95 => ?_
          refine hK88 _ _ ?_
          refine fr_cond (t := 96) h95 rfl (fun hb => ?_) (fun hb => ?_)
          ·have hc96 : 9 < xk := of_decide_eq_true hb
           clear hb
           refine wp_seq_k fun K97 hK97 => ?_
           refine rg h95 fun ops => ?_; clear h95 a95
           refine sa trivial rfl rfl ?_
           refine St.nil fun a98 h98 => ?_
           refine hK97 _ _ ?_
           refine wp_ret ?_; with_reducible repeat first | refine of_then_ret ?_ | refine of_block_ret ?_
           have e7 := insForm_d hop hdd1.out hdd2.out hdd3.out hdd4.out hdd5.out hdd6.out hdd7.out (lm := lm)
           have R : insForm lm xop xa xb xc xk xn rl al = 1 := by rw [e7]; simp [hc81, hc87.out, hc94, hc96]
           exact ret_tmp (t := 4) h98 rfl rfl ⟨by rw [R], hW11.bel⟩
          have hc99 : ¬ (9 < xk) := of_decide_eq_false hb
          clear hb
          refine wp_skip ?_
          refine hK82 _ _ ?_
          refine wp_seq_k fun K100 hK100 => ?_
          refine rg h95 fun ops => ?_; clear h95 a95
          refine sa trivial rfl rfl ?_
          refine St.nil fun a101 h101 => ?_
          refine hK100 _ _ ?_
          refine wp_ret ?_; with_reducible repeat first | refine of_then_ret ?_ | refine of_block_ret ?_
          have e7 := insForm_d hop hdd1.out hdd2.out hdd3.out hdd4.out hdd5.out hdd6.out hdd7.out (lm := lm)
          have R : insForm lm xop xa xb xc xk xn rl al = 0 := by rw [e7]; simp [hc81, hc87.out, hc94, hc99]
          exact ret_tmp (t := 4) h101 rfl rfl ⟨by rw [R], hW11.bel⟩
         have h9 : ¬ xop = 2 := ne_of_beq_false hb
         have hc102 : ¬ xop = 2 := h9
         clear h9
         clear hb
         refine wp_seq_k fun K103 hK103 => ?_
         refine rg h86 fun ops => ?_; clear h86 a86
         refine seq trivial rfl rfl rfl ?_
         refine sa trivial rfl rfl ?_
         refine St.nil fun a104 h104 => ?_
         refine hK103 _ _ ?_
         refine fr_cond (t := 97) h104 rfl (fun hb => ?_) (fun hb => ?_)
         ·have h9 : xop = 5 := eq_of_beq hb
          have hc105 : Hid (xop = 5) := h9
          clear h9
          clear hb
          refine wp_seq_k fun K106 hK106 => ?_
          refine rg h104 fun ops => ?_; clear h104 a104
          refine sfIns7 trivial rfl rfl ?_
          refine sbInts 1 hW11 trivial rfl rfl rfl rfl ?_
          refine slInts trivial rfl rfl ?_
          refine sgt trivial rfl rfl rfl ?_
          refine St.nil fun a107 h107 => ?_
          refine hK106 _ _ ?_
          refine fr_cond (t := 102) h107 rfl (fun hb => ?_) (fun hb => ?_)
          ·have hc108 : 8 < al := by have := of_decide_eq_true hb; omega
           clear hb
           refine wp_seq_k fun K109 hK109 => ?_
           refine rg h107 fun ops => ?_; clear h107 a107
           refine sa trivial rfl rfl ?_
           refine St.nil fun a110 h110 => ?_
           refine hK109 _ _ ?_
           refine wp_ret ?_; with_reducible repeat first | refine of_then_ret ?_ | refine of_block_ret ?_
           have e7 := insForm_d hop hdd1.out hdd2.out hdd3.out hdd4.out hdd5.out hdd6.out hdd7.out (lm := lm)
           have R : insForm lm xop xa xb xc xk xn rl al = 2 := by rw [e7]; simp [hc81, hc102, hc105.out, hc108]
           exact ret_tmp (t := 4) h110 rfl rfl ⟨by rw [R], hW11.bel⟩
          have hc111 : ¬ (8 < al) := by have := of_decide_eq_false hb; omega
          clear hb
          refine wp_skip ?_
          refine hK82 _ _ ?_
          refine wp_seq_k fun K112 hK112 => ?_
          refine rg h107 fun ops => ?_; clear h107 a107
          refine sa trivial rfl rfl ?_
          refine St.nil fun a113 h113 => ?_
          refine hK112 _ _ ?_
          refine wp_ret ?_; with_reducible repeat first | refine of_then_ret ?_ | refine of_block_ret ?_
          have e7 := insForm_d hop hdd1.out hdd2.out hdd3.out hdd4.out hdd5.out hdd6.out hdd7.out (lm := lm)
          have R : insForm lm xop xa xb xc xk xn rl al = 0 := by rw [e7]; simp [hc81, hc102, hc105.out, hc111]
          exact ret_tmp (t := 4) h113 rfl rfl ⟨by rw [R], hW11.bel⟩
         have h9 : ¬ xop = 5 := ne_of_beq_false hb
         have hc114 : ¬ xop = 5 := h9
         clear h9
         clear hb
         refine wp_seq_k fun K115 hK115 => ?_
         refine wp_seq_k fun K116 hK116 => ?_
         refine rg h104 fun ops => ?_; clear h104 a104
         refine seq trivial rfl rfl rfl ?_
         refine sa trivial rfl rfl ?_
         refine St.nil fun a117 h117 => ?_
         refine hK116 _ _ ?_
         refine fr_cond (t := 103) h117 rfl (fun hb => ?_) (fun hb => ?_)
         ·rw [hb] at h117
          have h9 : xop = 6 := eq_of_beq hb
          have hc118 : Hid (xop = 6) := h9
          clear h9
          clear hb
          refine wp_skip ?_
          refine hK115 _ _ ?_
          refine fr_true (t := 103) h117 rfl ?_
          refine wp_seq_k fun K119 hK119 => ?_
          refine fr_region ?_
          intro ops hops
          have hg3 : (ops[3]?).bind (fun o : Oper => o.dst) = some 109 := hops 3
          clear hops
          refine St.go h117 ?_; clear h117 a117
          refine sfIns4 trivial rfl rfl ?_
          refine sbInt 1 hW11 trivial rfl rfl rfl rfl ?_
          refine slt trivial rfl rfl rfl ?_
          refine sm trivial rfl rfl ?_
          intro a120 h120
          rcases Bool.eq_false_or_eq_true (decide (xk < 0)) with hb | hb
          ·rw [hb] at h120
           have hc121 : xk < 0 := of_decide_eq_true hb
           clear hb
           refine St.go h120 ?_; clear h120 a120
           refine so hg3 rfl rfl rfl rfl ?_
           refine so hg3 rfl rfl rfl rfl ?_
           refine so hg3 rfl rfl rfl rfl ?_
           refine sp trivial rfl rfl rfl ?_
           refine St.nil fun a122 h122 => ?_
           refine hK119 _ _ ?_
           refine fr_true (t := 113) h122 rfl ?_
           refine wp_seq_k fun K123 hK123 => ?_
           refine rg h122 fun ops => ?_; clear h122 a122
           refine sa trivial rfl rfl ?_
           refine St.nil fun a124 h124 => ?_
           refine hK123 _ _ ?_
           refine wp_ret ?_; with_reducible repeat first | refine of_then_ret ?_ | refine of_block_ret ?_
           have e7 := insForm_d hop hdd1.out hdd2.out hdd3.out hdd4.out hdd5.out hdd6.out hdd7.out (lm := lm)
           have R : insForm lm xop xa xb xc xk xn rl al = 1 := by rw [e7]; simp [hc81, hc102, hc114, hc118.out, hc121]
           exact ret_tmp (t := 4) h124 rfl rfl ⟨by rw [R], hW11.bel⟩
          rw [hb] at h120
          have hc125 : ¬ (xk < 0) := of_decide_eq_false hb
          clear hb
          refine St.go h120 ?_; clear h120 a120
          refine sfIns4 ⟨_, hg3, rfl, rfl⟩ rfl rfl ?_
          refine sbInt 1 hW11 ⟨_, hg3, rfl, rfl⟩ rfl rfl rfl rfl ?_
          refine sgt ⟨_, hg3, rfl, rfl⟩ rfl rfl rfl ?_
          refine spf trivial rfl rfl rfl ?_
          refine St.nil fun a126 h126 => ?_
          refine hK119 _ _ ?_
          refine fr_cond (t := 113) h126 rfl (fun hb => ?_) (fun hb => ?_)
          ·have hc127 : 7 < xk := of_decide_eq_true hb
           clear hb
           refine wp_seq_k fun K128 hK128 => ?_
           refine rg h126 fun ops => ?_; clear h126 a126
           refine sa trivial rfl rfl ?_
           refine St.nil fun a129 h129 => ?_
           refine hK128 _ _ ?_
           refine wp_ret ?_; with_reducible repeat first | refine of_then_ret ?_ | refine of_block_ret ?_
           have e7 := insForm_d hop hdd1.out hdd2.out hdd3.out hdd4.out hdd5.out hdd6.out hdd7.out (lm := lm)
           have R : insForm lm xop xa xb xc xk xn rl al = 1 := by rw [e7]; simp [hc81, hc102, hc114, hc118.out, hc125, hc127]
           exact ret_tmp (t := 4) h129 rfl rfl ⟨by rw [R], hW11.bel⟩
          have hc130 : ¬ (7 < xk) := of_decide_eq_false hb
          clear hb
          refine wp_skip ?_
          refine hK82 _ _ ?_
          refine wp_seq_k fun K131 hK131 => ?_
          refine rg h126 fun ops => ?_; clear h126 a126
          refine sa trivial rfl rfl ?_
          refine St.nil fun a132 h132 => ?_
          refine hK131 _ _ ?_
          refine wp_ret ?_; with_reducible repeat first | refine of_then_ret ?_ | refine of_block_ret ?_
          have e7 := insForm_d hop hdd1.out hdd2.out hdd3.out hdd4.out hdd5.out hdd6.out hdd7.out (lm := lm)
          have R : insForm lm xop xa xb xc xk xn rl al = 0 := by rw [e7]; simp [hc81, hc102, hc114, hc118.out, hc125, hc130]
          exact ret_tmp (t := 4) h132 rfl rfl ⟨by rw [R], hW11.bel⟩
         rw [hb] at h117
         have h9 : ¬ xop = 6 := ne_of_beq_false hb
         have hc133 : ¬ xop = 6 := h9
         clear h9
         clear hb
         refine rg h117 fun ops => ?_; clear h117 a117
         refine seq trivial rfl rfl rfl ?_
         refine sa trivial rfl rfl ?_
         refine St.nil fun a134 h134 => ?_
         refine hK115 _ _ ?_
         refine fr_cond (t := 103) h134 rfl (fun hb => ?_) (fun hb => ?_)
         ·rw [hb] at h134
          have h9 : xop = 7 := eq_of_beq hb
          have hc135 : Hid (xop = 7) := h9
          clear h9
          clear hb
          refine wp_seq_k fun K136 hK136 => ?_
          refine fr_region ?_
          intro ops hops
          have hg3 : (ops[3]?).bind (fun o : Oper => o.dst) = some 109 := hops 3
          clear hops
          refine St.go h134 ?_; clear h134 a134
          refine sfIns4 trivial rfl rfl ?_
          refine sbInt 1 hW11 trivial rfl rfl rfl rfl ?_
          refine slt trivial rfl rfl rfl ?_
          refine sm trivial rfl rfl ?_
          intro a137 h137
          rcases Bool.eq_false_or_eq_true (decide (xk < 0)) with hb | hb
          ·rw [hb] at h137
           have hc138 : xk < 0 := of_decide_eq_true hb
           clear hb
           refine St.go h137 ?_; clear h137 a137
           refine so hg3 rfl rfl rfl rfl ?_
           refine so hg3 rfl rfl rfl rfl ?_
           refine so hg3 rfl rfl rfl rfl ?_
           refine sp trivial rfl rfl rfl ?_
           refine St.nil fun a139 h139 => ?_
           refine hK136 _ _ ?_
           refine fr_true (t := 113) h139 rfl ?_
           refine wp_seq_k fun K140 hK140 => ?_
           refine rg h139 fun ops => ?_; clear h139 a139
           refine sa trivial rfl rfl ?_
           refine St.nil fun a141 h141 => ?_
           refine hK140 _ _ ?_
           refine wp_ret ?_; with_reducible repeat first | refine of_then_ret ?_ | refine of_block_ret ?_
           have e7 := insForm_d hop hdd1.out hdd2.out hdd3.out hdd4.out hdd5.out hdd6.out hdd7.out (lm := lm)
           have R : insForm lm xop xa xb xc xk xn rl al = 1 := by rw [e7]; simp [hc81, hc102, hc114, hc133, hc135.out, hc138]
           exact ret_tmp (t := 4) h141 rfl rfl ⟨by rw [R], hW11.bel⟩
          rw [hb] at h137
          have hc142 : ¬ (xk < 0) := of_decide_eq_false hb
          clear hb
          refine St.go h137 ?_; clear h137 a137
          refine sfIns4 ⟨_, hg3, rfl, rfl⟩ rfl rfl ?_
          refine sbInt 1 hW11 ⟨_, hg3, rfl, rfl⟩ rfl rfl rfl rfl ?_
          refine sgt ⟨_, hg3, rfl, rfl⟩ rfl rfl rfl ?_
          refine spf trivial rfl rfl rfl ?_
          refine St.nil fun a143 h143 => ?_
          refine hK136 _ _ ?_
          refine fr_cond (t := 113) h143 rfl (fun hb => ?_) (fun hb => ?_)
          ·have hc144 : 7 < xk := of_decide_eq_true hb
           clear hb
           refine wp_seq_k fun K145 hK145 => ?_
           refine rg h143 fun ops => ?_; clear h143 a143
           refine sa trivial rfl rfl ?_
           refine St.nil fun a146 h146 => ?_
           refine hK145 _ _ ?_
           refine wp_ret ?_; with_reducible repeat first | refine of_then_ret ?_ | refine of_block_ret ?_
           have e7 := insForm_d hop hdd1.out hdd2.out hdd3.out hdd4.out hdd5.out hdd6.out hdd7.out (lm := lm)
           have R : insForm lm xop xa xb xc xk xn rl al = 1 := by rw [e7]; simp [hc81, hc102, hc114, hc133, hc135.out, hc142, hc144]
           exact ret_tmp (t := 4) h146 rfl rfl ⟨by rw [R], hW11.bel⟩
          have hc147 : ¬ (7 < xk) := of_decide_eq_false hb
          clear hb
          refine wp_skip ?_
          refine hK82 _ _ ?_
          refine wp_seq_k fun K148 hK148 => ?_
          refine rg h143 fun ops => ?_; clear h143 a143
          refine sa trivial rfl rfl ?_
          refine St.nil fun a149 h149 => ?_
          refine hK148 _ _ ?_
          refine wp_ret ?_; with_reducible repeat first | refine of_then_ret ?_ | refine of_block_ret ?_
          have e7 := insForm_d hop hdd1.out hdd2.out hdd3.out hdd4.out hdd5.out hdd6.out hdd7.out (lm := lm)
          have R : insForm lm xop xa xb xc xk xn rl al = 0 := by rw [e7]; simp [hc81, hc102, hc114, hc133, hc135.out, hc142, hc147]
          exact ret_tmp (t := 4) h149 rfl rfl ⟨by rw [R], hW11.bel⟩
         rw [hb] at h134
         have h9 : ¬ xop = 7 := ne_of_beq_false hb
         have hc150 : ¬ xop = 7 := h9
         clear h9
         clear hb
         refine wp_seq_k fun K151 hK151 => ?_
         refine rg h134 fun ops => ?_; clear h134 a134
         refine seq trivial rfl rfl rfl ?_
         refine sa trivial rfl rfl ?_
         refine St.nil fun a152 h152 => ?_
         refine hK151 _ _ ?_
         refine fr_cond (t := 114) h152 rfl (fun hb => ?_) (fun hb => ?_)
         ·have h9 : xop = 14 := eq_of_beq hb
          have hc153 : Hid (xop = 14) := h9
          clear h9
          clear hb
          refine wp_seq_k fun K154 hK154 => ?_
          refine wp_seq_k fun K155 hK155 => ?_
          refine fr_region ?_
          intro ops hops
          have hg3 : (ops[3]?).bind (fun o : Oper => o.dst) = some 119 := hops 3
          clear hops
          refine St.go h152 ?_; clear h152 a152
          refine sfIns4 trivial rfl rfl ?_
          refine sbInt 1 hW11 trivial rfl rfl rfl rfl ?_
          refine slt trivial rfl rfl rfl ?_
          refine sm trivial rfl rfl ?_
          intro a156 h156
          rcases Bool.eq_false_or_eq_true (decide (xk < 0)) with hb | hb
          ·rw [hb] at h156
           have hc157 : xk < 0 := of_decide_eq_true hb
           clear hb
           refine St.go h156 ?_; clear h156 a156
           refine so hg3 rfl rfl rfl rfl ?_
           refine so hg3 rfl rfl rfl rfl ?_
           refine so hg3 rfl rfl rfl rfl ?_
           refine so hg3 rfl rfl rfl rfl ?_
           refine so hg3 rfl rfl rfl rfl ?_
           refine so hg3 rfl rfl rfl rfl ?_
           refine sp trivial rfl rfl rfl ?_
           refine St.nil fun a158 h158 => ?_
           refine hK155 _ _ ?_
           refine fr_true (t := 126) h158 rfl ?_
           refine wp_seq_k fun K159 hK159 => ?_
           refine rg h158 fun ops => ?_; clear h158 a158
           refine sa trivial rfl rfl ?_
           refine St.nil fun a160 h160 => ?_
           refine hK159 _ _ ?_
           refine wp_ret ?_; with_reducible repeat first | refine of_then_ret ?_ | refine of_block_ret ?_
           have e7 := insForm_d hop hdd1.out hdd2.out hdd3.out hdd4.out hdd5.out hdd6.out hdd7.out (lm := lm)
           have R : insForm lm xop xa xb xc xk xn rl al = 1 := by rw [e7]; simp [hc81, hc102, hc114, hc133, hc150, hc153.out, hc157]
           exact ret_tmp (t := 4) h160 rfl rfl ⟨by rw [R], hW11.bel⟩
          rw [hb] at h156
          have hc161 : ¬ (xk < 0) := of_decide_eq_false hb
          clear hb
          refine St.go h156 ?_; clear h156 a156
          refine sfIns4 ⟨_, hg3, rfl, rfl⟩ rfl rfl ?_
          refine sbInt 1 hW11 ⟨_, hg3, rfl, rfl⟩ rfl rfl rfl rfl ?_
          refine sfModule0 ⟨_, hg3, rfl, rfl⟩ rfl rfl ?_
          refine sbFuncs 2 hW11 ⟨_, hg3, rfl, rfl⟩ rfl rfl rfl rfl ?_
          refine slFuncs ⟨_, hg3, rfl, rfl⟩ rfl rfl ?_
          refine sge ⟨_, hg3, rfl, rfl⟩ rfl rfl rfl ?_
          refine spf trivial rfl rfl rfl ?_
          refine St.nil fun a162 h162 => ?_
          refine hK155 _ _ ?_
          refine fr_cond (t := 126) h162 rfl (fun hb => ?_) (fun hb => ?_)
          ·have hc163 : (lm : Int) ≤ xk := of_decide_eq_true hb
           clear hb
           refine wp_seq_k fun K164 hK164 => ?_
           refine rg h162 fun ops => ?_; clear h162 a162
           refine sa trivial rfl rfl ?_
           refine St.nil fun a165 h165 => ?_
           refine hK164 _ _ ?_
           refine wp_ret ?_; with_reducible repeat first | refine of_then_ret ?_ | refine of_block_ret ?_
           have e7 := insForm_d hop hdd1.out hdd2.out hdd3.out hdd4.out hdd5.out hdd6.out hdd7.out (lm := lm)
           have R : insForm lm xop xa xb xc xk xn rl al = 1 := by rw [e7]; simp [hc81, hc102, hc114, hc133, hc150, hc153.out, hc161, hc163]
           exact ret_tmp (t := 4) h165 rfl rfl ⟨by rw [R], hW11.bel⟩
          have hc166 : ¬ ((lm : Int) ≤ xk) := of_decide_eq_false hb
          clear hb
          refine wp_skip ?_
          refine hK154 _ _ ?_
          refine wp_seq_k fun K167 hK167 => ?_
          refine fr_region ?_
          intro ops hops
          have hg4 : (ops[4]?).bind (fun o : Oper => o.dst) = some 131 := hops 4
          clear hops
          refine St.go h162 ?_; clear h162 a162
          refine sfIns6 trivial rfl rfl ?_
          refine sbInts 1 hW11 trivial rfl rfl rfl rfl ?_
          refine slInts trivial rfl rfl ?_
          refine sgt trivial rfl rfl rfl ?_
          refine sm trivial rfl rfl ?_
          intro a168 h168
          rcases Bool.eq_false_or_eq_true (decide (6 < (rl : Int))) with hb | hb
          ·rw [hb] at h168
           have hc169 : 6 < rl := by have := of_decide_eq_true hb; omega
           clear hb
           refine St.go h168 ?_; clear h168 a168
           refine so hg4 rfl rfl rfl rfl ?_
           refine so hg4 rfl rfl rfl rfl ?_
           refine so hg4 rfl rfl rfl rfl ?_
           refine so hg4 rfl rfl rfl rfl ?_
           refine sp trivial rfl rfl rfl ?_
           refine St.nil fun a170 h170 => ?_
           refine hK167 _ _ ?_
           refine fr_true (t := 136) h170 rfl ?_
           refine wp_seq_k fun K171 hK171 => ?_
           refine rg h170 fun ops => ?_; clear h170 a170
           refine sa trivial rfl rfl ?_
           refine St.nil fun a172 h172 => ?_
           refine hK171 _ _ ?_
           refine wp_ret ?_; with_reducible repeat first | refine of_then_ret ?_ | refine of_block_ret ?_
           have e7 := insForm_d hop hdd1.out hdd2.out hdd3.out hdd4.out hdd5.out hdd6.out hdd7.out (lm := lm)
           have R : insForm lm xop xa xb xc xk xn rl al = 2 := by rw [e7]; simp [hc81, hc102, hc114, hc133, hc150, hc153.out, hc161, hc166, hc169]
           exact ret_tmp (t := 4) h172 rfl rfl ⟨by rw [R], hW11.bel⟩
          rw [hb] at h168
          have hc173 : ¬ (6 < rl) := by have := of_decide_eq_false hb; omega
          clear hb
          refine St.go h168 ?_; clear h168 a168
          refine sfIns7 ⟨_, hg4, rfl, rfl⟩ rfl rfl ?_
          refine sbInts 1 hW11 ⟨_, hg4, rfl, rfl⟩ rfl rfl rfl rfl ?_
          refine slInts ⟨_, hg4, rfl, rfl⟩ rfl rfl ?_
          refine sgt ⟨_, hg4, rfl, rfl⟩ rfl rfl rfl ?_
          refine spf trivial rfl rfl rfl ?_
          refine St.nil fun a174 h174 => ?_
          refine hK167 _ _ ?_
          refine fr_cond (t := 136) h174 rfl (fun hb => ?_) (fun hb => ?_)
          ·have hc175 : 8 < al := by have := of_decide_eq_true hb; omega
           clear hb
           refine wp_seq_k fun K176 hK176 => ?_
           refine rg h174 fun ops => ?_; clear h174 a174
           refine sa trivial rfl rfl ?_
           refine St.nil fun a177 h177 => ?_
           refine hK176 _ _ ?_
           refine wp_ret ?_; with_reducible repeat first | refine of_then_ret ?_ | refine of_block_ret ?_
           have e7 := insForm_d hop hdd1.out hdd2.out hdd3.out hdd4.out hdd5.out hdd6.out hdd7.out (lm := lm)
           have R : insForm lm xop xa xb xc xk xn rl al = 2 := by rw [e7]; simp [hc81, hc102, hc114, hc133, hc150, hc153.out, hc161, hc166, hc173, hc175]
           exact ret_tmp (t := 4) h177 rfl rfl ⟨by rw [R], hW11.bel⟩
          have hc178 : ¬ (8 < al) := by have := of_decide_eq_false hb; omega
          clear hb
          refine wp_skip ?_
          refine hK82 _ _ ?_
          refine wp_seq_k fun K179 hK179 => ?_
          refine rg h174 fun ops => ?_; clear h174 a174
          refine sa trivial rfl rfl ?_
          refine St.nil fun a180 h180 => ?_
          refine hK179 _ _ ?_
          refine wp_ret ?_; with_reducible repeat first | refine of_then_ret ?_ | refine of_block_ret ?_
          have e7 := insForm_d hop hdd1.out hdd2.out hdd3.out hdd4.out hdd5.out hdd6.out hdd7.out (lm := lm)
          have R : insForm lm xop xa xb xc xk xn rl al = 0 := by rw [e7]; simp [hc81, hc102, hc114, hc133, hc150, hc153.out, hc161, hc166, hc173, hc178]
          exact ret_tmp (t := 4) h180 rfl rfl ⟨by rw [R], hW11.bel⟩
         have h9 : ¬ xop = 14 := ne_of_beq_false hb
         have hc181 : ¬ xop = 14 := h9
         clear h9
         clear hb
         refine wp_skip ?_
         refine hK82 _ _ ?_
         refine wp_seq_k fun K182 hK182 => ?_
         refine rg h152 fun ops => ?_; clear h152 a152
         refine sa trivial rfl rfl ?_
         refine St.nil fun a183 h183 => ?_
         refine hK182 _ _ ?_
         refine wp_ret ?_; with_reducible repeat first | refine of_then_ret ?_ | refine of_block_ret ?_
         have e7 := insForm_d hop hdd1.out hdd2.out hdd3.out hdd4.out hdd5.out hdd6.out hdd7.out (lm := lm)
         have R : insForm lm xop xa xb xc xk xn rl al = 0 := by rw [e7]; simp [hc81, hc102, hc114, hc133, hc150, hc181]
         exact ret_tmp (t := 4) h183 rfl rfl ⟨by rw [R], hW11.bel⟩

set_option maxHeartbeats 4000000 in
set_option maxRecDepth 100000 in
theorem insFNo {xop : Int} (hop : fieldsOf xop = none) (xa xb xc xk xn : Int) (am ra aa : Option Addr) (lm cm rl rc al ac : Nat) (w : World) :
    Rd Try.prog 21 #[.agg #[.slice am lm cm], .agg #[.int .i64 xop, .int .i64 xa, .int .i64 xb, .int .i64 xc, .int .i64 xk, .int .i64 xn, .slice ra rl rc, .slice aa al ac]] w (.int .i64 (insForm lm xop xa xb xc xk xn rl al)) := by
  refine fr_enter (n := 137) Try.func21 rfl rfl rfl ?_
  intro a hF
  have hW := Wd.start w
  replace hF : Fr 137 a [(0, .agg #[.slice am lm cm]), (1, .agg #[.int .i64 xop, .int .i64 xa, .int .i64 xb, .int .i64 xc, .int .i64 xk, .int .i64 xn, .slice ra rl rc, .slice aa al ac])] := hF
  refine wp_seq_k fun K1 hK1 => ?_
  refine rg hF fun ops => ?_; clear hF a
  refine sB hW trivial rfl rfl ?_
  clear hW; intro w2 B2 hW2 hN; clear hN
  refine sB hW2 trivial rfl rfl ?_
  clear hW2; intro w3 B3 hW3 hN; clear hN
  refine sa trivial rfl rfl ?_
  refine St.nil fun a4 h4 => ?_
  refine hK1 _ _ ?_
  refine wp_seq_k fun K5 hK5 => ?_
  refine rg h4 fun ops => ?_; clear h4 a4
  refine sfIns0 trivial rfl rfl ?_
  refine sbInt 0 hW3 trivial rfl rfl rfl rfl ?_
  refine sc_1 cf60 hW3 (rdFieldsNo hop w3) trivial rfl rfl ?_
  clear hW3; intro w6 hW6
  refine sm trivial rfl rfl ?_
  intro a7 h7
  refine fr_pure (t := 11) (v := .agg #[.bool false, .bool false, .bool false, .bool false, .bool false, .bool false, .bool false]) (w' := w6) h7 rfl rfl rfl (fun K hK => ?_) ?_
  ·have k0 : a7.tmps.getD 7 undef = .tuple #[.agg #[.bool false, .bool false, .bool false, .bool false, .bool false, .bool false, .bool false], .bool false] := h7.sl 7 _ rfl
   go_simp
   exact hK
  clear h7; intro a8 hF8
  refine fr_pure (t := 12) (v := .bool false) (w' := w6) hF8 rfl rfl rfl (fun K hK => ?_) ?_
  ·have k0 : a8.tmps.getD 7 undef = .tuple #[.agg #[.bool false, .bool false, .bool false, .bool false, .bool false, .bool false, .bool false], .bool false] := hF8.sl 7 _ rfl
   go_simp
   exact hK
  clear hF8; intro a9 hF9
  refine St.go hF9 ?_; clear hF9 a9
  refine sAFields hW6 trivial rfl ?_
  clear hW6; intro w10 B10 hW10 hN; clear hN
  refine sT 0 hW10 rfl rfl infFields rfl rfl rfl ?_
  clear hW10; intro w11 hW11
  refine sa trivial rfl rfl ?_
  refine St.nil fun a12 h12 => ?_
  refine hK5 _ _ ?_
  refine wp_seq_k fun K13 hK13 => ?_
  refine wp_seq_k fun K14 hK14 => ?_
  refine rg h12 fun ops => ?_; clear h12 a12
  refine sm trivial rfl rfl ?_
  refine sn trivial rfl rfl ?_
  refine St.nil fun a15 h15 => ?_
  refine hK14 _ _ ?_
  refine fr_true (t := 14) h15 rfl ?_
  refine wp_seq_k fun K16 hK16 => ?_
  refine rg h15 fun ops => ?_; clear h15 a15
  refine sa trivial rfl rfl ?_
  refine St.nil fun a17 h17 => ?_
  refine hK16 _ _ ?_
  refine wp_ret ?_; with_reducible repeat first | refine of_then_ret ?_ | refine of_block_ret ?_
  have R : insForm lm xop xa xb xc xk xn rl al = 3 := by simp [insForm, hop]
  exact ret_tmp (t := 4) h17 rfl rfl ⟨by rw [R], hW11.bel⟩
end Go.Proofs.Ytmnmnokkojcodab
/-
  InsForm: the code of an instruction's form, whatever its kind.
-/
namespace Go.Proofs.Ytmnmnokkojcodab
open Go.ChangeShapes Go.WideShapes Go.ChangeAt Go.RowKit
set_option linter.unusedVariables false
set_option linter.unusedSimpArgs false

theorem insForm_any (funcs : Nat) (x : MIns) (i : IP) (am : Option Addr) (cm : Nat) (w : World) :
    Rd Try.prog 21 #[.agg #[.slice am funcs cm], .agg #[.int .i64 x.op, .int .i64 x.a, .int .i64 x.b, .int .i64 x.c, .int .i64 x.k, .int .i64 x.n, .slice i.pR x.regs.length i.cR, .slice i.pA x.args.length i.cA]] w (.int .i64 (x.form funcs)) := by
  rw [MIns.form_eq]
  cases h : fieldsOf x.op with
  | none => exact insFNo h _ _ _ _ _ _ _ _ _ _ _ _ _ _ _
  | some p => obtain ⟨a, b, c, k, n, r, s⟩ := p; exact insFSome h _ _ _ _ _ _ _ _ _ _ _ _ _ _ _
end Go.Proofs.Ytmnmnokkojcodab
