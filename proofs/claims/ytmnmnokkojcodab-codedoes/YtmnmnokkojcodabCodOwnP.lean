/-
  code.Own and its parts: types, blocks, functions in new memory.
-/
import Derived.Test.YtmnmnokkojcodabCodOwnL
namespace Go.Proofs.Ytmnmnokkojcodab
open Go.ChangeShapes Go.WideShapes Go.ChangeAt Go.RowKit
set_option linter.unusedVariables false
set_option linter.unusedSimpArgs false

theorem made_of {α : Type} {A : Lay α} {f : FuncId} {args : Array Value} {w : World} {l : List α} (h : Calls Try.prog f args w fun e w' => LyOut A w w' l e) :
    Calls Try.prog f args w fun e w' => ∃ v, e = .returned v ∧ (∃ a' c', v = .slice a' l.length c' ∧ A.list.In w' (From w.heap.size) l [.slice a' l.length c']) ∧ Below w.heap.size w w' :=
  h.mono fun e w' ⟨a', c', h1, h2, h3⟩ => ⟨_, h1, ⟨a', c', rfl, h2⟩, h3⟩
theorem EIn.keep1 {w w' : World} {lo B : Nat} {x : MEnd} {e : EP} (h : EIn w (From lo) x e) (hk : Keep1 B w w') (hB : B < lo) : EIn w' (From lo) x e :=
  h.keep (fun k hl _ => hk k (by have : lo ≤ k := hl; omega)) (fun _ h _ => h)
theorem ins_owned {x : MIns} (hs : x.small) (i : IP) (w : World) (h : IIn w All x i) : Calls Try.prog 101 #[.agg #[.int .i64 x.op, .int .i64 x.a, .int .i64 x.b, .int .i64 x.c, .int .i64 x.k, .int .i64 x.n, .slice i.pR x.regs.length i.cR, .slice i.pA x.args.length i.cA]] w fun e w' => ∃ v, e = .returned v ∧ (∃ i' : IP, v = .agg #[.int .i64 x.op, .int .i64 x.a, .int .i64 x.b, .int .i64 x.c, .int .i64 x.k, .int .i64 x.n, .slice i'.pR x.regs.length i'.cR, .slice i'.pA x.args.length i'.cA] ∧ IIn w' (From w.heap.size) x i') ∧ Below w.heap.size w w' :=
  (cOwnIns_any x i w h (by have := hs.1; omega) (by have := hs.2; omega)).mono fun e w' ⟨i', h1, h2, h3⟩ => ⟨_, h1, ⟨i', rfl, h2⟩, h3⟩
theorem end_owned {x : MEnd} (hs : x.small) (i : EP) (w : World) (h : EIn w All x i) : Calls Try.prog 102 #[.agg #[.int .i64 x.op, .int .i64 x.a, .int .i64 x.yes.block, .slice i.pYR x.yes.regs.length i.cYR, .slice i.pYA x.yes.args.length i.cYA, .int .i64 x.no.block, .slice i.pNR x.no.regs.length i.cNR, .slice i.pNA x.no.args.length i.cNA, .slice i.pA x.args.length i.cA]] w fun e w' => ∃ v, e = .returned v ∧ (∃ i' : EP, v = .agg #[.int .i64 x.op, .int .i64 x.a, .int .i64 x.yes.block, .slice i'.pYR x.yes.regs.length i'.cYR, .slice i'.pYA x.yes.args.length i'.cYA, .int .i64 x.no.block, .slice i'.pNR x.no.regs.length i'.cNR, .slice i'.pNA x.no.args.length i'.cNA, .slice i'.pA x.args.length i'.cA] ∧ EIn w' (From w.heap.size) x i') ∧ Below w.heap.size w w' :=
  (cOwnEnd_any x i w h (by have := hs.1.1; omega) (by have := hs.1.2; omega) (by have := hs.2.1.1; omega) (by have := hs.2.1.2; omega) (by have := hs.2.2; omega)).mono fun e w' ⟨i', h1, h2, h3⟩ => ⟨_, h1, ⟨i', rfl, h2⟩, h3⟩

def COwnAt (n : Nat) : Prop := ∀ (t : TT n) (i : TP) (w : World), YIn w All t i → t.count ≤ 2000 → Calls Try.prog 79 #[.agg #[.int .i64 t.kind, .int .i64 t.r, .slice i.p t.len i.c]] w fun e w' => ∃ v, e = .returned v ∧ (∃ i' : TP, v = .agg #[.int .i64 t.kind, .int .i64 t.r, .slice i'.p t.len i'.c] ∧ YIn w' (From w.heap.size) t i') ∧ Below w.heap.size w w'

set_option maxHeartbeats 4000000 in
set_option maxRecDepth 100000 in
theorem cOwnType_any : ∀ n, COwnAt n := by
  intro n
  induction n with
  | zero => intro t; exact Empty.elim t
  | succ n ih =>
    intro t i w ht hc
    have hco : ∀ x ∈ t.2.2, x.count ≤ 2000 := fun x hx => by have := t.count_kid hx; omega
    have hlen : t.2.2.length ≤ 2000 := by have := t.len_lt_count; rw [t.len_eq] at this; omega
    have hok := ht.ok
    have hk : Hid _ := types_of_lin (c := i.c) ht.tree.list hok.2
    clear ht
    simp only [TT.len_eq]
    refine fr_enter (n := 8) Try.func79 rfl rfl rfl ?_
    intro a hF
    have hW := Wd.start w
    replace hF : Fr 8 a [(0, .agg #[.int .i64 t.kind, .int .i64 t.r, .slice i.p t.2.2.length i.c])] := hF
    refine wp_seq_k ?_
    intro K1 hK1
    refine fr_region ?_
    intro ops hops
    clear hops
    refine St.go hF ?_; clear hF a
    refine sB hW trivial rfl rfl ?_
    clear hW; intro w2 B2 hW2 hN; clear hN
    refine sAType hW2 trivial rfl ?_
    clear hW2; intro w3 B3 hW3 hN; clear hN
    refine St.nil fun a4 h4 => ?_
    refine hK1 _ _ ?_
    refine wp_seq_k ?_
    intro K5 hK5
    refine fr_region ?_
    intro ops hops
    clear hops
    refine St.go h4 ?_; clear h4 a4
    refine sfType2 trivial rfl rfl ?_
    refine sbTypes 1 hW3 trivial rfl rfl rfl rfl ?_
    have hlb : max B3 B2 + 1 ≤ w3.heap.size := by have h8 := (hW3.get 0 rfl).lt; have h9 := (hW3.get 1 rfl).lt; omega
    refine sn_2 cf78 hW3 (made_of (ownTypes_any t.2.2 _ _ _ (Lay.below hk.out hW3.bel) (by omega) (fun u hu i w h => ih u i w h (hco u hu)))) trivial rfl rfl rfl ?_
    rintro v9 w7 ⟨p5, c5, rfl, hN5⟩ hb9 hW7
    replace hN5 := Lay.mono hN5 (O' := From (max B3 B2 + 1)) (fun k hk _ => Nat.le_trans hlb hk)
    clear hlb hb9 hW3
    refine sfType2 trivial rfl rfl ?_
    refine s1k 1 inf1Types hW7 rfl rfl rfl rfl rfl rfl ?_
    intro w8 hKp hW8
    replace hN5 := Lay.keep1 hN5 hKp (by omega)
    clear hKp hW7
    refine St.nil fun a9 h9 => ?_
    refine hK5 _ _ ?_
    refine wp_seq_k ?_
    intro K10 hK10
    refine fr_region ?_
    intro ops hops
    clear hops
    refine St.go h9 ?_; clear h9 a9
    refine sS 1 3 Try.underlying90 rfl infType hW8 trivial rfl rfl rfl rfl ?_
    refine sTk 0 hW8 rfl rfl infType rfl rfl rfl ?_
    intro w11 hKp hW11
    replace hN5 := Lay.keep1 hN5 hKp (by omega)
    clear hKp hW8
    refine St.nil fun a12 h12 => ?_
    refine hK10 _ _ ?_
    refine wp_ret ?_
    repeat (first | with_reducible refine of_then_ret ?_ | with_reducible refine of_block_ret ?_)
    have hlow : w.heap.size ≤ max B3 B2 + 1 := by have h8 := hW11.new 0 _ rfl; simp only at h8; omega
    have hZ := types_lin (Lay.mono hN5 (fun k hk _ => Nat.le_trans hlow hk))
    exact ret_box 0 h12 hW11 rfl rfl rfl Try.underlying90 rfl infType ⟨_, rfl, ⟨⟨p5, c5⟩, rfl, ⟨hZ.1, hok⟩⟩, hW11.bel⟩

set_option maxHeartbeats 4000000 in
set_option maxRecDepth 100000 in
theorem cOwnBlock_any {n : Nat} (x : MBlock n) (i : BP) (w : World) (h : BIn w All x i) (hs0 : x.small) :
    Calls Try.prog 81 #[.agg #[.int .i64 x.regs, .slice i.pP x.params.length i.cP, .slice i.pC x.code.length i.cC, .int .i64 x.fin.op, .int .i64 x.fin.a, .int .i64 x.fin.yes.block, .slice i.e.pYR x.fin.yes.regs.length i.e.cYR, .slice i.e.pYA x.fin.yes.args.length i.e.cYA, .int .i64 x.fin.no.block, .slice i.e.pNR x.fin.no.regs.length i.e.cNR, .slice i.e.pNA x.fin.no.args.length i.e.cNA, .slice i.e.pA x.fin.args.length i.e.cA]] w fun e w' => ∃ v, e = .returned v ∧ (∃ i' : BP, v = .agg #[.int .i64 x.regs, .slice i'.pP x.params.length i'.cP, .slice i'.pC x.code.length i'.cC, .int .i64 x.fin.op, .int .i64 x.fin.a, .int .i64 x.fin.yes.block, .slice i'.e.pYR x.fin.yes.regs.length i'.e.cYR, .slice i'.e.pYA x.fin.yes.args.length i'.e.cYA, .int .i64 x.fin.no.block, .slice i'.e.pNR x.fin.no.regs.length i'.e.cNR, .slice i'.e.pNA x.fin.no.args.length i'.e.cNA, .slice i'.e.pA x.fin.args.length i'.e.cA] ∧ BIn w' (From w.heap.size) x i') ∧ Below w.heap.size w w' := by
  have hx : Hid _ := h
  have hs : Hid _ := hs0
  have hbd := h.bnd
  clear h hs0
  refine fr_enter (n := 16) Try.func81 rfl rfl rfl ?_
  intro a hF
  have hW := Wd.start w
  replace hF : Fr 16 a [(0, .agg #[.int .i64 x.regs, .slice i.pP x.params.length i.cP, .slice i.pC x.code.length i.cC, .int .i64 x.fin.op, .int .i64 x.fin.a, .int .i64 x.fin.yes.block, .slice i.e.pYR x.fin.yes.regs.length i.e.cYR, .slice i.e.pYA x.fin.yes.args.length i.e.cYA, .int .i64 x.fin.no.block, .slice i.e.pNR x.fin.no.regs.length i.e.cNR, .slice i.e.pNA x.fin.no.args.length i.e.cNA, .slice i.e.pA x.fin.args.length i.e.cA])] := hF
  refine wp_seq_k ?_
  intro K1 hK1
  refine fr_region ?_
  intro ops hops
  clear hops
  refine St.go hF ?_; clear hF a
  refine sB hW trivial rfl rfl ?_
  clear hW; intro w2 B2 hW2 hN; clear hN
  refine sABlock hW2 trivial rfl ?_
  clear hW2; intro w3 B3 hW3 hN; clear hN
  refine St.nil fun a4 h4 => ?_
  refine hK1 _ _ ?_
  refine wp_seq_k ?_
  intro K5 hK5
  refine fr_region ?_
  intro ops hops
  clear hops
  refine St.go h4 ?_; clear h4 a4
  refine sfBlock1 trivial rfl rfl ?_
  refine sbTypes 1 hW3 trivial rfl rfl rfl rfl ?_
  have hlb : max B3 B2 + 1 ≤ w3.heap.size := by have h8 := (hW3.get 0 rfl).lt; have h9 := (hW3.get 1 rfl).lt; omega
  refine sn_2 cf78 hW3 (made_of (ownTypes_any x.params _ _ _ (Lay.below hx.out.params hW3.bel) (by have := hs.out.2.1.1; omega) (fun t ht i w h => cOwnType_any n t i w h (hs.out.2.1.2 t ht)))) trivial rfl rfl rfl ?_
  rintro v9 w7 ⟨p5, c5, rfl, hN5⟩ hb9 hW7
  replace hN5 := Lay.mono hN5 (O' := From (max B3 B2 + 1)) (fun k hk _ => Nat.le_trans hlb hk)
  clear hlb hb9 hW3
  refine sfBlock1 trivial rfl rfl ?_
  refine s1k 1 inf1Types hW7 rfl rfl rfl rfl rfl rfl ?_
  intro w8 hKp hW8
  replace hN5 := Lay.keep1 hN5 hKp (by omega)
  clear hKp hW7
  refine St.nil fun a9 h9 => ?_
  refine hK5 _ _ ?_
  refine wp_seq_k ?_
  intro K10 hK10
  refine fr_region ?_
  intro ops hops
  clear hops
  refine St.go h9 ?_; clear h9 a9
  refine sfBlock2 trivial rfl rfl ?_
  refine sbInss 1 hW8 trivial rfl rfl rfl rfl ?_
  have hlb : max B3 B2 + 1 ≤ w8.heap.size := by have h8 := (hW8.get 0 rfl).lt; have h9 := (hW8.get 1 rfl).lt; omega
  refine sn_2 cf100 hW8 (made_of (ownInss_any x.code _ _ _ (Lay.below hx.out.code hW8.bel) (by have := hs.out.1; omega) (fun t ht i w h => ins_owned (hs.out.2.2.2 t ht) i w h))) trivial rfl rfl rfl ?_
  rintro v9 w12 ⟨p9, c9, rfl, hN9⟩ hb9 hW12
  replace hN5 := Lay.below hN5 hb9
  replace hN9 := Lay.mono hN9 (O' := From (max B3 B2 + 1)) (fun k hk _ => Nat.le_trans hlb hk)
  clear hlb hb9 hW8
  refine sfBlock2 trivial rfl rfl ?_
  refine s1k 1 inf1Inss hW12 rfl rfl rfl rfl rfl rfl ?_
  intro w13 hKp hW13
  replace hN5 := Lay.keep1 hN5 hKp (by omega)
  replace hN9 := Lay.keep1 hN9 hKp (by omega)
  clear hKp hW12
  refine St.nil fun a14 h14 => ?_
  refine hK10 _ _ ?_
  refine wp_seq_k ?_
  intro K15 hK15
  refine fr_region ?_
  intro ops hops
  clear hops
  refine St.go h14 ?_; clear h14 a14
  refine sfBlock3 trivial rfl rfl ?_
  refine sS 1 9 Try.underlying54 rfl infEnd hW13 trivial rfl rfl rfl rfl ?_
  have hlb : max B3 B2 + 1 ≤ w13.heap.size := by have h8 := (hW13.get 0 rfl).lt; have h9 := (hW13.get 1 rfl).lt; omega
  refine sn_1 cf102 hW13 (end_owned hs.out.2.2.1 _ _ (hx.out.fin.below hW13.bel)) trivial rfl rfl ?_
  rintro v9 w17 ⟨e13, rfl, hN13⟩ hb9 hW17
  replace hN5 := Lay.below hN5 hb9
  replace hN9 := Lay.below hN9 hb9
  replace hN13 := EIn.mono hN13 (O' := From (max B3 B2 + 1)) (fun k hk _ => Nat.le_trans hlb hk)
  clear hlb hb9 hW13
  refine sfBlock3 trivial rfl rfl ?_
  refine sTk 1 hW17 rfl rfl infEnd rfl rfl rfl ?_
  intro w18 hKp hW18
  replace hN5 := Lay.keep1 hN5 hKp (by omega)
  replace hN9 := Lay.keep1 hN9 hKp (by omega)
  replace hN13 := EIn.keep1 hN13 hKp (by omega)
  clear hKp hW17
  refine St.nil fun a19 h19 => ?_
  refine hK15 _ _ ?_
  refine wp_seq_k ?_
  intro K20 hK20
  refine fr_region ?_
  intro ops hops
  clear hops
  refine St.go h19 ?_; clear h19 a19
  refine sS 1 12 Try.underlying77 rfl infBlock hW18 trivial rfl rfl rfl rfl ?_
  refine sTk 0 hW18 rfl rfl infBlock rfl rfl rfl ?_
  intro w21 hKp hW21
  replace hN5 := Lay.keep1 hN5 hKp (by omega)
  replace hN9 := Lay.keep1 hN9 hKp (by omega)
  replace hN13 := EIn.keep1 hN13 hKp (by omega)
  clear hKp hW18
  refine St.nil fun a22 h22 => ?_
  refine hK20 _ _ ?_
  refine wp_ret ?_
  repeat (first | with_reducible refine of_then_ret ?_ | with_reducible refine of_block_ret ?_)
  have hlow : w.heap.size ≤ max B3 B2 + 1 := by have h8 := hW21.new 0 _ rfl; simp only at h8; omega
  exact ret_box 0 h22 hW21 rfl rfl rfl Try.underlying77 rfl infBlock ⟨_, rfl, ⟨⟨p5, c5, p9, c9, e13⟩, rfl, ⟨Lay.mono hN5 (fun k hk _ => Nat.le_trans hlow hk), Lay.mono hN9 (fun k hk _ => Nat.le_trans hlow hk), EIn.mono hN13 (fun k hk _ => Nat.le_trans hlow hk), hbd⟩⟩, hW21.bel⟩

set_option maxHeartbeats 4000000 in
set_option maxRecDepth 100000 in
theorem cOwnFunc_any {n : Nat} (x : MFunc n) (i : FP) (w : World) (h : FIn w All x i) (hs0 : x.small) :
    Calls Try.prog 54 #[.agg #[.int .i64 x.regs, .slice i.pP x.params.length i.cP, .slice i.pR x.results.length i.cR, .slice i.pB x.blocks.length i.cB]] w fun e w' => ∃ v, e = .returned v ∧ (∃ i' : FP, v = .agg #[.int .i64 x.regs, .slice i'.pP x.params.length i'.cP, .slice i'.pR x.results.length i'.cR, .slice i'.pB x.blocks.length i'.cB] ∧ FIn w' (From w.heap.size) x i') ∧ Below w.heap.size w w' := by
  have hx : Hid _ := h
  have hs : Hid _ := hs0
  have hbd := h.bnd
  clear h hs0
  refine fr_enter (n := 16) Try.func54 rfl rfl rfl ?_
  intro a hF
  have hW := Wd.start w
  replace hF : Fr 16 a [(0, .agg #[.int .i64 x.regs, .slice i.pP x.params.length i.cP, .slice i.pR x.results.length i.cR, .slice i.pB x.blocks.length i.cB])] := hF
  refine wp_seq_k ?_
  intro K1 hK1
  refine fr_region ?_
  intro ops hops
  clear hops
  refine St.go hF ?_; clear hF a
  refine sB hW trivial rfl rfl ?_
  clear hW; intro w2 B2 hW2 hN; clear hN
  refine sAFunc hW2 trivial rfl ?_
  clear hW2; intro w3 B3 hW3 hN; clear hN
  refine St.nil fun a4 h4 => ?_
  refine hK1 _ _ ?_
  refine wp_seq_k ?_
  intro K5 hK5
  refine fr_region ?_
  intro ops hops
  clear hops
  refine St.go h4 ?_; clear h4 a4
  refine sfFunc1 trivial rfl rfl ?_
  refine sbTypes 1 hW3 trivial rfl rfl rfl rfl ?_
  have hlb : max B3 B2 + 1 ≤ w3.heap.size := by have h8 := (hW3.get 0 rfl).lt; have h9 := (hW3.get 1 rfl).lt; omega
  refine sn_2 cf78 hW3 (made_of (ownTypes_any x.params _ _ _ (Lay.below hx.out.params hW3.bel) (by have := hs.out.2.1.1; omega) (fun t ht i w h => cOwnType_any n t i w h (hs.out.2.1.2 t ht)))) trivial rfl rfl rfl ?_
  rintro v9 w7 ⟨p5, c5, rfl, hN5⟩ hb9 hW7
  replace hN5 := Lay.mono hN5 (O' := From (max B3 B2 + 1)) (fun k hk _ => Nat.le_trans hlb hk)
  clear hlb hb9 hW3
  refine sfFunc1 trivial rfl rfl ?_
  refine s1k 1 inf1Types hW7 rfl rfl rfl rfl rfl rfl ?_
  intro w8 hKp hW8
  replace hN5 := Lay.keep1 hN5 hKp (by omega)
  clear hKp hW7
  refine St.nil fun a9 h9 => ?_
  refine hK5 _ _ ?_
  refine wp_seq_k ?_
  intro K10 hK10
  refine fr_region ?_
  intro ops hops
  clear hops
  refine St.go h9 ?_; clear h9 a9
  refine sfFunc2 trivial rfl rfl ?_
  refine sbTypes 1 hW8 trivial rfl rfl rfl rfl ?_
  have hlb : max B3 B2 + 1 ≤ w8.heap.size := by have h8 := (hW8.get 0 rfl).lt; have h9 := (hW8.get 1 rfl).lt; omega
  refine sn_2 cf78 hW8 (made_of (ownTypes_any x.results _ _ _ (Lay.below hx.out.results hW8.bel) (by have := hs.out.2.2.1.1; omega) (fun t ht i w h => cOwnType_any n t i w h (hs.out.2.2.1.2 t ht)))) trivial rfl rfl rfl ?_
  rintro v9 w12 ⟨p9, c9, rfl, hN9⟩ hb9 hW12
  replace hN5 := Lay.below hN5 hb9
  replace hN9 := Lay.mono hN9 (O' := From (max B3 B2 + 1)) (fun k hk _ => Nat.le_trans hlb hk)
  clear hlb hb9 hW8
  refine sfFunc2 trivial rfl rfl ?_
  refine s1k 1 inf1Types hW12 rfl rfl rfl rfl rfl rfl ?_
  intro w13 hKp hW13
  replace hN5 := Lay.keep1 hN5 hKp (by omega)
  replace hN9 := Lay.keep1 hN9 hKp (by omega)
  clear hKp hW12
  refine St.nil fun a14 h14 => ?_
  refine hK10 _ _ ?_
  refine wp_seq_k ?_
  intro K15 hK15
  refine fr_region ?_
  intro ops hops
  clear hops
  refine St.go h14 ?_; clear h14 a14
  refine sfFunc3 trivial rfl rfl ?_
  refine sbBlocks 1 hW13 trivial rfl rfl rfl rfl ?_
  have hlb : max B3 B2 + 1 ≤ w13.heap.size := by have h8 := (hW13.get 0 rfl).lt; have h9 := (hW13.get 1 rfl).lt; omega
  refine sn_2 cf80 hW13 (made_of (ownBlocks_any x.blocks _ _ _ (Lay.below hx.out.blocks hW13.bel) (by have := hs.out.1; omega) (fun t ht i w h => cOwnBlock_any t i w h (hs.out.2.2.2 t ht)))) trivial rfl rfl rfl ?_
  rintro v9 w17 ⟨p13, c13, rfl, hN13⟩ hb9 hW17
  replace hN5 := Lay.below hN5 hb9
  replace hN9 := Lay.below hN9 hb9
  replace hN13 := Lay.mono hN13 (O' := From (max B3 B2 + 1)) (fun k hk _ => Nat.le_trans hlb hk)
  clear hlb hb9 hW13
  refine sfFunc3 trivial rfl rfl ?_
  refine s1k 1 inf1Blocks hW17 rfl rfl rfl rfl rfl rfl ?_
  intro w18 hKp hW18
  replace hN5 := Lay.keep1 hN5 hKp (by omega)
  replace hN9 := Lay.keep1 hN9 hKp (by omega)
  replace hN13 := Lay.keep1 hN13 hKp (by omega)
  clear hKp hW17
  refine St.nil fun a19 h19 => ?_
  refine hK15 _ _ ?_
  refine wp_seq_k ?_
  intro K20 hK20
  refine fr_region ?_
  intro ops hops
  clear hops
  refine St.go h19 ?_; clear h19 a19
  refine sS 1 4 Try.underlying50 rfl infFunc hW18 trivial rfl rfl rfl rfl ?_
  refine sTk 0 hW18 rfl rfl infFunc rfl rfl rfl ?_
  intro w21 hKp hW21
  replace hN5 := Lay.keep1 hN5 hKp (by omega)
  replace hN9 := Lay.keep1 hN9 hKp (by omega)
  replace hN13 := Lay.keep1 hN13 hKp (by omega)
  clear hKp hW18
  refine St.nil fun a22 h22 => ?_
  refine hK20 _ _ ?_
  refine wp_ret ?_
  repeat (first | with_reducible refine of_then_ret ?_ | with_reducible refine of_block_ret ?_)
  have hlow : w.heap.size ≤ max B3 B2 + 1 := by have h8 := hW21.new 0 _ rfl; simp only at h8; omega
  exact ret_box 0 h22 hW21 rfl rfl rfl Try.underlying50 rfl infFunc ⟨_, rfl, ⟨⟨p5, c5, p9, c9, p13, c13⟩, rfl, ⟨Lay.mono hN5 (fun k hk _ => Nat.le_trans hlow hk), Lay.mono hN9 (fun k hk _ => Nat.le_trans hlow hk), Lay.mono hN13 (fun k hk _ => Nat.le_trans hlow hk), hbd⟩⟩, hW21.bel⟩

set_option maxHeartbeats 4000000 in
set_option maxRecDepth 100000 in
theorem cOwn_any {n : Nat} (m : List (MFunc n)) (p : Option Addr) (c : Nat) (w : World) (h : (modL n).In w All m [.slice p m.length c]) (hs0 : msmall m) :
    Calls Try.prog 18 #[.agg #[.slice p m.length c]] w fun e w' => ∃ v, e = .returned v ∧ (∃ a' c', v = .agg #[.slice a' m.length c'] ∧ (modL n).In w' (From w.heap.size) m [.slice a' m.length c']) ∧ Below w.heap.size w w' := by
  have hx : Hid _ := h
  have hs : Hid _ := hs0
  clear h hs0
  refine fr_enter (n := 7) Try.func18 rfl rfl rfl ?_
  intro a hF
  have hW := Wd.start w
  replace hF : Fr 7 a [(0, .agg #[.slice p m.length c])] := hF
  refine wp_seq_k ?_
  intro K1 hK1
  refine fr_region ?_
  intro ops hops
  clear hops
  refine St.go hF ?_; clear hF a
  refine sB hW trivial rfl rfl ?_
  clear hW; intro w2 B2 hW2 hN; clear hN
  refine sAModule hW2 trivial rfl ?_
  clear hW2; intro w3 B3 hW3 hN; clear hN
  refine St.nil fun a4 h4 => ?_
  refine hK1 _ _ ?_
  refine wp_seq_k ?_
  intro K5 hK5
  refine fr_region ?_
  intro ops hops
  clear hops
  refine St.go h4 ?_; clear h4 a4
  refine sfModule0 trivial rfl rfl ?_
  refine sbFuncs 1 hW3 trivial rfl rfl rfl rfl ?_
  have hlb : max B3 B2 + 1 ≤ w3.heap.size := by have h8 := (hW3.get 0 rfl).lt; have h9 := (hW3.get 1 rfl).lt; omega
  refine sn_2 cf53 hW3 (made_of (ownFuncs_any m _ _ _ (Lay.below hx.out hW3.bel) (by have := hs.out.1; omega) (fun t ht i w h => cOwnFunc_any t i w h (hs.out.2 t ht)))) trivial rfl rfl rfl ?_
  rintro v9 w7 ⟨p5, c5, rfl, hN5⟩ hb9 hW7
  replace hN5 := Lay.mono hN5 (O' := From (max B3 B2 + 1)) (fun k hk _ => Nat.le_trans hlb hk)
  clear hlb hb9 hW3
  intro a8 h8
  refine fr_pure (t := 6) (v := .agg #[.slice p5 m.length c5]) (w' := w7) h8 rfl rfl rfl (fun K hK => ?_) ?_
  ·have k0 : a8.tmps[5]?.getD undef = .slice p5 m.length c5 := h8.sl2 5 _ rfl
   go_simp
   exact hK
  clear h8; intro a9 hF9
  refine St.go hF9 ?_; clear hF9 a9
  refine sTk 0 hW7 rfl rfl infModule rfl rfl rfl ?_
  intro w10 hKp hW10
  replace hN5 := Lay.keep1 hN5 hKp (by omega)
  clear hKp hW7
  refine St.nil fun a11 h11 => ?_
  refine hK5 _ _ ?_
  refine wp_ret ?_
  repeat (first | with_reducible refine of_then_ret ?_ | with_reducible refine of_block_ret ?_)
  have hlow : w.heap.size ≤ max B3 B2 + 1 := by have h8 := hW10.new 0 _ rfl; simp only at h8; omega
  exact ret_box 0 h11 hW10 rfl rfl rfl Try.underlying39 rfl infModule ⟨_, rfl, ⟨p5, c5, rfl, Lay.mono hN5 (fun k hk _ => Nat.le_trans hlow hk)⟩, hW10.bel⟩
end Go.Proofs.Ytmnmnokkojcodab
