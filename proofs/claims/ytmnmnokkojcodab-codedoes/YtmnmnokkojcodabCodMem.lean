/-
  The parts of instructions, ends, blocks and functions as they lie in memory: their cells written out, with the places of their lists. No function of the program is spoken of.
-/
import Derived.Test.YtmnmnokkojcodabCodSpec
import Derived.Test.YtmnmnokkojcodabCodBox
import Derived.Deep.MidRow
namespace Go.Proofs.Ytmnmnokkojcodab
open Go.ChangeShapes Go.WideShapes Go.ChangeAt Go.RowKit
set_option linter.unusedVariables false
set_option linter.unusedSimpArgs false

abbrev I64 (x : Int) : Prop := -9223372036854775808 ≤ x ∧ x ≤ 9223372036854775807
structure IP where
  pR : Option Addr
  cR : Nat
  pA : Option Addr
  cA : Nat
structure EP where
  pYR : Option Addr
  cYR : Nat
  pYA : Option Addr
  cYA : Nat
  pNR : Option Addr
  cNR : Nat
  pNA : Option Addr
  cNA : Nat
  pA : Option Addr
  cA : Nat
structure BP where
  pP : Option Addr
  cP : Nat
  pC : Option Addr
  cC : Nat
  e : EP
structure FP where
  pP : Option Addr
  cP : Nat
  pR : Option Addr
  cR : Nat
  pB : Option Addr
  cB : Nat
structure TIn2 (w : World) (O : Nat → Prop) (x : MTo) (pR : Option Addr) (cR : Nat) (pA : Option Addr) (cA : Nat) : Prop where
  regs : intsL.In w O x.regs [.slice pR x.regs.length cR]
  args : intsL.In w O x.args [.slice pA x.args.length cA]
  bnd : I64 x.block
structure IIn (w : World) (O : Nat → Prop) (x : MIns) (i : IP) : Prop where
  regs : intsL.In w O x.regs [.slice i.pR x.regs.length i.cR]
  args : intsL.In w O x.args [.slice i.pA x.args.length i.cA]
  bnd : I64 x.op ∧ I64 x.a ∧ I64 x.b ∧ I64 x.c ∧ I64 x.k ∧ I64 x.n
structure EIn (w : World) (O : Nat → Prop) (x : MEnd) (e : EP) : Prop where
  yes : TIn2 w O x.yes e.pYR e.cYR e.pYA e.cYA
  no : TIn2 w O x.no e.pNR e.cNR e.pNA e.cNA
  args : intsL.In w O x.args [.slice e.pA x.args.length e.cA]
  bnd : I64 x.op ∧ I64 x.a
structure BIn (w : World) (O : Nat → Prop) {n : Nat} (x : MBlock n) (b : BP) : Prop where
  params : (typesL n).In w O x.params [.slice b.pP x.params.length b.cP]
  code : insL.list.In w O x.code [.slice b.pC x.code.length b.cC]
  fin : EIn w O x.fin b.e
  bnd : I64 x.regs
structure FIn (w : World) (O : Nat → Prop) {n : Nat} (x : MFunc n) (f : FP) : Prop where
  params : (typesL n).In w O x.params [.slice f.pP x.params.length f.cP]
  results : (typesL n).In w O x.results [.slice f.pR x.results.length f.cR]
  blocks : (blockL n).list.In w O x.blocks [.slice f.pB x.blocks.length f.cB]
  bnd : I64 x.regs
section
variable {w w' : World} {O O' : Nat → Prop} {n : Nat} {cs : List Value}
theorem TIn2.keep {x : MTo} {pR pA : Option Addr} {cR cA : Nat} (hb : ∀ k, O k → k < w.heap.size → w'.heap[k]? = w.heap[k]?) (hl : ∀ k, O k → k < w.heap.size → O' k) (h : TIn2 w O x pR cR pA cA) : TIn2 w' O' x pR cR pA cA := ⟨Lay.keep _ hb hl h.regs, Lay.keep _ hb hl h.args, h.bnd⟩
theorem TIn2.below {x : MTo} {pR pA : Option Addr} {cR cA : Nat} (h : TIn2 w O x pR cR pA cA) (hbl : Below w.heap.size w w') : TIn2 w' O x pR cR pA cA := h.keep (fun k _ hk => hbl.block k hk) (fun _ h _ => h)
theorem TIn2.mono {x : MTo} {pR pA : Option Addr} {cR cA : Nat} (h : TIn2 w O x pR cR pA cA) (hl : ∀ k, O k → k < w.heap.size → O' k) : TIn2 w O' x pR cR pA cA := h.keep (fun k _ _ => rfl) hl
theorem IIn.keep {x : MIns} {i : IP} (hb : ∀ k, O k → k < w.heap.size → w'.heap[k]? = w.heap[k]?) (hl : ∀ k, O k → k < w.heap.size → O' k) (h : IIn w O x i) : IIn w' O' x i := ⟨Lay.keep _ hb hl h.regs, Lay.keep _ hb hl h.args, h.bnd⟩
theorem IIn.below {x : MIns} {i : IP} (h : IIn w O x i) (hbl : Below w.heap.size w w') : IIn w' O x i := h.keep (fun k _ hk => hbl.block k hk) (fun _ h _ => h)
theorem IIn.mono {x : MIns} {i : IP} (h : IIn w O x i) (hl : ∀ k, O k → k < w.heap.size → O' k) : IIn w O' x i := h.keep (fun k _ _ => rfl) hl
theorem EIn.keep {x : MEnd} {e : EP} (hb : ∀ k, O k → k < w.heap.size → w'.heap[k]? = w.heap[k]?) (hl : ∀ k, O k → k < w.heap.size → O' k) (h : EIn w O x e) : EIn w' O' x e := ⟨h.yes.keep hb hl, h.no.keep hb hl, Lay.keep _ hb hl h.args, h.bnd⟩
theorem EIn.below {x : MEnd} {e : EP} (h : EIn w O x e) (hbl : Below w.heap.size w w') : EIn w' O x e := h.keep (fun k _ hk => hbl.block k hk) (fun _ h _ => h)
theorem EIn.mono {x : MEnd} {e : EP} (h : EIn w O x e) (hl : ∀ k, O k → k < w.heap.size → O' k) : EIn w O' x e := h.keep (fun k _ _ => rfl) hl
theorem BIn.keep {x : MBlock n} {b : BP} (hb : ∀ k, O k → k < w.heap.size → w'.heap[k]? = w.heap[k]?) (hl : ∀ k, O k → k < w.heap.size → O' k) (h : BIn w O x b) : BIn w' O' x b := ⟨Lay.keep _ hb hl h.params, Lay.keep _ hb hl h.code, h.fin.keep hb hl, h.bnd⟩
theorem BIn.below {x : MBlock n} {b : BP} (h : BIn w O x b) (hbl : Below w.heap.size w w') : BIn w' O x b := h.keep (fun k _ hk => hbl.block k hk) (fun _ h _ => h)
theorem BIn.mono {x : MBlock n} {b : BP} (h : BIn w O x b) (hl : ∀ k, O k → k < w.heap.size → O' k) : BIn w O' x b := h.keep (fun k _ _ => rfl) hl
theorem FIn.keep {x : MFunc n} {f : FP} (hb : ∀ k, O k → k < w.heap.size → w'.heap[k]? = w.heap[k]?) (hl : ∀ k, O k → k < w.heap.size → O' k) (h : FIn w O x f) : FIn w' O' x f := ⟨Lay.keep _ hb hl h.params, Lay.keep _ hb hl h.results, Lay.keep _ hb hl h.blocks, h.bnd⟩
theorem FIn.below {x : MFunc n} {f : FP} (h : FIn w O x f) (hbl : Below w.heap.size w w') : FIn w' O x f := h.keep (fun k _ hk => hbl.block k hk) (fun _ h _ => h)
theorem FIn.mono {x : MFunc n} {f : FP} (h : FIn w O x f) (hl : ∀ k, O k → k < w.heap.size → O' k) : FIn w O' x f := h.keep (fun k _ _ => rfl) hl

theorem to_open {x : MTo} (h : toL.In w O x cs) : ∃ pR cR pA cA, cs = [.int .i64 x.block, .slice pR x.regs.length cR, .slice pA x.args.length cA] ∧ TIn2 w O x pR cR pA cA := by
  obtain ⟨a, c, b, d, rfl, h1, h2, h0⟩ := to_form h
  exact ⟨a, c, b, d, rfl, h1, h2, h0⟩
theorem to_shut {x : MTo} {pR pA : Option Addr} {cR cA : Nat} (h : TIn2 w O x pR cR pA cA) : toL.In w O x [.int .i64 x.block, .slice pR x.regs.length cR, .slice pA x.args.length cA] := to_mk h.regs h.args h.bnd
theorem ins_open {x : MIns} (h : insL.In w O x cs) : ∃ i : IP, cs = [.int .i64 x.op, .int .i64 x.a, .int .i64 x.b, .int .i64 x.c, .int .i64 x.k, .int .i64 x.n, .slice i.pR x.regs.length i.cR, .slice i.pA x.args.length i.cA] ∧ IIn w O x i := by
  obtain ⟨a, c, b, d, rfl, h1, h2, h0⟩ := ins_form h
  exact ⟨⟨a, c, b, d⟩, rfl, h1, h2, h0⟩
theorem ins_shut {x : MIns} {i : IP} (h : IIn w O x i) : insL.In w O x [.int .i64 x.op, .int .i64 x.a, .int .i64 x.b, .int .i64 x.c, .int .i64 x.k, .int .i64 x.n, .slice i.pR x.regs.length i.cR, .slice i.pA x.args.length i.cA] := ins_mk h.regs h.args h.bnd
theorem end_open {x : MEnd} (h : endL.In w O x cs) : ∃ e : EP, cs = [.int .i64 x.op, .int .i64 x.a, .int .i64 x.yes.block, .slice e.pYR x.yes.regs.length e.cYR, .slice e.pYA x.yes.args.length e.cYA, .int .i64 x.no.block, .slice e.pNR x.no.regs.length e.cNR, .slice e.pNA x.no.args.length e.cNA, .slice e.pA x.args.length e.cA] ∧ EIn w O x e := by
  obtain ⟨c1, c2, a, c, rfl, h1, h2, h3, h0⟩ := end_form h
  obtain ⟨pR, cR, pA, cA, rfl, k1⟩ := to_open h1
  obtain ⟨qR, dR, qA, dA, rfl, k2⟩ := to_open h2
  exact ⟨⟨pR, cR, pA, cA, qR, dR, qA, dA, a, c⟩, rfl, k1, k2, h3, h0⟩
theorem end_shut {x : MEnd} {e : EP} (h : EIn w O x e) : endL.In w O x [.int .i64 x.op, .int .i64 x.a, .int .i64 x.yes.block, .slice e.pYR x.yes.regs.length e.cYR, .slice e.pYA x.yes.args.length e.cYA, .int .i64 x.no.block, .slice e.pNR x.no.regs.length e.cNR, .slice e.pNA x.no.args.length e.cNA, .slice e.pA x.args.length e.cA] := end_mk (to_shut h.yes) (to_shut h.no) h.args h.bnd
theorem block_open {x : MBlock n} (h : (blockL n).In w O x cs) : ∃ b : BP, cs = [.int .i64 x.regs, .slice b.pP x.params.length b.cP, .slice b.pC x.code.length b.cC, .int .i64 x.fin.op, .int .i64 x.fin.a, .int .i64 x.fin.yes.block, .slice b.e.pYR x.fin.yes.regs.length b.e.cYR, .slice b.e.pYA x.fin.yes.args.length b.e.cYA, .int .i64 x.fin.no.block, .slice b.e.pNR x.fin.no.regs.length b.e.cNR, .slice b.e.pNA x.fin.no.args.length b.e.cNA, .slice b.e.pA x.fin.args.length b.e.cA] ∧ BIn w O x b := by
  obtain ⟨a, c, b, d, es, rfl, h1, h2, h3, h0⟩ := block_form h
  obtain ⟨e, rfl, k3⟩ := end_open h3
  exact ⟨⟨a, c, b, d, e⟩, rfl, h1, h2, k3, h0⟩
theorem block_shut {x : MBlock n} {b : BP} (h : BIn w O x b) : (blockL n).In w O x [.int .i64 x.regs, .slice b.pP x.params.length b.cP, .slice b.pC x.code.length b.cC, .int .i64 x.fin.op, .int .i64 x.fin.a, .int .i64 x.fin.yes.block, .slice b.e.pYR x.fin.yes.regs.length b.e.cYR, .slice b.e.pYA x.fin.yes.args.length b.e.cYA, .int .i64 x.fin.no.block, .slice b.e.pNR x.fin.no.regs.length b.e.cNR, .slice b.e.pNA x.fin.no.args.length b.e.cNA, .slice b.e.pA x.fin.args.length b.e.cA] := block_mk h.params h.code (end_shut h.fin) h.bnd
theorem func_open {x : MFunc n} (h : (funcL n).In w O x cs) : ∃ f : FP, cs = [.int .i64 x.regs, .slice f.pP x.params.length f.cP, .slice f.pR x.results.length f.cR, .slice f.pB x.blocks.length f.cB] ∧ FIn w O x f := by
  obtain ⟨a, c, b, d, e, f, rfl, h1, h2, h3, h0⟩ := func_form h
  exact ⟨⟨a, c, b, d, e, f⟩, rfl, h1, h2, h3, h0⟩
theorem func_shut {x : MFunc n} {f : FP} (h : FIn w O x f) : (funcL n).In w O x [.int .i64 x.regs, .slice f.pP x.params.length f.cP, .slice f.pR x.results.length f.cR, .slice f.pB x.blocks.length f.cB] := func_mk h.params h.results h.blocks h.bnd
theorem ins_at {l : List MIns} {p : Option Addr} {m c : Nat} (h : (insL).list.In w O l [.slice p m c]) {i : Nat} {x : MIns} (hx : l[i]? = some x) :
    ∃ (g o : Nat) (i' : IP), p = some ⟨g, o, none⟩ ∧ w.rangeAt g (o + i * 8) [.int .i64 x.op, .int .i64 x.a, .int .i64 x.b, .int .i64 x.c, .int .i64 x.k, .int .i64 x.n, .slice i'.pR x.regs.length i'.cR, .slice i'.pA x.args.length i'.cA] ∧ IIn w O x i' := by
  obtain ⟨g, o, ds, e, h1, h2, h3, h4⟩ := Lay.list_at h hx
  obtain ⟨i', rfl, h5⟩ := ins_open h4
  have hs : (insL).size = 8 := rfl
  rw [hs] at h3
  exact ⟨g, o, i', e, fun j v hj => (h3 j (by have := (List.getElem?_eq_some_iff.1 hj).1; simpa using this)).trans hj, h5⟩
theorem block_at {l : List (MBlock n)} {p : Option Addr} {m c : Nat} (h : (blockL n).list.In w O l [.slice p m c]) {i : Nat} {x : MBlock n} (hx : l[i]? = some x) :
    ∃ (g o : Nat) (b : BP), p = some ⟨g, o, none⟩ ∧ w.rangeAt g (o + i * 12) [.int .i64 x.regs, .slice b.pP x.params.length b.cP, .slice b.pC x.code.length b.cC, .int .i64 x.fin.op, .int .i64 x.fin.a, .int .i64 x.fin.yes.block, .slice b.e.pYR x.fin.yes.regs.length b.e.cYR, .slice b.e.pYA x.fin.yes.args.length b.e.cYA, .int .i64 x.fin.no.block, .slice b.e.pNR x.fin.no.regs.length b.e.cNR, .slice b.e.pNA x.fin.no.args.length b.e.cNA, .slice b.e.pA x.fin.args.length b.e.cA] ∧ BIn w O x b := by
  obtain ⟨g, o, ds, e, h1, h2, h3, h4⟩ := Lay.list_at h hx
  obtain ⟨b, rfl, h5⟩ := block_open h4
  have hs : (blockL n).size = 12 := rfl
  rw [hs] at h3
  exact ⟨g, o, b, e, fun j v hj => (h3 j (by have := (List.getElem?_eq_some_iff.1 hj).1; simpa using this)).trans hj, h5⟩
theorem func_at {l : List (MFunc n)} {p : Option Addr} {m c : Nat} (h : (funcL n).list.In w O l [.slice p m c]) {i : Nat} {x : MFunc n} (hx : l[i]? = some x) :
    ∃ (g o : Nat) (f : FP), p = some ⟨g, o, none⟩ ∧ w.rangeAt g (o + i * 4) [.int .i64 x.regs, .slice f.pP x.params.length f.cP, .slice f.pR x.results.length f.cR, .slice f.pB x.blocks.length f.cB] ∧ FIn w O x f := by
  obtain ⟨g, o, ds, e, h1, h2, h3, h4⟩ := Lay.list_at h hx
  obtain ⟨f, rfl, h5⟩ := func_open h4
  have hs : (funcL n).size = 4 := rfl
  rw [hs] at h3
  exact ⟨g, o, f, e, fun j v hj => (h3 j (by have := (List.getElem?_eq_some_iff.1 hj).1; simpa using this)).trans hj, h5⟩
theorem lin_at {l : List (TT n)} {p : Option Addr} (h : LIn w O l p) {i : Nat} {x : TT n} (hx : l[i]? = some x) : ∃ (g o : Nat) (q : Option Addr) (c : Nat), p = some ⟨g, o, none⟩ ∧ w.rangeAt g (o + i * 3) [.int .i64 x.kind, .int .i64 x.r, .slice q x.len c] ∧ TIn w O x q := by
  obtain ⟨g, o, q, c, e, _, h0, h1, h2, h3⟩ := LIn.at h hx
  refine ⟨g, o, q, c, e, fun j v hj => ?_, h3⟩
  match j, hj with
  | 0, hj => cases hj; exact h0
  | 1, hj => cases hj; exact h1
  | 2, hj => cases hj; exact h2
theorem ints_rg {l : List Int} {a : Option Addr} {m c : Nat} (h : intsL.In w O l [.slice a m c]) {i : Nat} (hi : i < l.length) : ∃ g o, a = some ⟨g, o, none⟩ ∧ w.rangeAt g (o + i) [.int .i64 (l.getD i 0)] := by
  obtain ⟨g, o, e, _, _, h1⟩ := ints_at h hi
  refine ⟨g, o, e, fun j v hj => ?_⟩
  match j, hj with
  | 0, hj => cases hj; exact h1
theorem list_lenI {α : Type} {A : Lay α} {l : List α} {p : Option Addr} {c : Nat} (h : A.list.In w O l [.slice p l.length c]) (hn : l.length = 0) : l = [] := List.length_eq_zero_iff.1 hn
end
end Go.Proofs.Ytmnmnokkojcodab
