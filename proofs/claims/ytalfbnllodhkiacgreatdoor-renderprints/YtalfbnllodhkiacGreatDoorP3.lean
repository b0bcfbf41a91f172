import Derived.Test.YtalfbnllodhkiacGreatDoorP2
import Derived.Deep.RegionWith
set_option maxHeartbeats 16000000
set_option maxRecDepth 100000
namespace Go.Proofs.YtalfbnllodhkiacGreatDoor
open Go.ChangeShapes Go.WideShapes Go.ChangeAt Go.RowKit
set_option linter.unusedSimpArgs false
set_option linter.unusedVariables false
abbrev I64 (x : Int) : Prop := -9223372036854775808 ≤ x ∧ x ≤ 9223372036854775807
structure IP where
  pR:Option Addr
  cR:Nat
  pA:Option Addr
  cA:Nat
structure EP where
  pYR:Option Addr
  cYR:Nat
  pYA:Option Addr
  cYA:Nat
  pNR:Option Addr
  cNR:Nat
  pNA:Option Addr
  cNA:Nat
  pA:Option Addr
  cA:Nat
structure BP where
  pP:Option Addr
  cP:Nat
  pC:Option Addr
  cC:Nat
  e:EP
structure FP where
  pP:Option Addr
  cP:Nat
  pR:Option Addr
  cR:Nat
  pB:Option Addr
  cB:Nat
structure TIn2 (w : World) (O : Nat → Prop) (x : MTo) (pR : Option Addr) (cR : Nat) (pA : Option Addr) (cA : Nat) : Prop where
  regs:intsL.In w O x.regs [.slice pR x.regs.length cR]
  args:intsL.In w O x.args [.slice pA x.args.length cA]
  bnd:I64 x.block
structure IIn (w : World) (O : Nat → Prop) (x : MIns) (i : IP) : Prop where
  regs:intsL.In w O x.regs [.slice i.pR x.regs.length i.cR]
  args:intsL.In w O x.args [.slice i.pA x.args.length i.cA]
  bnd:I64 x.op∧I64 x.a∧I64 x.b∧I64 x.c∧I64 x.k∧I64 x.n
structure EIn (w : World) (O : Nat → Prop) (x : MEnd) (e : EP) : Prop where
  yes:TIn2 w O x.yes e.pYR e.cYR e.pYA e.cYA
  no:TIn2 w O x.no e.pNR e.cNR e.pNA e.cNA
  args:intsL.In w O x.args [.slice e.pA x.args.length e.cA]
  bnd:I64 x.op∧I64 x.a
structure BIn (w : World) (O : Nat → Prop) {n : Nat} (x : MBlock n) (b : BP) : Prop where
  params:(typesL n).In w O x.params [.slice b.pP x.params.length b.cP]
  code:insL.list.In w O x.code [.slice b.pC x.code.length b.cC]
  fin:EIn w O x.fin b.e
  bnd:I64 x.regs
structure FIn (w : World) (O : Nat → Prop) {n : Nat} (x : MFunc n) (f : FP) : Prop where
  params:(typesL n).In w O x.params [.slice f.pP x.params.length f.cP]
  results:(typesL n).In w O x.results [.slice f.pR x.results.length f.cR]
  blocks:(blockL n).list.In w O x.blocks [.slice f.pB x.blocks.length f.cB]
  bnd:I64 x.regs
section
variable {w w' : World} {O O' : Nat → Prop} {n : Nat} {cs : List Value}
theorem TIn2.keep {x : MTo} {pR pA : Option Addr} {cR cA : Nat} (hb : ∀ k, O k → k < w.heap.size → w'.heap[k]? = w.heap[k]?) (hl : ∀ k, O k → k < w.heap.size → O' k) (h : TIn2 w O x pR cR pA cA) : TIn2 w' O' x pR cR pA cA := ⟨Lay.keep _ hb hl h.regs, Lay.keep _ hb hl h.args, h.bnd⟩
theorem TIn2.below {x : MTo} {pR pA : Option Addr} {cR cA : Nat} (h : TIn2 w O x pR cR pA cA) (hbl : Below w.heap.size w w') : TIn2 w' O x pR cR pA cA := h.keep (fun k _ hk => hbl.block k hk) (fun _ h _ => h)
theorem TIn2.mono {x : MTo} {pR pA : Option Addr} {cR cA : Nat} (h : TIn2 w O x pR cR pA cA) (hl : ∀ k, O k → k < w.heap.size → O' k) : TIn2 w O' x pR cR pA cA := h.keep (fun k _ _ => rfl) hl
theorem IIn.keep {x : MIns} {i : IP} (hb : ∀ k, O k → k < w.heap.size → w'.heap[k]? = w.heap[k]?) (hl : ∀ k, O k → k < w.heap.size → O' k) (h : IIn w O x i) : IIn w' O' x i := ⟨Lay.keep _ hb hl h.regs, Lay.keep _ hb hl h.args, h.bnd⟩
theorem IIn.below {x : MIns} {i : IP} (h : IIn w O x i) (hbl : Below w.heap.size w w') : IIn w' O x i := h.keep (fun k _ hk => hbl.block k hk) (fun _ h _ => h)
theorem IIn.mono {x : MIns} {i : IP} (h : IIn w O x i) (hl : ∀ k, O k → k < w.heap.size → O' k) : IIn w O' x i := h.keep (fun k _ _ => rfl) hl
theorem EIn.keep {x : MEnd} {e : EP} (hb : ∀ k, O k → k < w.heap.size → w'.heap[k]? = w.heap[k]?) (hl : ∀ k, O k → k < w.heap.size → O' k) (h : EIn w O x e) : EIn w' O' x e := ⟨h.yes.keep hb hl, h.no.keep hb hl, Lay.keep _ hb hl h.args, h.bnd⟩
theorem EIn.below {x : MEnd} {e : EP} (h : EIn w O x e) (hbl : Below w.heap.size w w') : EIn w' O x e := h.keep (fun k _ hk => hbl.block k hk) (fun _ h _ => h)
theorem EIn.mono {x : MEnd} {e : EP} (h : EIn w O x e) (hl : ∀ k, O k → k < w.heap.size → O' k) : EIn w O' x e := h.keep (fun k _ _ => rfl) hl
theorem BIn.keep {x : MBlock n} {b : BP} (hb : ∀ k, O k → k < w.heap.size → w'.heap[k]? = w.heap[k]?) (hl : ∀ k, O k → k < w.heap.size → O' k) (h : BIn w O x b) : BIn w' O' x b := ⟨Lay.keep _ hb hl h.params, Lay.keep _ hb hl h.code, h.fin.keep hb hl, h.bnd⟩
theorem BIn.below {x : MBlock n} {b : BP} (h : BIn w O x b) (hbl : Below w.heap.size w w') : BIn w' O x b := h.keep (fun k _ hk => hbl.block k hk) (fun _ h _ => h)
theorem BIn.mono {x : MBlock n} {b : BP} (h : BIn w O x b) (hl : ∀ k, O k → k < w.heap.size → O' k) : BIn w O' x b := h.keep (fun k _ _ => rfl) hl
theorem FIn.keep {x : MFunc n} {f : FP} (hb : ∀ k, O k → k < w.heap.size → w'.heap[k]? = w.heap[k]?) (hl : ∀ k, O k → k < w.heap.size → O' k) (h : FIn w O x f) : FIn w' O' x f := ⟨Lay.keep _ hb hl h.params, Lay.keep _ hb hl h.results, Lay.keep _ hb hl h.blocks, h.bnd⟩
theorem FIn.below {x : MFunc n} {f : FP} (h : FIn w O x f) (hbl : Below w.heap.size w w') : FIn w' O x f := h.keep (fun k _ hk => hbl.block k hk) (fun _ h _ => h)
theorem FIn.mono {x : MFunc n} {f : FP} (h : FIn w O x f) (hl : ∀ k, O k → k < w.heap.size → O' k) : FIn w O' x f := h.keep (fun k _ _ => rfl) hl
theorem to_open {x : MTo} (h : toL.In w O x cs) : ∃ pR cR pA cA, cs = [.int .i64 x.block, .slice pR x.regs.length cR, .slice pA x.args.length cA] ∧ TIn2 w O x pR cR pA cA := by
  obtain ⟨a,c,b,d,rfl,h1,h2,h0⟩:=to_form h;exact ⟨a,c,b,d,rfl,h1,h2,h0⟩
theorem to_shut {x : MTo} {pR pA : Option Addr} {cR cA : Nat} (h : TIn2 w O x pR cR pA cA) : toL.In w O x [.int .i64 x.block, .slice pR x.regs.length cR, .slice pA x.args.length cA] := to_mk h.regs h.args h.bnd
theorem ins_open {x : MIns} (h : insL.In w O x cs) : ∃ i : IP, cs = [.int .i64 x.op, .int .i64 x.a, .int .i64 x.b, .int .i64 x.c, .int .i64 x.k, .int .i64 x.n, .slice i.pR x.regs.length i.cR, .slice i.pA x.args.length i.cA] ∧ IIn w O x i := by
  obtain ⟨a,c,b,d,rfl,h1,h2,h0⟩:=ins_form h;exact ⟨⟨a,c,b,d⟩,rfl,h1,h2,h0⟩
theorem ins_shut {x : MIns} {i : IP} (h : IIn w O x i) : insL.In w O x [.int .i64 x.op, .int .i64 x.a, .int .i64 x.b, .int .i64 x.c, .int .i64 x.k, .int .i64 x.n, .slice i.pR x.regs.length i.cR, .slice i.pA x.args.length i.cA] := ins_mk h.regs h.args h.bnd
theorem end_open {x : MEnd} (h : endL.In w O x cs) : ∃ e : EP, cs = [.int .i64 x.op, .int .i64 x.a, .int .i64 x.yes.block, .slice e.pYR x.yes.regs.length e.cYR, .slice e.pYA x.yes.args.length e.cYA, .int .i64 x.no.block, .slice e.pNR x.no.regs.length e.cNR, .slice e.pNA x.no.args.length e.cNA, .slice e.pA x.args.length e.cA] ∧ EIn w O x e := by
  obtain ⟨c1,c2,a,c,rfl,h1,h2,h3,h0⟩:=end_form h;obtain ⟨pR,cR,pA,cA,rfl,k1⟩:=to_open h1;obtain ⟨qR,dR,qA,dA,rfl,k2⟩:=to_open h2;exact ⟨⟨pR,cR,pA,cA,qR,dR,qA,dA,a,c⟩,rfl,k1,k2,h3,h0⟩
theorem end_shut {x : MEnd} {e : EP} (h : EIn w O x e) : endL.In w O x [.int .i64 x.op, .int .i64 x.a, .int .i64 x.yes.block, .slice e.pYR x.yes.regs.length e.cYR, .slice e.pYA x.yes.args.length e.cYA, .int .i64 x.no.block, .slice e.pNR x.no.regs.length e.cNR, .slice e.pNA x.no.args.length e.cNA, .slice e.pA x.args.length e.cA] := end_mk (to_shut h.yes) (to_shut h.no) h.args h.bnd
theorem block_open {x : MBlock n} (h : (blockL n).In w O x cs) : ∃ b : BP, cs = [.int .i64 x.regs, .slice b.pP x.params.length b.cP, .slice b.pC x.code.length b.cC, .int .i64 x.fin.op, .int .i64 x.fin.a, .int .i64 x.fin.yes.block, .slice b.e.pYR x.fin.yes.regs.length b.e.cYR, .slice b.e.pYA x.fin.yes.args.length b.e.cYA, .int .i64 x.fin.no.block, .slice b.e.pNR x.fin.no.regs.length b.e.cNR, .slice b.e.pNA x.fin.no.args.length b.e.cNA, .slice b.e.pA x.fin.args.length b.e.cA] ∧ BIn w O x b := by
  obtain ⟨a,c,b,d,es,rfl,h1,h2,h3,h0⟩:=block_form h;obtain ⟨e,rfl,k3⟩:=end_open h3;exact ⟨⟨a,c,b,d,e⟩,rfl,h1,h2,k3,h0⟩
theorem block_shut {x : MBlock n} {b : BP} (h : BIn w O x b) : (blockL n).In w O x [.int .i64 x.regs, .slice b.pP x.params.length b.cP, .slice b.pC x.code.length b.cC, .int .i64 x.fin.op, .int .i64 x.fin.a, .int .i64 x.fin.yes.block, .slice b.e.pYR x.fin.yes.regs.length b.e.cYR, .slice b.e.pYA x.fin.yes.args.length b.e.cYA, .int .i64 x.fin.no.block, .slice b.e.pNR x.fin.no.regs.length b.e.cNR, .slice b.e.pNA x.fin.no.args.length b.e.cNA, .slice b.e.pA x.fin.args.length b.e.cA] := block_mk h.params h.code (end_shut h.fin) h.bnd
theorem func_open {x : MFunc n} (h : (funcL n).In w O x cs) : ∃ f : FP, cs = [.int .i64 x.regs, .slice f.pP x.params.length f.cP, .slice f.pR x.results.length f.cR, .slice f.pB x.blocks.length f.cB] ∧ FIn w O x f := by
  obtain ⟨a,c,b,d,e,f,rfl,h1,h2,h3,h0⟩:=func_form h;exact ⟨⟨a,c,b,d,e,f⟩,rfl,h1,h2,h3,h0⟩
theorem func_shut {x : MFunc n} {f : FP} (h : FIn w O x f) : (funcL n).In w O x [.int .i64 x.regs, .slice f.pP x.params.length f.cP, .slice f.pR x.results.length f.cR, .slice f.pB x.blocks.length f.cB] := func_mk h.params h.results h.blocks h.bnd
theorem ins_at {l : List MIns} {p : Option Addr} {m c : Nat} (h : (insL).list.In w O l [.slice p m c]) {i : Nat} {x : MIns} (hx : l[i]? = some x) :
    ∃ (g o:Nat) (i':IP),p=some ⟨g,o,none⟩∧w.rangeAt g (o+i*8) [.int .i64 x.op,.int .i64 x.a,.int .i64 x.b,.int .i64 x.c,.int .i64 x.k,.int .i64 x.n,.slice i'.pR x.regs.length i'.cR,.slice i'.pA x.args.length i'.cA]∧IIn w O x i':=by
  obtain ⟨g,o,ds,e,h1,h2,h3,h4⟩:=Lay.list_at h hx;obtain ⟨i',rfl,h5⟩:=ins_open h4;have hs:(insL).size=8:=rfl;rw [hs] at h3;exact ⟨g,o,i',e,fun j v hj=>(h3 j (by have:=(List.getElem?_eq_some_iff.1 hj).1;simpa using this)).trans hj,h5⟩
theorem block_at {l : List (MBlock n)} {p : Option Addr} {m c : Nat} (h : (blockL n).list.In w O l [.slice p m c]) {i : Nat} {x : MBlock n} (hx : l[i]? = some x) :
    ∃ (g o:Nat) (b:BP),p=some ⟨g,o,none⟩∧w.rangeAt g (o+i*12) [.int .i64 x.regs,.slice b.pP x.params.length b.cP,.slice b.pC x.code.length b.cC,.int .i64 x.fin.op,.int .i64 x.fin.a,.int .i64 x.fin.yes.block,.slice b.e.pYR x.fin.yes.regs.length b.e.cYR,.slice b.e.pYA x.fin.yes.args.length b.e.cYA,.int .i64 x.fin.no.block,.slice b.e.pNR x.fin.no.regs.length b.e.cNR,.slice b.e.pNA x.fin.no.args.length b.e.cNA,.slice b.e.pA x.fin.args.length b.e.cA]∧BIn w O x b:=by
  obtain ⟨g,o,ds,e,h1,h2,h3,h4⟩:=Lay.list_at h hx;obtain ⟨b,rfl,h5⟩:=block_open h4;have hs:(blockL n).size=12:=rfl;rw [hs] at h3;exact ⟨g,o,b,e,fun j v hj=>(h3 j (by have:=(List.getElem?_eq_some_iff.1 hj).1;simpa using this)).trans hj,h5⟩
theorem func_at {l : List (MFunc n)} {p : Option Addr} {m c : Nat} (h : (funcL n).list.In w O l [.slice p m c]) {i : Nat} {x : MFunc n} (hx : l[i]? = some x) :
    ∃ (g o:Nat) (f:FP),p=some ⟨g,o,none⟩∧w.rangeAt g (o+i*4) [.int .i64 x.regs,.slice f.pP x.params.length f.cP,.slice f.pR x.results.length f.cR,.slice f.pB x.blocks.length f.cB]∧FIn w O x f:=by
  obtain ⟨g,o,ds,e,h1,h2,h3,h4⟩:=Lay.list_at h hx;obtain ⟨f,rfl,h5⟩:=func_open h4;have hs:(funcL n).size=4:=rfl;rw [hs] at h3;exact ⟨g,o,f,e,fun j v hj=>(h3 j (by have:=(List.getElem?_eq_some_iff.1 hj).1;simpa using this)).trans hj,h5⟩
theorem lin_at {l : List (TT n)} {p : Option Addr} (h : LIn w O l p) {i : Nat} {x : TT n} (hx : l[i]? = some x) : ∃ (g o : Nat) (q : Option Addr) (c : Nat), p = some ⟨g, o, none⟩ ∧ w.rangeAt g (o + i * 3) [.int .i64 x.kind, .int .i64 x.r, .slice q x.len c] ∧ TIn w O x q := by
  obtain ⟨g,o,q,c,e,_,h0,h1,h2,h3⟩:=LIn.at h hx;refine ⟨g,o,q,c,e,fun j v hj=>?_,h3⟩;match j,hj with
  | 0,hj=>cases hj;exact h0
  | 1,hj=>cases hj;exact h1
  | 2,hj=>cases hj;exact h2
theorem ints_rg {l : List Int} {a : Option Addr} {m c : Nat} (h : intsL.In w O l [.slice a m c]) {i : Nat} (hi : i < l.length) : ∃ g o, a = some ⟨g, o, none⟩ ∧ w.rangeAt g (o + i) [.int .i64 (l.getD i 0)] := by
  obtain ⟨g,o,e,_,_,h1⟩:=ints_at h hi;refine ⟨g,o,e,fun j v hj=>?_⟩;match j,hj with
  | 0,hj=>cases hj;exact h1
end
theorem sameInts_any (l m : List Int) (p p2 : Option Addr) (c d : Nat) (w : World) (hl0 : intsL.In w All l [.slice p l.length c]) (hm0 : intsL.In w All m [.slice p2 m.length d]) (hb1 : l.length ≤ 4294967296) :
    Rd Tryz.prog 71 #[.slice p l.length c,.slice p2 m.length d] w (.bool (bdec (l=m))):=by
  have hl:Hid _:=hl0;have hm:Hid _:=hm0;clear hl0 hm0;refine fr_enter (n:=26) Tryz.func71 rfl rfl rfl ?_;intro a hF;have hW:=Wd.start w;replace hF:Fr 26 a [(0,.slice p l.length c),(1,.slice p2 m.length d)]:=hF;refine wp_seq_k fun K1 hK1=>?_;refine rg hF fun ops=>?_;clear hF a;refine sa trivial rfl rfl ?_;refine St.nil fun a2 h2=>?_;refine hK1 _ _ ?_;refine wp_seq_k fun K3 hK3=>?_;refine wp_seq_k fun K4 hK4=>?_;refine rg h2 fun ops=>?_;clear h2 a2;refine sm trivial rfl rfl ?_;refine slInts trivial rfl rfl ?_;refine sm trivial rfl rfl ?_;refine slInts trivial rfl rfl ?_;refine sne trivial rfl rfl rfl ?_;refine St.nil fun a5 h5=>?_;refine hK4 _ _ ?_;refine fr_cond (t:=10) h5 rfl (fun hb=>?_) (fun hb=>?_)
  ·have h9:¬ l.length=m.length:=by have h8:=bne_iff_ne.1 hb;omega
   have hlen:¬ l.length=m.length:=h9;clear h9;clear hb;refine wp_seq_k fun K6 hK6=>?_;refine rg h5 fun ops=>?_;clear h5 a5;refine sa trivial rfl rfl ?_;refine St.nil fun a7 h7=>?_;refine hK6 _ _ ?_;refine wp_ret ?_;with_reducible repeat first | refine of_then_ret ?_ | refine of_block_ret ?_
   have R:¬ l=m:=by
     intro e
     first
       | exact hlen (by rw [e])
       | exact hel (by rw [← hx.out,← hy.out,e])
   exact ret_tmp (t:=4) h7 rfl rfl ⟨by rw [bdec_false R],hW.bel⟩
  have h9:l.length=m.length:=by have h8:=bne_eq_false_iff_eq.1 hb;omega
  have hlen:Hid (l.length=m.length):=h9;clear h9;clear hb;refine wp_skip ?_;refine hK3 _ _ ?_;refine wp_seq_k fun K8 hK8=>?_;refine wp_seq_k fun K9 hK9=>?_;refine rg h5 fun ops=>?_;clear h5 a5;refine sa trivial rfl rfl ?_;refine St.nil fun a10 h10=>?_;refine hK9 _ _ ?_;refine wp_block ?_;refine fr_loop (fun r a w'=>∃ q:Nat,q≤l.length∧r=l.length - q∧(∀ j,j<q→l.getD j 0=m.getD j 0)∧Fr 26 a [(1,.slice p2 m.length d),(0,.slice p l.length c),(4,.bool false),(5,.int .i64 (q:Int))]∧Wd w w' []) (l.length) ⟨0,Nat.zero_le _,rfl,(fun j hj=>by omega),(h10.keep (h10.keep (h10.keep (h10.keep h10.nil (t:=5) rfl) (t:=4) rfl) (t:=0) rfl) (t:=1) rfl),hW⟩ ?_;clear h10 hW;rintro r a11 w11 ⟨q,hq,hr,hall,hF11,hW11⟩ KL hKL;refine wp_seq_k fun K12 hK12=>?_;refine wp_seq_k fun K13 hK13=>?_;refine rg hF11 fun ops=>?_;clear hF11 a11;refine sm trivial rfl rfl ?_;refine sm trivial rfl rfl ?_;refine slInts trivial rfl rfl ?_;refine slt trivial rfl rfl rfl ?_;refine St.nil fun a14 h14=>?_;refine hK13 _ _ ?_;refine fr_cond (t:=14) h14 rfl (fun hb=>?_) (fun hb=>?_)
  ·have hlt:q<l.length:=by have:=of_decide_eq_true hb;omega
   clear hb;have hlm:q<m.length:=by have:=hlen.out;omega
   obtain ⟨g1,o1,hp1,E1⟩:=ints_rg hl.out hlt;obtain ⟨g2,o2,hp2,E2⟩:=ints_rg hm.out hlm;obtain ⟨x,hx⟩:∃ x,l.getD q 0=x:=⟨_,rfl⟩;obtain ⟨y,hy⟩:∃ y,m.getD q 0=y:=⟨_,rfl⟩;rw [hx] at E1;rw [hy] at E2;replace hx:Hid _:=hx;replace hy:Hid _:=hy;replace E1:Hid _:=E1;replace E2:Hid _:=E2;replace hp1:Hid _:=hp1;replace hp2:Hid _:=hp2;refine wp_skip ?_;refine hK12 _ _ ?_;refine wp_seq_k fun K15 hK15=>?_;refine wp_block ?_;refine wp_seq_k fun K16 hK16=>?_;have hF17:Fr 26 a14 [(1,.slice p2 m.length d),(0,.slice p l.length c),(4,.bool false),(5,.int .i64 (q:Int))]:=(h14.keep (h14.keep (h14.keep (h14.keep h14.nil (t:=5) rfl) (t:=4) rfl) (t:=0) rfl) (t:=1) rfl);have ho0:a14.tmps.getD 0 undef=.slice p l.length c:=h14.sl 0 _ rfl;have ho5:a14.tmps.getD 5 undef=.int .i64 (q:Int):=h14.sl 5 _ rfl;have ho1:a14.tmps.getD 1 undef=.slice p2 m.length d:=h14.sl 1 _ rfl;refine fr_draw_k 9 ([(0,fun v _=>v=.slice p l.length c),(5,fun v _=>v=.int .i64 (q:Int)),(1,fun v _=>v=.slice p2 m.length d),(17,fun v _=>v=.slice p l.length c),(18,fun v _=>v=.int .i64 (q:Int)),(19,fun v _=>v=.pointer (some ⟨g1,o1+q,none⟩)),(20,fun v _=>v=.int .i64 x),(21,fun v _=>v=.slice p2 m.length d),(22,fun v _=>v=.int .i64 (q:Int)),(23,fun v _=>v=.pointer (some ⟨g2,o2+q,none⟩)),(24,fun v _=>v=.int .i64 y),(25,fun v _=>v=.bool (x != y))]:PTab) (fun w'=>Wd w w' []∧Below w11.heap.size w11 w') (fun w w'=>Below w.heap.size w w') (outs:=[0,5,1]) (gs:=[]) (bs:=[true,true,true,true,true,true,true,true,true]) (by kernel_rfl) hF17 rfl (by kernel_rfl) (by kernel_rfl) ?hR ?hG ⟨hW11.drewN 1,drewN_below (m:=1) (Below.refl _ _)⟩ ⟨ho0,ho5,ho1,trivial⟩ ?hA ?hend
   case hR=>exact ⟨fun _ _ _ _ h=>h,fun _ _ _ _ h=>h,fun _ _ _ _ h=>h,fun _ _ _ _ h=>h,fun _ _ _ _ h=>h,fun _ _ _ _ h=>h,fun _ _ _ _ h=>h,fun _ _ _ _ h=>h,fun _ _ _ _ h=>h,fun _ _ _ _ h=>h,fun _ _ _ _ h=>h,fun _ _ _ _ h=>h,trivial⟩
   case hG=>exact trivial
   case hA =>
    refine ⟨fun a w hW hk K hK=>?_,?_⟩
    · obtain ⟨k0,-⟩:=hk;have k0:a.tmps.getD 0 undef=.slice p l.length c:=k0;go_simp;exact hK _ _ (Below.refl _ _) hW rfl
    refine ⟨fun a w hW hk K hK=>?_,?_⟩
    · obtain ⟨k0,-⟩:=hk;have k0:a.tmps.getD 5 undef=.int .i64 (q:Int):=k0;go_simp;exact hK _ _ (Below.refl _ _) hW rfl
    refine ⟨fun a w hW hk K hK=>?_,?_⟩
    · obtain ⟨k0,k1,-⟩:=hk;have k0:a.tmps.getD 17 undef=.slice p l.length c:=k0;have k1:a.tmps.getD 18 undef=.int .i64 (q:Int):=k1;have hpq:=hp1.out;have hk0:(0:Int)≤q:=by omega
      have hk1:(q:Int)<(l.length:Int):=by omega
      go_simp;exact hK _ _ (Below.refl _ _) hW rfl
    refine ⟨fun a w hW hk K hK=>?_,?_⟩
    · obtain ⟨k0,-⟩:=hk;have k0:a.tmps.getD 19 undef=.pointer (some ⟨g1,o1+q,none⟩):=k0;have d0:w.cell? ⟨g1,o1+q,none⟩=some (.int .i64 x):=bel_cell hW.1.bel (E1.out 0 _ rfl);go_simp;exact hK _ _ (Below.refl _ _) hW rfl
    refine ⟨fun a w hW hk K hK=>?_,?_⟩
    · obtain ⟨k0,-⟩:=hk;have k0:a.tmps.getD 1 undef=.slice p2 m.length d:=k0;go_simp;exact hK _ _ (Below.refl _ _) hW rfl
    refine ⟨fun a w hW hk K hK=>?_,?_⟩
    · obtain ⟨k0,-⟩:=hk;have k0:a.tmps.getD 5 undef=.int .i64 (q:Int):=k0;go_simp;exact hK _ _ (Below.refl _ _) hW rfl
    refine ⟨fun a w hW hk K hK=>?_,?_⟩
    · obtain ⟨k0,k1,-⟩:=hk;have k0:a.tmps.getD 21 undef=.slice p2 m.length d:=k0;have k1:a.tmps.getD 22 undef=.int .i64 (q:Int):=k1;have hpq:=hp2.out;have hk0:(0:Int)≤q:=by omega
      have hk1:(q:Int)<(m.length:Int):=by omega
      go_simp;exact hK _ _ (Below.refl _ _) hW rfl
    refine ⟨fun a w hW hk K hK=>?_,?_⟩
    · obtain ⟨k0,-⟩:=hk;have k0:a.tmps.getD 23 undef=.pointer (some ⟨g2,o2+q,none⟩):=k0;have d0:w.cell? ⟨g2,o2+q,none⟩=some (.int .i64 y):=bel_cell hW.1.bel (E2.out 0 _ rfl);go_simp;exact hK _ _ (Below.refl _ _) hW rfl
    refine ⟨fun a w hW hk K hK=>?_,?_⟩
    · obtain ⟨k0,k1,-⟩:=hk;have k0:a.tmps.getD 20 undef=.int .i64 x:=k0;have k1:a.tmps.getD 24 undef=.int .i64 y:=k1;go_simp;exact hK _ _ (Below.refl _ _) hW rfl
    trivial
   case hend =>
    intro ops a18 w18 hWD hE hFD;have hd25:a18.tmps.getD 25 undef=.bool (x != y):=hE 25 rfl;have hF18:Fr 26 a18 [(25,.bool (x != y)),(1,.slice p2 m.length d),(0,.slice p l.length c),(4,.bool false),(5,.int .i64 (q:Int))]:=(hFD.cons hd25);clear hd25;have hW18:Wd w w18 []:=hWD.1;clear hFD hWD hE hF17 h14;clear hW11;refine wpList_nil ?_;refine hK16 _ _ ?_;refine fr_cond (t:=25) hF18 rfl (fun hb=>?_) (fun hb=>?_)
    ·have h9:¬ x=y:=bne_iff_ne.1 hb
     have hel:¬ x=y:=h9;clear h9;clear hb;refine wp_seq_k fun K19 hK19=>?_;refine rg hF18 fun ops=>?_;clear hF18 a18;refine sa trivial rfl rfl ?_;refine St.nil fun a20 h20=>?_;refine hK19 _ _ ?_;refine wp_ret ?_;with_reducible repeat first | refine of_then_ret ?_ | refine of_block_ret ?_
     have R:¬ l=m:=by
       intro e
       first
         | exact hlen (by rw [e])
         | exact hel (by rw [← hx.out,← hy.out,e])
     exact ret_tmp (t:=4) h20 rfl rfl ⟨by rw [bdec_false R],hW18.bel⟩
    have h9:x=y:=bne_eq_false_iff_eq.1 hb;have hel:Hid (x=y):=h9;clear h9;clear hb;refine wp_skip ?_;refine hK15 _ _ ?_;refine rg hF18 fun ops=>?_;clear hF18 a18;refine sm trivial rfl rfl ?_;refine sad (by omega) trivial rfl rfl rfl ?_;refine sa trivial rfl rfl ?_;refine St.nil fun a21 h21=>?_;refine hKL _ _ (l.length - (q+1)) (by omega) ⟨q+1,by omega,rfl,?_,(h21.keep (h21.keep (h21.keep (h21.keep h21.nil (t:=5) rfl) (t:=4) rfl) (t:=0) rfl) (t:=1) rfl),hW18⟩
    ·intro j hj
     by_cases e:j=q
     · subst e;rw [hx.out,hy.out];exact hel.out
     · exact hall j (by omega)
  have hge:q=l.length:=by have:=of_decide_eq_false hb;omega
  clear hb;refine wp_exit ?_;refine hK8 _ _ ?_;refine wp_seq_k fun K22 hK22=>?_;refine rg h14 fun ops=>?_;clear h14 a14;refine sa trivial rfl rfl ?_;refine St.nil fun a23 h23=>?_;refine hK22 _ _ ?_;refine wp_ret ?_;with_reducible repeat first | refine of_then_ret ?_ | refine of_block_ret ?_
  have R:l=m:=by
    refine List.ext_getElem hlen.out fun i h1 h2=>?_
    have:=hall i (by omega)
    simpa [List.getD,h1,h2] using this
  exact ret_tmp (t:=4) h23 rfl rfl ⟨by rw [bdec_true R],hW11.bel⟩
end Go.Proofs.YtalfbnllodhkiacGreatDoor
namespace Go.Proofs.YtalfbnllodhkiacGreatDoor
open Go.ChangeShapes Go.WideShapes Go.ChangeAt Go.RowKit
set_option linter.unusedVariables false
def SaysEq (e : Ending) (A : Prop) : Prop := ∃ q : Bool, e = .returned (.bool q) ∧ (q = true ↔ A)
theorem SaysEq.yes {A : Prop} (h : A) : SaysEq (.returned (.bool true)) A := ⟨true, rfl, by simp [h]⟩
theorem SaysEq.no {A : Prop} (h : ¬ A) : SaysEq (.returned (.bool false)) A := ⟨false, rfl, by simp [h]⟩
def SameAt (f : Nat) (n : Nat) : Prop := ∀ (t u : TT n) (a b : Option Addr) (c d : Nat) (w : World), TIn w All t a → TIn w All u b → t.count ≤ 100000 →
    Calls Tryz.prog f #[Tv t a c,Tv u b d] w fun e w'=>SaysEq e (t=u)∧Below w.heap.size w w'
theorem sames_any (n : Nat) (IH0 : SameAt 68 n) (l m : List (TT n)) (a b : Option Addr) (c d : Nat) (w : World) (hl0 : LIn w All l a) (hm0 : LIn w All m b) (hlen : l.length ≤ 100000) (hco0 : ∀ x ∈ l, x.count ≤ 100000) :
    Calls Tryz.prog 33 #[.slice a l.length c,.slice b m.length d] w fun e w'=>SaysEq e (l=m)∧Below w.heap.size w w':=by
  have IH:Hid (SameAt 68 n):=IH0;have hl:Hid (LIn w All l a):=hl0;have hm:Hid (LIn w All m b):=hm0;have hco:Hid (∀ x∈l,x.count≤100000):=hco0;clear IH0 hl0 hm0 hco0;by_cases hne:l.length=m.length
  · have hne':((l.length:Int) != (m.length:Int))=false:=by simp;omega
    have E:Hid (l.length=m.length):=hne;clear hne;go_enter Tryz.func33,Tryz.ntmps33
    go_wp2_with fail
    go_loopw [5] (fun i wr=>∃ q:Nat,q≤l.length∧i=.int .i64 q∧(∀ j,j<q→l[j]?=m[j]?)∧Below w.heap.size w wr) (fun i _=>l.length - (intOf i).toNat)
    case atStart=>exact ⟨0,Nat.zero_le _,rfl,fun j hj=>by omega,Below.refl _ _⟩
    case round =>
      obtain ⟨q,hq,rfl,hall,hb⟩:=hrel;have A:Hid (∀ j,j<q→l[j]?=m[j]?):=hall;have B:Hid (Below w.heap.size w wr):=hb;clear hall hb;by_cases hlt:q<l.length
      · have hx:l[q]?=some l[q]:=List.getElem?_eq_getElem hlt;have hlm:q<m.length:=by have:=E.out;omega
        have hy:m[q]?=some m[q]:=List.getElem?_eq_getElem hlm;generalize l[q]=x at hx;generalize m[q]=y at hy;obtain ⟨g,o,a',c',rfl,_,d0,d1,d2,hk⟩:=LIn.at (hl.out.below B.out) hx;obtain ⟨g',o',b',d',rfl,_,d3,d4,d5,hk'⟩:=LIn.at (hm.out.below B.out) hy
        have C:Hid (∀ k,Calls Tryz.prog 68 #[Tv x a' c',Tv y b' d'] (wr.drewN k) fun e w'=>SaysEq e (x=y)∧Below wr.heap.size wr w') :=
          fun k=>(IH.out x y a' b' c' d' _ (hk.drewN k) (hk'.drewN k) (hco.out x (List.mem_of_getElem? hx))).mono (fun e w' h=>⟨h.1,undrewN_below h.2⟩)
        have hx':Hid (l[q]?=some x):=hx;have hy':Hid (m[q]?=some y):=hy;clear hk hk' hx hy;have hk0:(0:Int)≤q:=by omega
        have hk1:(q:Int)<l.length:=by omega
        have hk3:(q:Int)<m.length:=by omega
        go_upto_region 6 with fail
        go_cut [26] (fun t wx=>∃ p:Bool,t=.bool (!p)∧(p=true ↔ x=y)∧Below wr.heap.size wr wx)
        case first =>
          go_region_with (go_at_call 68;refine (C.out 1).mono ?_;rintro r w5 ⟨⟨p,rfl,hp⟩,b5⟩;have HP:Hid (p=true ↔ x=y):=hp;have B5:Hid (Below wr.heap.size wr w5):=b5;clear hp b5)
          all_goals
            go_wp2
            go_meet;exact ⟨p,rfl,HP.out,B5.out⟩
        case rest =>
          obtain ⟨p,rfl,hp,b5⟩:=hcut;have HB:Hid (Below w.heap.size w wc):=B.out.trans (b5.mono B.out.size);clear C b5 B d0 d1 d2 d3 d4 d5
          cases p with
          | true =>
            have hxy:x=y:=hp.1 rfl
            have A2:Hid (∀ j,j<q+1→l[j]?=m[j]?):=fun j hj=>by
              by_cases e:j=q
              · subst e;rw [hx'.out,hy'.out,hxy]
              · exact A.out j (by omega)
            clear hp hxy hx' hy' A;go_wp2
            go_roundw
            case rel=>exact ⟨q+1,by omega,by go_num,A2.out,HB.out⟩
            case measure=>simp [intOf];omega
          | false =>
            have hxy:Hid (¬ l=m):=fun h=>by
              have h1:=hx'.out;rw [h,hy'.out] at h1
              have:=hp.2 (Option.some.inj h1).symm
              cases this
            clear hp hx' hy' A;go_wp2
            go_ret;exact ⟨SaysEq.no hxy.out,HB.out⟩
      · have R:Hid (l=m):=by
          have:=E.out
          refine List.ext_getElem? (fun i=>?_);by_cases hi:i<q
          · exact A.out i hi
          · rw [List.getElem?_eq_none (by omega),List.getElem?_eq_none (by omega)]
        have hk1:¬ (q:Int)<l.length:=by omega
        clear A;go_wp2
        go_ret;exact ⟨SaysEq.yes R.out,B.out⟩
  · have hne':((l.length:Int) != (m.length:Int))=true:=by simp;omega
    have E:Hid (l.length≠m.length):=hne;clear hne;go_enter Tryz.func33,Tryz.ntmps33
    go_wp2
    go_ret;exact ⟨SaysEq.no (fun h=>E.out (by rw [h])),Below.refl _ _⟩
theorem TT.eq_iff {n : Nat} {t u : TT (n + 1)} : t = u ↔ t.kind = u.kind ∧ t.r = u.r ∧ t.2.2 = u.2.2 := by
  obtain ⟨a,b,c⟩:=t;obtain ⟨d,e,f⟩:=u;constructor
  · intro h;cases h;exact ⟨rfl,rfl,rfl⟩
  · rintro ⟨rfl,rfl,rfl⟩;rfl
theorem samet_any : ∀ n, SameAt 68 n := by
  intro n
  induction n with
  | zero=>intro t;exact Empty.elim t
  | succ n ih =>
    intro t u a b c d w ht hu hc;have hco:∀ x∈t.2.2,x.count≤100000:=fun x hx=>by have:=t.count_kid hx;omega
    have hlen:t.2.2.length≤100000:=by have:=t.len_lt_count;rw [t.len_eq] at this;omega
    have C:Hid (∀ wx,Below w.heap.size w wx→Calls Tryz.prog 33 #[.slice a t.2.2.length c,.slice b u.2.2.length d] wx fun e w'=>SaysEq e (t.2.2=u.2.2)∧Below wx.heap.size wx w') :=
      fun wx hb=>sames_any n ih t.2.2 u.2.2 a b c d wx (ht.below hb) (hu.below hb) hlen hco
    rw [TT.eq_iff];simp only [Tv,TT.len_eq] at C ⊢;generalize t.2.2.length=p at C ⊢;generalize u.2.2.length=q at C ⊢;generalize (t.2.2=u.2.2)=E at C ⊢;generalize t.kind=k;generalize t.r=r;generalize u.kind=k';generalize u.r=r';clear hco hlen hc ht hu ih t u;by_cases hk:k=k'
    · subst hk;by_cases hr:r=r'
      · subst hr;go_enter Tryz.func68,Tryz.ntmps68
        go_wp2_with fail
        have B1:Below w.heap.size w ((w.alloc (.cells #[.int .i64 k,.int .i64 r,.slice a p c] 78)).alloc (.cells #[.int .i64 k,.int .i64 r,.slice b q d] 78)):=((Below.refl _ w).alloc (Nat.le_refl _) _).alloc (by simp) _;refine (C.out _ B1).mono ?_;rintro e w2 ⟨⟨v,rfl,hv⟩,b2⟩;have B:Hid (Below w.heap.size w w2):=B1.trans (b2.mono B1.size);have V:Hid (v=true ↔ E):=hv;clear b2 C hv B1
        cases v
        all_goals
          go_wp2
          go_ret
        · exact ⟨SaysEq.no (fun h=>by have:=V.out.2 h.2.2;cases this),B.out⟩
        · exact ⟨SaysEq.yes (by have:=V.out;simpa using this),B.out⟩
      · have hr':(r==r')=false:=by simpa using hr
        have R:Hid (¬ r=r'):=hr;clear hr;go_enter Tryz.func68,Tryz.ntmps68
        go_wp2_with fail
        go_ret;exact ⟨SaysEq.no (fun h=>R.out h.2.1),((Below.refl _ w).alloc (Nat.le_refl _) _).alloc (by simp) _⟩
    · have hk':(k==k')=false:=by simpa using hk
      have R:Hid (¬ k=k'):=hk;clear hk;go_enter Tryz.func68,Tryz.ntmps68
      go_wp2_with fail
      go_ret;exact ⟨SaysEq.no (fun h=>R.out h.1),((Below.refl _ w).alloc (Nat.le_refl _) _).alloc (by simp) _⟩
abbrev FV : Value := .func (.func 207) #[] #[]
theorem eqf_any (n : Nat) (IH0 : SameAt 207 n) (l m : List (TT n)) (a b : Option Addr) (c d : Nat) (w : World) (hl0 : LIn w All l a) (hm0 : LIn w All m b) (hlen : l.length ≤ 100000) (hco0 : ∀ x ∈ l, x.count ≤ 100000) :
    Calls Tryz.prog 206 #[.slice a l.length c,.slice b m.length d,FV] w fun e w'=>SaysEq e (l=m)∧Below w.heap.size w w':=by
  have IH:Hid (SameAt 207 n):=IH0;have hl:Hid (LIn w All l a):=hl0;have hm:Hid (LIn w All m b):=hm0;have hco:Hid (∀ x∈l,x.count≤100000):=hco0;clear IH0 hl0 hm0 hco0;by_cases hne:l.length=m.length
  · have hne':((l.length:Int) != (m.length:Int))=false:=by simp;omega
    have E:Hid (l.length=m.length):=hne;clear hne;go_enter Tryz.func206,Tryz.ntmps206
    go_wp2_with fail
    go_loopw [17] (fun i wr=>∃ q:Nat,q≤l.length∧i=.int .i64 q∧(∀ j,j<q→l[j]?=m[j]?)∧Below w.heap.size w wr) (fun i _=>l.length - (intOf i).toNat)
    case atStart=>exact ⟨0,Nat.zero_le _,rfl,fun j hj=>by omega,Below.refl _ _⟩
    case round =>
      obtain ⟨q,hq,rfl,hall,hb⟩:=hrel;have A:Hid (∀ j,j<q→l[j]?=m[j]?):=hall;have B:Hid (Below w.heap.size w wr):=hb;clear hall hb;by_cases hlt:q<l.length
      · have hx:l[q]?=some l[q]:=List.getElem?_eq_getElem hlt;have hlm:q<m.length:=by have:=E.out;omega
        have hy:m[q]?=some m[q]:=List.getElem?_eq_getElem hlm;generalize l[q]=x at hx;generalize m[q]=y at hy;obtain ⟨g,o,a',c',rfl,_,d0,d1,d2,hk⟩:=LIn.at (hl.out.below B.out) hx;obtain ⟨g',o',b',d',rfl,_,d3,d4,d5,hk'⟩:=LIn.at (hm.out.below B.out) hy
        have C:Hid (∀ wx,Below wr.heap.size wr wx→Calls Tryz.prog 207 #[Tv x a' c',Tv y b' d'] wx fun e w'=>SaysEq e (x=y)∧Below wx.heap.size wx w') :=
          fun wx hb=>IH.out x y a' b' c' d' _ (hk.below hb) (hk'.below hb) (hco.out x (List.mem_of_getElem? hx))
        have hx':Hid (l[q]?=some x):=hx;have hy':Hid (m[q]?=some y):=hy;have hg:g<wr.heap.size:=World.block_lt_of_cell? wr ⟨g,o+q*3,none⟩ d0;have hg':g'<wr.heap.size:=World.block_lt_of_cell? wr ⟨g',o'+q*3,none⟩ d3;clear hk hk' hx hy;simp only [Tv] at C;generalize x.kind=kx at C d0;generalize x.r=rx at C d1;generalize x.len=lx at C d2;generalize y.kind=ky at C d3;generalize y.r=ry at C d4;generalize y.len=ly at C d5;have hk0:(0:Int)≤q:=by omega
        have hk1:(q:Int)<l.length:=by omega
        have hk3:(q:Int)<m.length:=by omega
        go_wp2_with fail
        have B1:Below wr.heap.size wr ((wr.alloc (.cells #[.int .i64 kx,.int .i64 rx,.slice a' lx c'] 78)).alloc (.cells #[.int .i64 ky,.int .i64 ry,.slice b' ly d'] 78)):=((Below.refl _ wr).alloc (Nat.le_refl _) _).alloc (by simp) _;refine (C.out _ B1).mono ?_;rintro r w5 ⟨⟨p,rfl,hp⟩,b5⟩;have HB:Hid (Below w.heap.size w w5):=(B.out.trans (B1.mono B.out.size)).trans (b5.mono (Nat.le_trans B.out.size B1.size));clear C b5 B d0 d1 d2 d3 d4 d5 B1
        cases p with
        | true =>
          have hxy:x=y:=hp.1 rfl
          have A2:Hid (∀ j,j<q+1→l[j]?=m[j]?):=fun j hj=>by
            by_cases e:j=q
            · subst e;rw [hx'.out,hy'.out,hxy]
            · exact A.out j (by omega)
          clear hp hxy hx' hy' A;go_wp2
          go_roundw
          case rel=>exact ⟨q+1,by omega,by go_num,A2.out,HB.out⟩
          case measure=>simp [intOf];omega
        | false =>
          have hxy:Hid (¬ l=m):=fun h=>by
            have h1:=hx'.out;rw [h,hy'.out] at h1
            have:=hp.2 (Option.some.inj h1).symm
            cases this
          clear hp hx' hy' A;go_wp2
          go_ret;exact ⟨SaysEq.no hxy.out,HB.out⟩
      · have R:Hid (l=m):=by
          have:=E.out
          refine List.ext_getElem? (fun i=>?_);by_cases hi:i<q
          · exact A.out i hi
          · rw [List.getElem?_eq_none (by omega),List.getElem?_eq_none (by omega)]
        have hk1:¬ (q:Int)<l.length:=by omega
        clear A;go_wp2
        go_ret;exact ⟨SaysEq.yes R.out,B.out⟩
  · have hne':((l.length:Int) != (m.length:Int))=true:=by simp;omega
    have E:Hid (l.length≠m.length):=hne;clear hne;go_enter Tryz.func206,Tryz.ntmps206
    go_wp2
    go_ret;exact ⟨SaysEq.no (fun h=>E.out (by rw [h])),Below.refl _ _⟩
theorem same_any : ∀ n, SameAt 207 n := by
  intro n
  induction n with
  | zero=>intro t;exact Empty.elim t
  | succ n ih =>
    intro t u a b c d w ht hu hc;have hco:∀ x∈t.2.2,x.count≤100000:=fun x hx=>by have:=t.count_kid hx;omega
    have hlen:t.2.2.length≤100000:=by have:=t.len_lt_count;rw [t.len_eq] at this;omega
    have C:Hid (∀ wx,Below w.heap.size w wx→Calls Tryz.prog 206 #[.slice a t.2.2.length c,.slice b u.2.2.length d,FV] wx fun e w'=>SaysEq e (t.2.2=u.2.2)∧Below wx.heap.size wx w') :=
      fun wx hb=>eqf_any n ih t.2.2 u.2.2 a b c d wx (ht.below hb) (hu.below hb) hlen hco
    rw [TT.eq_iff];simp only [Tv,TT.len_eq] at C ⊢;generalize t.2.2.length=p at C ⊢;generalize u.2.2.length=q at C ⊢;generalize (t.2.2=u.2.2)=E at C ⊢;generalize t.kind=k;generalize t.r=r;generalize u.kind=k';generalize u.r=r';clear hco hlen hc ht hu ih t u;by_cases hk:k=k'
    · subst hk;by_cases hr:r=r'
      · subst hr;go_enter Tryz.func207,Tryz.ntmps207
        go_wp2_with fail
        have B1:Below w.heap.size w ((w.alloc (.cells #[.int .i64 k,.int .i64 r,.slice a p c] 78)).alloc (.cells #[.int .i64 k,.int .i64 r,.slice b q d] 78)):=((Below.refl _ w).alloc (Nat.le_refl _) _).alloc (by simp) _;refine (C.out _ B1).mono ?_;rintro e w2 ⟨⟨v,rfl,hv⟩,b2⟩;have B:Hid (Below w.heap.size w w2):=B1.trans (b2.mono B1.size);have V:Hid (v=true ↔ E):=hv;clear b2 C hv B1
        cases v
        all_goals
          go_wp2
          go_ret
        · exact ⟨SaysEq.no (fun h=>by have:=V.out.2 h.2.2;cases this),B.out⟩
        · exact ⟨SaysEq.yes (by have:=V.out;simpa using this),B.out⟩
      · have hr':(r==r')=false:=by simpa using hr
        have R:Hid (¬ r=r'):=hr;clear hr;go_enter Tryz.func207,Tryz.ntmps207
        go_wp2_with fail
        go_ret;exact ⟨SaysEq.no (fun h=>R.out h.2.1),((Below.refl _ w).alloc (Nat.le_refl _) _).alloc (by simp) _⟩
    · have hk':(k==k')=false:=by simpa using hk
      have R:Hid (¬ k=k'):=hk;clear hk;go_enter Tryz.func207,Tryz.ntmps207
      go_wp2_with fail
      go_ret;exact ⟨SaysEq.no (fun h=>R.out h.1),((Below.refl _ w).alloc (Nat.le_refl _) _).alloc (by simp) _⟩
end Go.Proofs.YtalfbnllodhkiacGreatDoor
namespace Go.Proofs.YtalfbnllodhkiacGreatDoor
open Go.ChangeShapes Go.WideShapes Go.ChangeAt Go.RowKit
set_option linter.unusedSimpArgs false
set_option linter.unusedVariables false
theorem MTo.eq_of {x y : MTo} (h1 : x.block = y.block) (h2 : x.regs = y.regs) (h3 : x.args = y.args) : x = y := by cases x; cases y; simp_all
theorem MIns.eq_of {x y : MIns} (h1 : x.op = y.op) (h2 : x.a = y.a) (h3 : x.b = y.b) (h4 : x.c = y.c) (h5 : x.k = y.k) (h6 : x.n = y.n) (h7 : x.regs = y.regs) (h8 : x.args = y.args) : x = y := by cases x; cases y; simp_all
theorem MEnd.eq_of {x y : MEnd} (h1 : x.op = y.op) (h2 : x.a = y.a) (h3 : x.yes = y.yes) (h4 : x.no = y.no) (h5 : x.args = y.args) : x = y := by cases x; cases y; simp_all
theorem MBlock.eq_of {n : Nat} {x y : MBlock n} (h1 : x.regs = y.regs) (h2 : x.params = y.params) (h3 : x.code = y.code) (h4 : x.fin = y.fin) : x = y := by cases x; cases y; simp_all
theorem MFunc.eq_of {n : Nat} {x y : MFunc n} (h1 : x.regs = y.regs) (h2 : x.params = y.params) (h3 : x.results = y.results) (h4 : x.blocks = y.blocks) : x = y := by cases x; cases y; simp_all
theorem bdec_congr {A B : Prop} (h : A ↔ B) : bdec A = bdec B := by rw [propext h]
theorem rd_says {f : FuncId} {args : Array Value} {w : World} {A : Prop} (h : Calls Tryz.prog f args w fun e w' => SaysEq e A ∧ Below w.heap.size w w') : Rd Tryz.prog f args w (.bool (bdec A)) :=
  h.mono fun e w' h=>by
    obtain ⟨⟨q,rfl,hq⟩,b⟩:=h;exact ⟨by rw [bdec_of hq],b⟩
theorem sameTypes_any {n : Nat} {l m : List (TT n)} {p q : Option Addr} {c d : Nat} {w : World} (hl : (typesL n).In w All l [.slice p l.length c]) (hm : (typesL n).In w All m [.slice q m.length d]) (hs : tsmall l) : Rd Tryz.prog 33 #[.slice p l.length c, .slice q m.length d] w (.bool (bdec (l = m))) :=
  rd_says (sames_any n (samet_any n) l m p q c d w (types_lin hl).1 (types_lin hm).1 (by have:=hs.1;omega) hs.2)
theorem eqTypes_any {n : Nat} {l m : List (TT n)} {p q : Option Addr} {c d : Nat} {w : World} (hl : (typesL n).In w All l [.slice p l.length c]) (hm : (typesL n).In w All m [.slice q m.length d]) (hs : tsmall l) : Rd Tryz.prog 206 #[.slice p l.length c, .slice q m.length d, .func (.func 207) #[] #[]] w (.bool (bdec (l = m))) :=
  rd_says (eqf_any n (same_any n) l m p q c d w (types_lin hl).1 (types_lin hm).1 (by have:=hs.1;omega) hs.2)
theorem sameTo_any {x y : MTo} {pR pA qR qA : Option Addr} {cR cA dR dA : Nat} {w : World} (hx0 : TIn2 w All x pR cR pA cA) (hy0 : TIn2 w All y qR dR qA dA) (hs0 : x.small) :
    Rd Tryz.prog 70 #[.agg #[.int .i64 x.block,.slice pR x.regs.length cR,.slice pA x.args.length cA],.agg #[.int .i64 y.block,.slice qR y.regs.length dR,.slice qA y.args.length dA]] w (.bool (bdec (x=y))):=by
  have hx:Hid _:=hx0;have hy:Hid _:=hy0;have hs:Hid _:=hs0;clear hx0 hy0 hs0;refine fr_enter (n:=24) Tryz.func70 rfl rfl rfl ?_;intro a hF;have hW:=Wd.start w;replace hF:Fr 24 a [(0,.agg #[.int .i64 x.block,.slice pR x.regs.length cR,.slice pA x.args.length cA]),(1,.agg #[.int .i64 y.block,.slice qR y.regs.length dR,.slice qA y.args.length dA])]:=hF;refine wp_seq_k fun K1 hK1=>?_;refine rg hF fun ops=>?_;clear hF a;refine sB hW trivial rfl rfl ?_;clear hW;intro w2 B2 hW2 hN;clear hN;refine sB hW2 trivial rfl rfl ?_;clear hW2;intro w3 B3 hW3 hN;clear hN;refine sa trivial rfl rfl ?_;refine St.nil fun a4 h4=>?_;refine hK1 _ _ ?_;refine wp_seq_k fun K5 hK5=>?_;refine fr_region ?_;intro ops hops;have hg5:(ops[5]?).bind (fun o:Oper=>o.dst)=some 10:=hops 5;have hg12:(ops[12]?).bind (fun o:Oper=>o.dst)=some 17:=hops 12;clear hops;refine St.go h4 ?_;clear h4 a4;refine sfTo0 trivial rfl rfl ?_;refine sbInt 1 hW3 trivial rfl rfl rfl rfl ?_;refine sfTo0 trivial rfl rfl ?_;refine sbInt 0 hW3 trivial rfl rfl rfl rfl ?_;refine seq trivial rfl rfl rfl ?_;refine sm trivial rfl rfl ?_;intro a6 h6;rcases Bool.eq_false_or_eq_true (x.block==y.block) with hb | hb
  ·rw [hb] at h6
   have h9:x.block=y.block:=eq_of_beq hb;have hc7:Hid (x.block=y.block):=h9;clear h9;clear hb;refine St.go h6 ?_;clear h6 a6;refine sfTo1 ⟨_,hg5,rfl,rfl⟩ rfl rfl ?_;refine sbInts 1 hW3 ⟨_,hg5,rfl,rfl⟩ rfl rfl rfl rfl ?_;refine sfTo1 ⟨_,hg5,rfl,rfl⟩ rfl rfl ?_;refine sbInts 0 hW3 ⟨_,hg5,rfl,rfl⟩ rfl rfl rfl rfl ?_;refine sc_2 cf71 hW3 (sameInts_any x.regs y.regs pR qR cR dR w3 (Lay.below hx.out.regs hW3.bel) (Lay.below hy.out.regs hW3.bel) (by have:=hs.out.1;omega)) ⟨_,hg5,rfl,rfl⟩ rfl rfl rfl ?_;clear hW3;intro w8 hW8;refine sp trivial rfl rfl rfl ?_;refine sm trivial rfl rfl ?_;intro a9 h9;rcases Bool.eq_false_or_eq_true (bdec (x.regs=y.regs)) with hb | hb
   ·rw [hb] at h9
    have hc10:(x.regs=y.regs):=bdec_iff.1 hb;clear hb;refine St.go h9 ?_;clear h9 a9;refine sfTo2 ⟨_,hg12,rfl,rfl⟩ rfl rfl ?_;refine sbInts 1 hW8 ⟨_,hg12,rfl,rfl⟩ rfl rfl rfl rfl ?_;refine sfTo2 ⟨_,hg12,rfl,rfl⟩ rfl rfl ?_;refine sbInts 0 hW8 ⟨_,hg12,rfl,rfl⟩ rfl rfl rfl rfl ?_;refine sc_2 cf71 hW8 (sameInts_any x.args y.args pA qA cA dA w8 (Lay.below hx.out.args hW8.bel) (Lay.below hy.out.args hW8.bel) (by have:=hs.out.2;omega)) ⟨_,hg12,rfl,rfl⟩ rfl rfl rfl ?_;clear hW8;intro w11 hW11;refine sp trivial rfl rfl rfl ?_;refine sa trivial rfl rfl ?_;refine St.nil fun a12 h12=>?_;refine hK5 _ _ ?_;refine wp_ret ?_;with_reducible repeat first | refine of_then_ret ?_ | refine of_block_ret ?_
    have R:x.args=y.args ↔ x=y:=⟨fun h=>MTo.eq_of hc7.out hc10 h,fun e=>by rw [e]⟩;exact ret_tmp (t:=4) h12 rfl rfl ⟨by rw [bdec_congr R],hW11.bel⟩
   rw [hb] at h9;have hc13:¬ (x.regs=y.regs):=fun h=>by rw [bdec_true h] at hb;cases hb
   clear hb;refine St.go h9 ?_;clear h9 a9;refine so hg12 rfl rfl rfl rfl ?_;refine so hg12 rfl rfl rfl rfl ?_;refine so hg12 rfl rfl rfl rfl ?_;refine so hg12 rfl rfl rfl rfl ?_;refine so hg12 rfl rfl rfl rfl ?_;refine spf trivial rfl rfl rfl ?_;refine sa trivial rfl rfl ?_;refine St.nil fun a14 h14=>?_;refine hK5 _ _ ?_;refine wp_ret ?_;with_reducible repeat first | refine of_then_ret ?_ | refine of_block_ret ?_
   have R:¬ x=y:=fun e=>hc13 (by rw [e]);exact ret_tmp (t:=4) h14 rfl rfl ⟨by rw [bdec_false R],hW8.bel⟩
  rw [hb] at h6;have h9:¬ x.block=y.block:=ne_of_beq_false hb;have hc15:¬ x.block=y.block:=h9;clear h9;clear hb;refine St.go h6 ?_;clear h6 a6;refine so hg5 rfl rfl rfl rfl ?_;refine so hg5 rfl rfl rfl rfl ?_;refine so hg5 rfl rfl rfl rfl ?_;refine so hg5 rfl rfl rfl rfl ?_;refine so hg5 rfl rfl rfl rfl ?_;refine spf trivial rfl rfl rfl ?_;refine sm trivial rfl rfl ?_;refine so hg12 rfl rfl rfl rfl ?_;refine so hg12 rfl rfl rfl rfl ?_;refine so hg12 rfl rfl rfl rfl ?_;refine so hg12 rfl rfl rfl rfl ?_;refine so hg12 rfl rfl rfl rfl ?_;refine spf trivial rfl rfl rfl ?_;refine sa trivial rfl rfl ?_;refine St.nil fun a16 h16=>?_;refine hK5 _ _ ?_;refine wp_ret ?_;with_reducible repeat first | refine of_then_ret ?_ | refine of_block_ret ?_
  have R:¬ x=y:=fun e=>hc15 (by rw [e]);exact ret_tmp (t:=4) h16 rfl rfl ⟨by rw [bdec_false R],hW3.bel⟩
theorem sameIns_any {x y : MIns} {i j : IP} {w : World} (hx0 : IIn w All x i) (hy0 : IIn w All y j) (hs0 : x.small) :
    Rd Tryz.prog 69 #[.agg #[.int .i64 x.op,.int .i64 x.a,.int .i64 x.b,.int .i64 x.c,.int .i64 x.k,.int .i64 x.n,.slice i.pR x.regs.length i.cR,.slice i.pA x.args.length i.cA],.agg #[.int .i64 y.op,.int .i64 y.a,.int .i64 y.b,.int .i64 y.c,.int .i64 y.k,.int .i64 y.n,.slice j.pR y.regs.length j.cR,.slice j.pA y.args.length j.cA]] w (.bool (bdec (x=y))):=by
  have hx:Hid _:=hx0;have hy:Hid _:=hy0;have hs:Hid _:=hs0;clear hx0 hy0 hs0;refine fr_enter (n:=59) Tryz.func69 rfl rfl rfl ?_;intro a hF;have hW:=Wd.start w;replace hF:Fr 59 a [(0,.agg #[.int .i64 x.op,.int .i64 x.a,.int .i64 x.b,.int .i64 x.c,.int .i64 x.k,.int .i64 x.n,.slice i.pR x.regs.length i.cR,.slice i.pA x.args.length i.cA]),(1,.agg #[.int .i64 y.op,.int .i64 y.a,.int .i64 y.b,.int .i64 y.c,.int .i64 y.k,.int .i64 y.n,.slice j.pR y.regs.length j.cR,.slice j.pA y.args.length j.cA])]:=hF;refine wp_seq_k fun K1 hK1=>?_;refine rg hF fun ops=>?_;clear hF a;refine sB hW trivial rfl rfl ?_;clear hW;intro w2 B2 hW2 hN;clear hN;refine sB hW2 trivial rfl rfl ?_;clear hW2;intro w3 B3 hW3 hN;clear hN;refine sa trivial rfl rfl ?_;refine St.nil fun a4 h4=>?_;refine hK1 _ _ ?_;refine wp_seq_k fun K5 hK5=>?_;refine fr_region ?_;intro ops hops;have hg5:(ops[5]?).bind (fun o:Oper=>o.dst)=some 10:=hops 5;have hg12:(ops[12]?).bind (fun o:Oper=>o.dst)=some 17:=hops 12;have hg19:(ops[19]?).bind (fun o:Oper=>o.dst)=some 24:=hops 19;have hg26:(ops[26]?).bind (fun o:Oper=>o.dst)=some 31:=hops 26;have hg33:(ops[33]?).bind (fun o:Oper=>o.dst)=some 38:=hops 33;have hg40:(ops[40]?).bind (fun o:Oper=>o.dst)=some 45:=hops 40;have hg47:(ops[47]?).bind (fun o:Oper=>o.dst)=some 52:=hops 47;clear hops;refine St.go h4 ?_;clear h4 a4;refine sfIns0 trivial rfl rfl ?_;refine sbInt 1 hW3 trivial rfl rfl rfl rfl ?_;refine sfIns0 trivial rfl rfl ?_;refine sbInt 0 hW3 trivial rfl rfl rfl rfl ?_;refine seq trivial rfl rfl rfl ?_;refine sm trivial rfl rfl ?_;intro a6 h6;rcases Bool.eq_false_or_eq_true (x.op==y.op) with hb | hb
  ·rw [hb] at h6
   have h9:x.op=y.op:=eq_of_beq hb;have hc7:Hid (x.op=y.op):=h9;clear h9;clear hb;refine St.go h6 ?_;clear h6 a6;refine sfIns1 ⟨_,hg5,rfl,rfl⟩ rfl rfl ?_;refine sbInt 1 hW3 ⟨_,hg5,rfl,rfl⟩ rfl rfl rfl rfl ?_;refine sfIns1 ⟨_,hg5,rfl,rfl⟩ rfl rfl ?_;refine sbInt 0 hW3 ⟨_,hg5,rfl,rfl⟩ rfl rfl rfl rfl ?_;refine seq ⟨_,hg5,rfl,rfl⟩ rfl rfl rfl ?_;refine sp trivial rfl rfl rfl ?_;refine sm trivial rfl rfl ?_;intro a8 h8;rcases Bool.eq_false_or_eq_true (x.a==y.a) with hb | hb
   ·rw [hb] at h8
    have h9:x.a=y.a:=eq_of_beq hb;have hc9:Hid (x.a=y.a):=h9;clear h9;clear hb;refine St.go h8 ?_;clear h8 a8;refine sfIns2 ⟨_,hg12,rfl,rfl⟩ rfl rfl ?_;refine sbInt 1 hW3 ⟨_,hg12,rfl,rfl⟩ rfl rfl rfl rfl ?_;refine sfIns2 ⟨_,hg12,rfl,rfl⟩ rfl rfl ?_;refine sbInt 0 hW3 ⟨_,hg12,rfl,rfl⟩ rfl rfl rfl rfl ?_;refine seq ⟨_,hg12,rfl,rfl⟩ rfl rfl rfl ?_;refine sp trivial rfl rfl rfl ?_;refine sm trivial rfl rfl ?_;intro a10 h10;rcases Bool.eq_false_or_eq_true (x.b==y.b) with hb | hb
    ·rw [hb] at h10
     have h9:x.b=y.b:=eq_of_beq hb;have hc11:Hid (x.b=y.b):=h9;clear h9;clear hb;refine St.go h10 ?_;clear h10 a10;refine sfIns3 ⟨_,hg19,rfl,rfl⟩ rfl rfl ?_;refine sbInt 1 hW3 ⟨_,hg19,rfl,rfl⟩ rfl rfl rfl rfl ?_;refine sfIns3 ⟨_,hg19,rfl,rfl⟩ rfl rfl ?_;refine sbInt 0 hW3 ⟨_,hg19,rfl,rfl⟩ rfl rfl rfl rfl ?_;refine seq ⟨_,hg19,rfl,rfl⟩ rfl rfl rfl ?_;refine sp trivial rfl rfl rfl ?_;refine sm trivial rfl rfl ?_;intro a12 h12;rcases Bool.eq_false_or_eq_true (x.c==y.c) with hb | hb
     ·rw [hb] at h12
      have h9:x.c=y.c:=eq_of_beq hb;have hc13:Hid (x.c=y.c):=h9;clear h9;clear hb;refine St.go h12 ?_;clear h12 a12;refine sfIns4 ⟨_,hg26,rfl,rfl⟩ rfl rfl ?_;refine sbInt 1 hW3 ⟨_,hg26,rfl,rfl⟩ rfl rfl rfl rfl ?_;refine sfIns4 ⟨_,hg26,rfl,rfl⟩ rfl rfl ?_;refine sbInt 0 hW3 ⟨_,hg26,rfl,rfl⟩ rfl rfl rfl rfl ?_;refine seq ⟨_,hg26,rfl,rfl⟩ rfl rfl rfl ?_;refine sp trivial rfl rfl rfl ?_;refine sm trivial rfl rfl ?_;intro a14 h14;rcases Bool.eq_false_or_eq_true (x.k==y.k) with hb | hb
      ·rw [hb] at h14
       have h9:x.k=y.k:=eq_of_beq hb;have hc15:Hid (x.k=y.k):=h9;clear h9;clear hb;refine St.go h14 ?_;clear h14 a14;refine sfIns5 ⟨_,hg33,rfl,rfl⟩ rfl rfl ?_;refine sbInt6 1 hW3 ⟨_,hg33,rfl,rfl⟩ rfl rfl rfl rfl ?_;refine sfIns5 ⟨_,hg33,rfl,rfl⟩ rfl rfl ?_;refine sbInt6 0 hW3 ⟨_,hg33,rfl,rfl⟩ rfl rfl rfl rfl ?_;refine seq6 ⟨_,hg33,rfl,rfl⟩ rfl rfl rfl ?_;refine sp trivial rfl rfl rfl ?_;refine sm trivial rfl rfl ?_;intro a16 h16;rcases Bool.eq_false_or_eq_true (x.n==y.n) with hb | hb
       ·rw [hb] at h16
        have h9:x.n=y.n:=eq_of_beq hb;have hc17:Hid (x.n=y.n):=h9;clear h9;clear hb;refine St.go h16 ?_;clear h16 a16;refine sfIns6 ⟨_,hg40,rfl,rfl⟩ rfl rfl ?_;refine sbInts 1 hW3 ⟨_,hg40,rfl,rfl⟩ rfl rfl rfl rfl ?_;refine sfIns6 ⟨_,hg40,rfl,rfl⟩ rfl rfl ?_;refine sbInts 0 hW3 ⟨_,hg40,rfl,rfl⟩ rfl rfl rfl rfl ?_;refine sc_2 cf71 hW3 (sameInts_any x.regs y.regs i.pR j.pR i.cR j.cR w3 (Lay.below hx.out.regs hW3.bel) (Lay.below hy.out.regs hW3.bel) (by have:=hs.out.1;omega)) ⟨_,hg40,rfl,rfl⟩ rfl rfl rfl ?_;clear hW3;intro w18 hW18;refine sp trivial rfl rfl rfl ?_;refine sm trivial rfl rfl ?_;intro a19 h19;rcases Bool.eq_false_or_eq_true (bdec (x.regs=y.regs)) with hb | hb
        ·rw [hb] at h19
         have hc20:(x.regs=y.regs):=bdec_iff.1 hb;clear hb;refine St.go h19 ?_;clear h19 a19;refine sfIns7 ⟨_,hg47,rfl,rfl⟩ rfl rfl ?_;refine sbInts 1 hW18 ⟨_,hg47,rfl,rfl⟩ rfl rfl rfl rfl ?_;refine sfIns7 ⟨_,hg47,rfl,rfl⟩ rfl rfl ?_;refine sbInts 0 hW18 ⟨_,hg47,rfl,rfl⟩ rfl rfl rfl rfl ?_;refine sc_2 cf71 hW18 (sameInts_any x.args y.args i.pA j.pA i.cA j.cA w18 (Lay.below hx.out.args hW18.bel) (Lay.below hy.out.args hW18.bel) (by have:=hs.out.2;omega)) ⟨_,hg47,rfl,rfl⟩ rfl rfl rfl ?_;clear hW18;intro w21 hW21;refine sp trivial rfl rfl rfl ?_;refine sa trivial rfl rfl ?_;refine St.nil fun a22 h22=>?_;refine hK5 _ _ ?_;refine wp_ret ?_;with_reducible repeat first | refine of_then_ret ?_ | refine of_block_ret ?_
         have R:x.args=y.args ↔ x=y:=⟨fun h=>MIns.eq_of hc7.out hc9.out hc11.out hc13.out hc15.out hc17.out hc20 h,fun e=>by rw [e]⟩;exact ret_tmp (t:=4) h22 rfl rfl ⟨by rw [bdec_congr R],hW21.bel⟩
        rw [hb] at h19;have hc23:¬ (x.regs=y.regs):=fun h=>by rw [bdec_true h] at hb;cases hb
        clear hb;refine St.go h19 ?_;clear h19 a19;refine so hg47 rfl rfl rfl rfl ?_;refine so hg47 rfl rfl rfl rfl ?_;refine so hg47 rfl rfl rfl rfl ?_;refine so hg47 rfl rfl rfl rfl ?_;refine so hg47 rfl rfl rfl rfl ?_;refine spf trivial rfl rfl rfl ?_;refine sa trivial rfl rfl ?_;refine St.nil fun a24 h24=>?_;refine hK5 _ _ ?_;refine wp_ret ?_;with_reducible repeat first | refine of_then_ret ?_ | refine of_block_ret ?_
        have R:¬ x=y:=fun e=>hc23 (by rw [e]);exact ret_tmp (t:=4) h24 rfl rfl ⟨by rw [bdec_false R],hW18.bel⟩
       rw [hb] at h16;have h9:¬ x.n=y.n:=ne_of_beq_false hb;have hc25:¬ x.n=y.n:=h9;clear h9;clear hb;refine St.go h16 ?_;clear h16 a16;refine so hg40 rfl rfl rfl rfl ?_;refine so hg40 rfl rfl rfl rfl ?_;refine so hg40 rfl rfl rfl rfl ?_;refine so hg40 rfl rfl rfl rfl ?_;refine so hg40 rfl rfl rfl rfl ?_;refine spf trivial rfl rfl rfl ?_;refine sm trivial rfl rfl ?_;refine so hg47 rfl rfl rfl rfl ?_;refine so hg47 rfl rfl rfl rfl ?_;refine so hg47 rfl rfl rfl rfl ?_;refine so hg47 rfl rfl rfl rfl ?_;refine so hg47 rfl rfl rfl rfl ?_;refine spf trivial rfl rfl rfl ?_;refine sa trivial rfl rfl ?_;refine St.nil fun a26 h26=>?_;refine hK5 _ _ ?_;refine wp_ret ?_;with_reducible repeat first | refine of_then_ret ?_ | refine of_block_ret ?_
       have R:¬ x=y:=fun e=>hc25 (by rw [e]);exact ret_tmp (t:=4) h26 rfl rfl ⟨by rw [bdec_false R],hW3.bel⟩
      rw [hb] at h14;have h9:¬ x.k=y.k:=ne_of_beq_false hb;have hc27:¬ x.k=y.k:=h9;clear h9;clear hb;refine St.go h14 ?_;clear h14 a14;refine so hg33 rfl rfl rfl rfl ?_;refine so hg33 rfl rfl rfl rfl ?_;refine so hg33 rfl rfl rfl rfl ?_;refine so hg33 rfl rfl rfl rfl ?_;refine so hg33 rfl rfl rfl rfl ?_;refine spf trivial rfl rfl rfl ?_;refine sm trivial rfl rfl ?_;refine so hg40 rfl rfl rfl rfl ?_;refine so hg40 rfl rfl rfl rfl ?_;refine so hg40 rfl rfl rfl rfl ?_;refine so hg40 rfl rfl rfl rfl ?_;refine so hg40 rfl rfl rfl rfl ?_;refine spf trivial rfl rfl rfl ?_;refine sm trivial rfl rfl ?_;refine so hg47 rfl rfl rfl rfl ?_;refine so hg47 rfl rfl rfl rfl ?_;refine so hg47 rfl rfl rfl rfl ?_;refine so hg47 rfl rfl rfl rfl ?_;refine so hg47 rfl rfl rfl rfl ?_;refine spf trivial rfl rfl rfl ?_;refine sa trivial rfl rfl ?_;refine St.nil fun a28 h28=>?_;refine hK5 _ _ ?_;refine wp_ret ?_;with_reducible repeat first | refine of_then_ret ?_ | refine of_block_ret ?_
      have R:¬ x=y:=fun e=>hc27 (by rw [e]);exact ret_tmp (t:=4) h28 rfl rfl ⟨by rw [bdec_false R],hW3.bel⟩
     rw [hb] at h12;have h9:¬ x.c=y.c:=ne_of_beq_false hb;have hc29:¬ x.c=y.c:=h9;clear h9;clear hb;refine St.go h12 ?_;clear h12 a12;refine so hg26 rfl rfl rfl rfl ?_;refine so hg26 rfl rfl rfl rfl ?_;refine so hg26 rfl rfl rfl rfl ?_;refine so hg26 rfl rfl rfl rfl ?_;refine so hg26 rfl rfl rfl rfl ?_;refine spf trivial rfl rfl rfl ?_;refine sm trivial rfl rfl ?_;refine so hg33 rfl rfl rfl rfl ?_;refine so hg33 rfl rfl rfl rfl ?_;refine so hg33 rfl rfl rfl rfl ?_;refine so hg33 rfl rfl rfl rfl ?_;refine so hg33 rfl rfl rfl rfl ?_;refine spf trivial rfl rfl rfl ?_;refine sm trivial rfl rfl ?_;refine so hg40 rfl rfl rfl rfl ?_;refine so hg40 rfl rfl rfl rfl ?_;refine so hg40 rfl rfl rfl rfl ?_;refine so hg40 rfl rfl rfl rfl ?_;refine so hg40 rfl rfl rfl rfl ?_;refine spf trivial rfl rfl rfl ?_;refine sm trivial rfl rfl ?_;refine so hg47 rfl rfl rfl rfl ?_;refine so hg47 rfl rfl rfl rfl ?_;refine so hg47 rfl rfl rfl rfl ?_;refine so hg47 rfl rfl rfl rfl ?_;refine so hg47 rfl rfl rfl rfl ?_;refine spf trivial rfl rfl rfl ?_;refine sa trivial rfl rfl ?_;refine St.nil fun a30 h30=>?_;refine hK5 _ _ ?_;refine wp_ret ?_;with_reducible repeat first | refine of_then_ret ?_ | refine of_block_ret ?_
     have R:¬ x=y:=fun e=>hc29 (by rw [e]);exact ret_tmp (t:=4) h30 rfl rfl ⟨by rw [bdec_false R],hW3.bel⟩
    rw [hb] at h10;have h9:¬ x.b=y.b:=ne_of_beq_false hb;have hc31:¬ x.b=y.b:=h9;clear h9;clear hb;refine St.go h10 ?_;clear h10 a10;refine so hg19 rfl rfl rfl rfl ?_;refine so hg19 rfl rfl rfl rfl ?_;refine so hg19 rfl rfl rfl rfl ?_;refine so hg19 rfl rfl rfl rfl ?_;refine so hg19 rfl rfl rfl rfl ?_;refine spf trivial rfl rfl rfl ?_;refine sm trivial rfl rfl ?_;refine so hg26 rfl rfl rfl rfl ?_;refine so hg26 rfl rfl rfl rfl ?_;refine so hg26 rfl rfl rfl rfl ?_;refine so hg26 rfl rfl rfl rfl ?_;refine so hg26 rfl rfl rfl rfl ?_;refine spf trivial rfl rfl rfl ?_;refine sm trivial rfl rfl ?_;refine so hg33 rfl rfl rfl rfl ?_;refine so hg33 rfl rfl rfl rfl ?_;refine so hg33 rfl rfl rfl rfl ?_;refine so hg33 rfl rfl rfl rfl ?_;refine so hg33 rfl rfl rfl rfl ?_;refine spf trivial rfl rfl rfl ?_;refine sm trivial rfl rfl ?_;refine so hg40 rfl rfl rfl rfl ?_;refine so hg40 rfl rfl rfl rfl ?_;refine so hg40 rfl rfl rfl rfl ?_;refine so hg40 rfl rfl rfl rfl ?_;refine so hg40 rfl rfl rfl rfl ?_;refine spf trivial rfl rfl rfl ?_;refine sm trivial rfl rfl ?_;refine so hg47 rfl rfl rfl rfl ?_;refine so hg47 rfl rfl rfl rfl ?_;refine so hg47 rfl rfl rfl rfl ?_;refine so hg47 rfl rfl rfl rfl ?_;refine so hg47 rfl rfl rfl rfl ?_;refine spf trivial rfl rfl rfl ?_;refine sa trivial rfl rfl ?_;refine St.nil fun a32 h32=>?_;refine hK5 _ _ ?_;refine wp_ret ?_;with_reducible repeat first | refine of_then_ret ?_ | refine of_block_ret ?_
    have R:¬ x=y:=fun e=>hc31 (by rw [e]);exact ret_tmp (t:=4) h32 rfl rfl ⟨by rw [bdec_false R],hW3.bel⟩
   rw [hb] at h8;have h9:¬ x.a=y.a:=ne_of_beq_false hb;have hc33:¬ x.a=y.a:=h9;clear h9;clear hb;refine St.go h8 ?_;clear h8 a8;refine so hg12 rfl rfl rfl rfl ?_;refine so hg12 rfl rfl rfl rfl ?_;refine so hg12 rfl rfl rfl rfl ?_;refine so hg12 rfl rfl rfl rfl ?_;refine so hg12 rfl rfl rfl rfl ?_;refine spf trivial rfl rfl rfl ?_;refine sm trivial rfl rfl ?_;refine so hg19 rfl rfl rfl rfl ?_;refine so hg19 rfl rfl rfl rfl ?_;refine so hg19 rfl rfl rfl rfl ?_;refine so hg19 rfl rfl rfl rfl ?_;refine so hg19 rfl rfl rfl rfl ?_;refine spf trivial rfl rfl rfl ?_;refine sm trivial rfl rfl ?_;refine so hg26 rfl rfl rfl rfl ?_;refine so hg26 rfl rfl rfl rfl ?_;refine so hg26 rfl rfl rfl rfl ?_;refine so hg26 rfl rfl rfl rfl ?_;refine so hg26 rfl rfl rfl rfl ?_;refine spf trivial rfl rfl rfl ?_;refine sm trivial rfl rfl ?_;refine so hg33 rfl rfl rfl rfl ?_;refine so hg33 rfl rfl rfl rfl ?_;refine so hg33 rfl rfl rfl rfl ?_;refine so hg33 rfl rfl rfl rfl ?_;refine so hg33 rfl rfl rfl rfl ?_;refine spf trivial rfl rfl rfl ?_;refine sm trivial rfl rfl ?_;refine so hg40 rfl rfl rfl rfl ?_;refine so hg40 rfl rfl rfl rfl ?_;refine so hg40 rfl rfl rfl rfl ?_;refine so hg40 rfl rfl rfl rfl ?_;refine so hg40 rfl rfl rfl rfl ?_;refine spf trivial rfl rfl rfl ?_;refine sm trivial rfl rfl ?_;refine so hg47 rfl rfl rfl rfl ?_;refine so hg47 rfl rfl rfl rfl ?_;refine so hg47 rfl rfl rfl rfl ?_;refine so hg47 rfl rfl rfl rfl ?_;refine so hg47 rfl rfl rfl rfl ?_;refine spf trivial rfl rfl rfl ?_;refine sa trivial rfl rfl ?_;refine St.nil fun a34 h34=>?_;refine hK5 _ _ ?_;refine wp_ret ?_;with_reducible repeat first | refine of_then_ret ?_ | refine of_block_ret ?_
   have R:¬ x=y:=fun e=>hc33 (by rw [e]);exact ret_tmp (t:=4) h34 rfl rfl ⟨by rw [bdec_false R],hW3.bel⟩
  rw [hb] at h6;have h9:¬ x.op=y.op:=ne_of_beq_false hb;have hc35:¬ x.op=y.op:=h9;clear h9;clear hb;refine St.go h6 ?_;clear h6 a6;refine so hg5 rfl rfl rfl rfl ?_;refine so hg5 rfl rfl rfl rfl ?_;refine so hg5 rfl rfl rfl rfl ?_;refine so hg5 rfl rfl rfl rfl ?_;refine so hg5 rfl rfl rfl rfl ?_;refine spf trivial rfl rfl rfl ?_;refine sm trivial rfl rfl ?_;refine so hg12 rfl rfl rfl rfl ?_;refine so hg12 rfl rfl rfl rfl ?_;refine so hg12 rfl rfl rfl rfl ?_;refine so hg12 rfl rfl rfl rfl ?_;refine so hg12 rfl rfl rfl rfl ?_;refine spf trivial rfl rfl rfl ?_;refine sm trivial rfl rfl ?_;refine so hg19 rfl rfl rfl rfl ?_;refine so hg19 rfl rfl rfl rfl ?_;refine so hg19 rfl rfl rfl rfl ?_;refine so hg19 rfl rfl rfl rfl ?_;refine so hg19 rfl rfl rfl rfl ?_;refine spf trivial rfl rfl rfl ?_;refine sm trivial rfl rfl ?_;refine so hg26 rfl rfl rfl rfl ?_;refine so hg26 rfl rfl rfl rfl ?_;refine so hg26 rfl rfl rfl rfl ?_;refine so hg26 rfl rfl rfl rfl ?_;refine so hg26 rfl rfl rfl rfl ?_;refine spf trivial rfl rfl rfl ?_;refine sm trivial rfl rfl ?_;refine so hg33 rfl rfl rfl rfl ?_;refine so hg33 rfl rfl rfl rfl ?_;refine so hg33 rfl rfl rfl rfl ?_;refine so hg33 rfl rfl rfl rfl ?_;refine so hg33 rfl rfl rfl rfl ?_;refine spf trivial rfl rfl rfl ?_;refine sm trivial rfl rfl ?_;refine so hg40 rfl rfl rfl rfl ?_;refine so hg40 rfl rfl rfl rfl ?_;refine so hg40 rfl rfl rfl rfl ?_;refine so hg40 rfl rfl rfl rfl ?_;refine so hg40 rfl rfl rfl rfl ?_;refine spf trivial rfl rfl rfl ?_;refine sm trivial rfl rfl ?_;refine so hg47 rfl rfl rfl rfl ?_;refine so hg47 rfl rfl rfl rfl ?_;refine so hg47 rfl rfl rfl rfl ?_;refine so hg47 rfl rfl rfl rfl ?_;refine so hg47 rfl rfl rfl rfl ?_;refine spf trivial rfl rfl rfl ?_;refine sa trivial rfl rfl ?_;refine St.nil fun a36 h36=>?_;refine hK5 _ _ ?_;refine wp_ret ?_;with_reducible repeat first | refine of_then_ret ?_ | refine of_block_ret ?_
  have R:¬ x=y:=fun e=>hc35 (by rw [e]);exact ret_tmp (t:=4) h36 rfl rfl ⟨by rw [bdec_false R],hW3.bel⟩
end Go.Proofs.YtalfbnllodhkiacGreatDoor
namespace Go.Proofs.YtalfbnllodhkiacGreatDoor
open Go.ChangeShapes Go.WideShapes Go.ChangeAt Go.RowKit
set_option linter.unusedVariables false
def fieldsV (op : Int) : Value := match fieldsOf op with
  | some (a,b,c,k,n,rg,ar)=>.tuple #[.agg #[.bool a,.bool b,.bool c,.bool k,.bool n,.bool rg,.bool ar],.bool true]
  | none=>.tuple #[.agg #[.bool false,.bool false,.bool false,.bool false,.bool false,.bool false,.bool false],.bool false]
theorem op_cases (op : Int) : op = 1 ∨ op = 2 ∨ op = 3 ∨ op = 4 ∨ op = 5 ∨ op = 6 ∨ op = 7 ∨ op = 8 ∨ op = 9 ∨ op = 10 ∨ op = 11 ∨ op = 12 ∨ op = 13 ∨ op = 14 ∨ (op ≠ 1 ∧ op ≠ 2 ∧ op ≠ 3 ∧ op ≠ 4 ∧ op ≠ 5 ∧ op ≠ 6 ∧ op ≠ 7 ∧ op ≠ 8 ∧ op ≠ 9 ∧ op ≠ 10 ∧ op ≠ 11 ∧ op ≠ 12 ∧ op ≠ 13 ∧ op ≠ 14) := by omega
theorem fieldsOf_any (op : Int) (w : World) :
    Calls Tryz.prog 114 #[.int .i64 op] w fun e w'=>e=.returned (fieldsV op)∧Below w.heap.size w w':=by
  rcases op_cases op with rfl | rfl | rfl | rfl | rfl | rfl | rfl | rfl | rfl | rfl | rfl | rfl | rfl | rfl | ⟨n1,n2,n3,n4,n5,n6,n7,n8,n9,n10,n11,n12,n13,n14⟩
  · rw [show fieldsV 1=.tuple #[.agg #[.bool false,.bool false,.bool false,.bool false,.bool true,.bool false,.bool false],.bool true] from rfl];go_enter Tryz.func114,Tryz.ntmps114
    go_wp2_with fail
    exact bodyPost_ret (v:=.tuple #[.agg #[.bool false,.bool false,.bool false,.bool false,.bool true,.bool false,.bool false],.bool true]) (by simp [results,Tryz.results114,go_sem]) rfl ⟨rfl,by first | exact (Below.refl _ w).alloc (Nat.le_refl _) _ | (repeat (first | exact (Below.refl _ w).alloc (Nat.le_refl _) _ | refine Below.setCell ?_ (by simp) _))⟩
  · rw [show fieldsV 2=.tuple #[.agg #[.bool true,.bool true,.bool false,.bool true,.bool false,.bool false,.bool false],.bool true] from rfl];go_enter Tryz.func114,Tryz.ntmps114
    go_wp2_with fail
    exact bodyPost_ret (v:=.tuple #[.agg #[.bool true,.bool true,.bool false,.bool true,.bool false,.bool false,.bool false],.bool true]) (by simp [results,Tryz.results114,go_sem]) rfl ⟨rfl,by first | exact (Below.refl _ w).alloc (Nat.le_refl _) _ | (repeat (first | exact (Below.refl _ w).alloc (Nat.le_refl _) _ | refine Below.setCell ?_ (by simp) _))⟩
  · rw [show fieldsV 3=.tuple #[.agg #[.bool false,.bool false,.bool false,.bool false,.bool false,.bool false,.bool false],.bool true] from rfl];go_enter Tryz.func114,Tryz.ntmps114
    go_wp2_with fail
    exact bodyPost_ret (v:=.tuple #[.agg #[.bool false,.bool false,.bool false,.bool false,.bool false,.bool false,.bool false],.bool true]) (by simp [results,Tryz.results114,go_sem]) rfl ⟨rfl,by first | exact (Below.refl _ w).alloc (Nat.le_refl _) _ | (repeat (first | exact (Below.refl _ w).alloc (Nat.le_refl _) _ | refine Below.setCell ?_ (by simp) _))⟩
  · rw [show fieldsV 4=.tuple #[.agg #[.bool true,.bool false,.bool false,.bool false,.bool false,.bool false,.bool false],.bool true] from rfl];go_enter Tryz.func114,Tryz.ntmps114
    go_wp2_with fail
    exact bodyPost_ret (v:=.tuple #[.agg #[.bool true,.bool false,.bool false,.bool false,.bool false,.bool false,.bool false],.bool true]) (by simp [results,Tryz.results114,go_sem]) rfl ⟨rfl,by first | exact (Below.refl _ w).alloc (Nat.le_refl _) _ | (repeat (first | exact (Below.refl _ w).alloc (Nat.le_refl _) _ | refine Below.setCell ?_ (by simp) _))⟩
  · rw [show fieldsV 5=.tuple #[.agg #[.bool true,.bool false,.bool false,.bool false,.bool false,.bool false,.bool true],.bool true] from rfl];go_enter Tryz.func114,Tryz.ntmps114
    go_wp2_with fail
    exact bodyPost_ret (v:=.tuple #[.agg #[.bool true,.bool false,.bool false,.bool false,.bool false,.bool false,.bool true],.bool true]) (by simp [results,Tryz.results114,go_sem]) rfl ⟨rfl,by first | exact (Below.refl _ w).alloc (Nat.le_refl _) _ | (repeat (first | exact (Below.refl _ w).alloc (Nat.le_refl _) _ | refine Below.setCell ?_ (by simp) _))⟩
  · rw [show fieldsV 6=.tuple #[.agg #[.bool true,.bool false,.bool false,.bool true,.bool false,.bool false,.bool false],.bool true] from rfl];go_enter Tryz.func114,Tryz.ntmps114
    go_wp2_with fail
    exact bodyPost_ret (v:=.tuple #[.agg #[.bool true,.bool false,.bool false,.bool true,.bool false,.bool false,.bool false],.bool true]) (by simp [results,Tryz.results114,go_sem]) rfl ⟨rfl,by first | exact (Below.refl _ w).alloc (Nat.le_refl _) _ | (repeat (first | exact (Below.refl _ w).alloc (Nat.le_refl _) _ | refine Below.setCell ?_ (by simp) _))⟩
  · rw [show fieldsV 7=.tuple #[.agg #[.bool true,.bool true,.bool false,.bool true,.bool false,.bool false,.bool false],.bool true] from rfl];go_enter Tryz.func114,Tryz.ntmps114
    go_wp2_with fail
    exact bodyPost_ret (v:=.tuple #[.agg #[.bool true,.bool true,.bool false,.bool true,.bool false,.bool false,.bool false],.bool true]) (by simp [results,Tryz.results114,go_sem]) rfl ⟨rfl,by first | exact (Below.refl _ w).alloc (Nat.le_refl _) _ | (repeat (first | exact (Below.refl _ w).alloc (Nat.le_refl _) _ | refine Below.setCell ?_ (by simp) _))⟩
  · rw [show fieldsV 8=.tuple #[.agg #[.bool true,.bool true,.bool false,.bool false,.bool false,.bool false,.bool false],.bool true] from rfl];go_enter Tryz.func114,Tryz.ntmps114
    go_wp2_with fail
    exact bodyPost_ret (v:=.tuple #[.agg #[.bool true,.bool true,.bool false,.bool false,.bool false,.bool false,.bool false],.bool true]) (by simp [results,Tryz.results114,go_sem]) rfl ⟨rfl,by first | exact (Below.refl _ w).alloc (Nat.le_refl _) _ | (repeat (first | exact (Below.refl _ w).alloc (Nat.le_refl _) _ | refine Below.setCell ?_ (by simp) _))⟩
  · rw [show fieldsV 9=.tuple #[.agg #[.bool true,.bool true,.bool false,.bool false,.bool false,.bool false,.bool false],.bool true] from rfl];go_enter Tryz.func114,Tryz.ntmps114
    go_wp2_with fail
    exact bodyPost_ret (v:=.tuple #[.agg #[.bool true,.bool true,.bool false,.bool false,.bool false,.bool false,.bool false],.bool true]) (by simp [results,Tryz.results114,go_sem]) rfl ⟨rfl,by first | exact (Below.refl _ w).alloc (Nat.le_refl _) _ | (repeat (first | exact (Below.refl _ w).alloc (Nat.le_refl _) _ | refine Below.setCell ?_ (by simp) _))⟩
  · rw [show fieldsV 10=.tuple #[.agg #[.bool true,.bool true,.bool true,.bool false,.bool false,.bool false,.bool false],.bool true] from rfl];go_enter Tryz.func114,Tryz.ntmps114
    go_wp2_with fail
    exact bodyPost_ret (v:=.tuple #[.agg #[.bool true,.bool true,.bool true,.bool false,.bool false,.bool false,.bool false],.bool true]) (by simp [results,Tryz.results114,go_sem]) rfl ⟨rfl,by first | exact (Below.refl _ w).alloc (Nat.le_refl _) _ | (repeat (first | exact (Below.refl _ w).alloc (Nat.le_refl _) _ | refine Below.setCell ?_ (by simp) _))⟩
  · rw [show fieldsV 11=.tuple #[.agg #[.bool true,.bool false,.bool false,.bool false,.bool false,.bool false,.bool false],.bool true] from rfl];go_enter Tryz.func114,Tryz.ntmps114
    go_wp2_with fail
    exact bodyPost_ret (v:=.tuple #[.agg #[.bool true,.bool false,.bool false,.bool false,.bool false,.bool false,.bool false],.bool true]) (by simp [results,Tryz.results114,go_sem]) rfl ⟨rfl,by first | exact (Below.refl _ w).alloc (Nat.le_refl _) _ | (repeat (first | exact (Below.refl _ w).alloc (Nat.le_refl _) _ | refine Below.setCell ?_ (by simp) _))⟩
  · rw [show fieldsV 12=.tuple #[.agg #[.bool false,.bool false,.bool false,.bool false,.bool false,.bool false,.bool false],.bool true] from rfl];go_enter Tryz.func114,Tryz.ntmps114
    go_wp2_with fail
    exact bodyPost_ret (v:=.tuple #[.agg #[.bool false,.bool false,.bool false,.bool false,.bool false,.bool false,.bool false],.bool true]) (by simp [results,Tryz.results114,go_sem]) rfl ⟨rfl,by first | exact (Below.refl _ w).alloc (Nat.le_refl _) _ | (repeat (first | exact (Below.refl _ w).alloc (Nat.le_refl _) _ | refine Below.setCell ?_ (by simp) _))⟩
  · rw [show fieldsV 13=.tuple #[.agg #[.bool true,.bool false,.bool false,.bool false,.bool false,.bool false,.bool false],.bool true] from rfl];go_enter Tryz.func114,Tryz.ntmps114
    go_wp2_with fail
    exact bodyPost_ret (v:=.tuple #[.agg #[.bool true,.bool false,.bool false,.bool false,.bool false,.bool false,.bool false],.bool true]) (by simp [results,Tryz.results114,go_sem]) rfl ⟨rfl,by first | exact (Below.refl _ w).alloc (Nat.le_refl _) _ | (repeat (first | exact (Below.refl _ w).alloc (Nat.le_refl _) _ | refine Below.setCell ?_ (by simp) _))⟩
  · rw [show fieldsV 14=.tuple #[.agg #[.bool false,.bool false,.bool false,.bool true,.bool false,.bool true,.bool true],.bool true] from rfl];go_enter Tryz.func114,Tryz.ntmps114
    go_wp2_with fail
    exact bodyPost_ret (v:=.tuple #[.agg #[.bool false,.bool false,.bool false,.bool true,.bool false,.bool true,.bool true],.bool true]) (by simp [results,Tryz.results114,go_sem]) rfl ⟨rfl,by first | exact (Below.refl _ w).alloc (Nat.le_refl _) _ | (repeat (first | exact (Below.refl _ w).alloc (Nat.le_refl _) _ | refine Below.setCell ?_ (by simp) _))⟩
  · rw [show fieldsV op=.tuple #[.agg #[.bool false,.bool false,.bool false,.bool false,.bool false,.bool false,.bool false],.bool false] by unfold fieldsV fieldsOf;simp [n1,n2,n3,n4,n5,n6,n7,n8,n9,n10,n11,n12,n13,n14]];have g1:(op==1)=false:=by simpa using n1
    have g2:(op==2)=false:=by simpa using n2
    have g3:(op==3)=false:=by simpa using n3
    have g4:(op==4)=false:=by simpa using n4
    have g5:(op==5)=false:=by simpa using n5
    have g6:(op==6)=false:=by simpa using n6
    have g7:(op==7)=false:=by simpa using n7
    have g8:(op==8)=false:=by simpa using n8
    have g9:(op==9)=false:=by simpa using n9
    have g10:(op==10)=false:=by simpa using n10
    have g11:(op==11)=false:=by simpa using n11
    have g12:(op==12)=false:=by simpa using n12
    have g13:(op==13)=false:=by simpa using n13
    have g14:(op==14)=false:=by simpa using n14
    clear n1 n2 n3 n4 n5 n6 n7 n8 n9 n10 n11 n12 n13 n14;go_enter Tryz.func114,Tryz.ntmps114
    go_wp2_with fail
    exact bodyPost_ret (v:=.tuple #[.agg #[.bool false,.bool false,.bool false,.bool false,.bool false,.bool false,.bool false],.bool false]) (by simp [results,Tryz.results114,go_sem]) rfl ⟨rfl,by first | exact (Below.refl _ w).alloc (Nat.le_refl _) _ | (repeat (first | exact (Below.refl _ w).alloc (Nat.le_refl _) _ | refine Below.setCell ?_ (by simp) _))⟩
def insForm (funcs : Nat) (op a b c k n : Int) (rl al : Nat) : Int :=
  match fieldsOf op with
  | none=>3
  | some (fa,fb,fc,fk,fn,fr,fs) =>
    if (!fa && a != 0) || (!fb && b != 0) || (!fc && c != 0) || (!fk && k != 0) || (!fn && n != 0) || (!fr && decide (0<rl)) || (!fs && decide (0<al)) then 4
    else if op=2∧(k<1∨9<k) then 1
    else if op=5∧8<al then 2
    else if (op=6∨op=7)∧(k<0∨7<k) then 1
    else if op=14∧(k<0∨(funcs:Int)≤k) then 1
    else if op=14∧(6<rl∨8<al) then 2
    else 0
theorem MIns.form_eq (funcs : Nat) (x : MIns) : x.form funcs = insForm funcs x.op x.a x.b x.c x.k x.n x.regs.length x.args.length := by
  unfold MIns.form MIns.formless insForm
  cases fieldsOf x.op with
  | none=>rfl
  | some p=>obtain ⟨a,b,c,k,n,r,s⟩:=p;rfl
end Go.Proofs.YtalfbnllodhkiacGreatDoor
namespace Go.Proofs.YtalfbnllodhkiacGreatDoor
open Go.ChangeShapes Go.WideShapes Go.ChangeAt Go.RowKit
set_option linter.unusedSimpArgs false
set_option linter.unusedVariables false
def rangeC (x l m : Int) : Int := if x < l ∨ m < x then 1 else 0
def manyC (len : Nat) (m : Int) : Int := if m < len then 2 else 0
def handedC (r : Nat) (m : Int) (s : Nat) : Int := if manyC r m ≠ 0 then manyC r m else manyC s 8
def bareB (a b c k n : Int) (rl al : Nat) : Bool := a == 0 && b == 0 && c == 0 && k == 0 && n == 0 && (rl : Int) == 0 && (al : Int) == 0
def boundsC (funcs : Nat) (op k : Int) (rl al : Nat) : Int :=
  if op=2 then rangeC k 1 9 else if op=6∨op=7 then rangeC k 0 7 else if op=5 then manyC al 8
  else if op=14 then (if rangeC k 0 ((funcs:Int) - 1)=0 then handedC rl 6 al else rangeC k 0 ((funcs:Int) - 1)) else 0
theorem fb (f : Bool) (a : Int) : (!f && a != 0) = !((bif f then 0 else a) == 0) := by cases f <;> simp [bne]
theorem fbn (f : Bool) (l : Nat) : (!f && decide (0 < l)) = !(((bif f then 0 else l : Nat) : Int) == 0) := by
  cases f
  · by_cases h:l=0
    · simp [h]
    · have:0<l:=by omega
      simp [this,h]
  · simp
theorem bounds_eq (lm : Nat) (op k : Int) (rl al : Nat) : (if op = 2 ∧ (k < 1 ∨ 9 < k) then 1
    else if op=5∧8<al then 2
    else if (op=6∨op=7)∧(k<0∨7<k) then 1
    else if op=14∧(k<0∨(lm:Int)≤k) then 1
    else if op=14∧(6<rl∨8<al) then 2
    else 0)=boundsC lm op k rl al:=by
  unfold boundsC;by_cases h2:op=2
  · subst h2;simp [rangeC]
  · by_cases h6:op=6∨op=7
    · have h5:¬ op=5:=by omega
      have h14:¬ op=14:=by omega
      simp [h2,h5,h6,h14,rangeC]
    · by_cases h5:op=5
      · subst h5;simp [manyC];split <;> split <;> omega
      · by_cases h14:op=14
        · subst h14;simp [rangeC,handedC,manyC];repeat' split
          all_goals omega
        · simp [h2,h5,h6,h14]
theorem insForm_bare {lm : Nat} {op a b c k n : Int} {rl al : Nat} {fa fb' fc fk fn fr fs : Bool} (e : fieldsOf op = some (fa, fb', fc, fk, fn, fr, fs)) :
    insForm lm op a b c k n rl al=if bareB (bif fa then 0 else a) (bif fb' then 0 else b) (bif fc then 0 else c) (bif fk then 0 else k) (bif fn then 0 else n) (bif fr then 0 else rl) (bif fs then 0 else al)=true then boundsC lm op k rl al else 4:=by
  simp only [insForm,e,bounds_eq];rw [fb,fb,fb,fb,fb,fbn,fbn];unfold bareB;generalize ((bif fa then 0 else a)==0)=q1;generalize ((bif fb' then 0 else b)==0)=q2;generalize ((bif fc then 0 else c)==0)=q3;generalize ((bif fk then 0 else k)==0)=q4;generalize ((bif fn then 0 else n)==0)=q5;generalize (((bif fr then 0 else rl:Nat):Int)==0)=q6;generalize (((bif fs then 0 else al:Nat):Int)==0)=q7
  cases q1 <;> cases q2 <;> cases q3 <;> cases q4 <;> cases q5 <;> cases q6 <;> cases q7 <;> rfl
theorem cFuncAt_any {f : Nat} {w : World} (h : f < 1000000) : Rd Tryz.prog 106 #[.int .i64 (f : Int)] w (.int .i64 (10000 * (f : Int) + 9999)) := by
  unfold Rd;skip
  skip
  go_enter Tryz.func106,Tryz.ntmps106
  go_wp2
  go_ret;refine ⟨?_,Below.refl _ _⟩;show Ending.returned (.int .i64 ((f:Int)*10000+9999))=_;congr 2
  omega
theorem cBlockAt_any {f b : Nat} {w : World} (h : f < 1000000 ∧ b < 1000000) : Rd Tryz.prog 137 #[.int .i64 (f : Int), .int .i64 (b : Int)] w (.int .i64 (10000 * (f : Int) + 100 * (b : Int) + 90)) := by
  unfold Rd;have h1:=h.1;have h2:=h.2;skip
  go_enter Tryz.func137,Tryz.ntmps137
  go_wp2
  go_ret;refine ⟨?_,Below.refl _ _⟩;show Ending.returned (.int .i64 ((f:Int)*10000+(b:Int)*100+90))=_;congr 2
  omega
theorem cEndAt_any {f b : Nat} {w : World} (h : f < 1000000 ∧ b < 1000000) : Rd Tryz.prog 143 #[.int .i64 (f : Int), .int .i64 (b : Int)] w (.int .i64 (10000 * (f : Int) + 100 * (b : Int) + 91)) := by
  unfold Rd;have h1:=h.1;have h2:=h.2;skip
  go_enter Tryz.func143,Tryz.ntmps143
  go_wp2
  go_ret;refine ⟨?_,Below.refl _ _⟩;show Ending.returned (.int .i64 ((f:Int)*10000+(b:Int)*100+91))=_;congr 2
  omega
theorem cInsAt_any {f b i : Nat} {w : World} (h : f < 1000000 ∧ b < 1000000 ∧ i < 1000000) : Rd Tryz.prog 141 #[.int .i64 (f : Int), .int .i64 (b : Int), .int .i64 (i : Int)] w (.int .i64 (10000 * (f : Int) + 100 * (b : Int) + (i : Int))) := by
  unfold Rd;have h1:=h.1;have h2:=h.2;have h3:=h.2.1;have h4:=h.2.2;go_enter Tryz.func141,Tryz.ntmps141
  go_wp2
  go_ret;refine ⟨?_,Below.refl _ _⟩;show Ending.returned (.int .i64 ((f:Int)*10000+(b:Int)*100+(i:Int)))=_;congr 2
  omega
theorem rangeCode_any {x l m : Int} {w : World} : Rd Tryz.prog 208 #[.int .i64 x, .int .i64 l, .int .i64 m] w (.int .i64 (rangeC x l m)) := by
  unfold Rd rangeC;by_cases h1:x<l
  · rw [if_pos (.inl h1)];go_enter Tryz.func208,Tryz.ntmps208
    go_wp2
    go_ret;exact ⟨rfl,Below.refl _ _⟩
  · by_cases h2:m<x
    · rw [if_pos (.inr h2)];go_enter Tryz.func208,Tryz.ntmps208
      go_wp2
      go_ret;exact ⟨rfl,Below.refl _ _⟩
    · rw [if_neg (by omega)];go_enter Tryz.func208,Tryz.ntmps208
      go_wp2
      go_ret;exact ⟨rfl,Below.refl _ _⟩
theorem manyCode_any {p : Option Addr} {len c : Nat} {m : Int} {w : World} : Rd Tryz.prog 209 #[.slice p len c, .int .i64 m] w (.int .i64 (manyC len m)) := by
  unfold Rd manyC;by_cases h1:m<len
  · rw [if_pos h1];go_enter Tryz.func209,Tryz.ntmps209
    go_wp2
    go_ret;exact ⟨rfl,Below.refl _ _⟩
  · rw [if_neg h1];go_enter Tryz.func209,Tryz.ntmps209
    go_wp2
    go_ret;exact ⟨rfl,Below.refl _ _⟩
theorem handedCode_any {p q : Option Addr} {r c s d : Nat} {m : Int} {w : World} : Rd Tryz.prog 210 #[.slice p r c, .int .i64 m, .slice q s d] w (.int .i64 (handedC r m s)) := by
  have C1:Hid (∀ wx:World,Calls Tryz.prog 209 #[.slice p r c,.int .i64 m] wx fun e w'=>e=.returned (.int .i64 (manyC r m))∧Below wx.heap.size wx w'):=fun wx=>manyCode_any;have C2:Hid (∀ wx:World,Calls Tryz.prog 209 #[.slice q s d,.int .i64 8] wx fun e w'=>e=.returned (.int .i64 (manyC s 8))∧Below wx.heap.size wx w'):=fun wx=>manyCode_any;unfold Rd handedC;by_cases h:manyC r m=0
  · rw [if_neg (by simpa using h)];rw [h] at C1;go_enter Tryz.func210,Tryz.ntmps210
    go_wp2_with fail
    refine (C1.out w).mono ?_;rintro e w1 ⟨rfl,b1⟩;have B1:Hid (Below w.heap.size w w1):=b1;clear b1 C1;go_wp2_with fail
    refine (C2.out w1).mono ?_;rintro e w2 ⟨rfl,b2⟩;have B2:Hid (Below w.heap.size w w2):=B1.out.trans (b2.mono B1.out.size);clear b2 C2 B1;go_wp2
    go_ret;exact ⟨rfl,B2.out⟩
  · rw [if_pos h];have h':(manyC r m==0)=false:=by simpa using h
    generalize manyC r m=v at C1 h' h ⊢;go_enter Tryz.func210,Tryz.ntmps210
    go_wp2_with fail
    refine (C1.out w).mono ?_;rintro e w1 ⟨rfl,b1⟩;have B1:Hid (Below w.heap.size w w1):=b1;clear b1 C1 C2;go_wp2
    go_ret;exact ⟨rfl,B1.out⟩
theorem isBare_any {xop : Int} {xa xb xc xk xn : Int} {ra aa : Option Addr} {rl rc al ac : Nat} {w : World} : Rd Tryz.prog 176 #[.agg #[.int .i64 xop, .int .i64 xa, .int .i64 xb, .int .i64 xc, .int .i64 xk, .int .i64 xn, .slice ra rl rc, .slice aa al ac]] w (.bool (bareB xa xb xc xk xn rl al)) := by
  unfold Rd
  · by_cases h0:xa=0
    · subst h0
      · by_cases h1:xb=0
        · subst h1
          · by_cases h2:xc=0
            · subst h2
              · by_cases h3:xk=0
                · subst h3
                  · by_cases h4:xn=0
                    · subst h4
                      · by_cases h5:rl=0
                        · subst h5
                          · by_cases h6:al=0
                            · subst h6
                              · rw [show bareB 0 0 0 0 0 0 0=true from rfl];go_enter Tryz.func176,Tryz.ntmps176
                                go_wp2
                                go_ret;exact ⟨rfl,bel1 _ _⟩
                            · have g6:((al:Int)==0)=false:=by simpa using h6
                              rw [show bareB 0 0 0 0 0 0 al=false by simp [bareB,g6]];go_enter Tryz.func176,Tryz.ntmps176
                              go_wp2
                              go_ret;exact ⟨rfl,bel1 _ _⟩
                        · have g5:((rl:Int)==0)=false:=by simpa using h5
                          rw [show bareB 0 0 0 0 0 rl al=false by simp [bareB,g5]];go_enter Tryz.func176,Tryz.ntmps176
                          go_wp2
                          go_ret;exact ⟨rfl,bel1 _ _⟩
                    · have g4:(xn==0)=false:=by simpa using h4
                      rw [show bareB 0 0 0 0 xn rl al=false by simp [bareB,g4]];go_enter Tryz.func176,Tryz.ntmps176
                      go_wp2
                      go_ret;exact ⟨rfl,bel1 _ _⟩
                · have g3:(xk==0)=false:=by simpa using h3
                  rw [show bareB 0 0 0 xk xn rl al=false by simp [bareB,g3]];go_enter Tryz.func176,Tryz.ntmps176
                  go_wp2
                  go_ret;exact ⟨rfl,bel1 _ _⟩
            · have g2:(xc==0)=false:=by simpa using h2
              rw [show bareB 0 0 xc xk xn rl al=false by simp [bareB,g2]];go_enter Tryz.func176,Tryz.ntmps176
              go_wp2
              go_ret;exact ⟨rfl,bel1 _ _⟩
        · have g1:(xb==0)=false:=by simpa using h1
          rw [show bareB 0 xb xc xk xn rl al=false by simp [bareB,g1]];go_enter Tryz.func176,Tryz.ntmps176
          go_wp2
          go_ret;exact ⟨rfl,bel1 _ _⟩
    · have g0:(xa==0)=false:=by simpa using h0
      rw [show bareB xa xb xc xk xn rl al=false by simp [bareB,g0]];go_enter Tryz.func176,Tryz.ntmps176
      go_wp2
      go_ret;exact ⟨rfl,bel1 _ _⟩
theorem wf1 {xa xb xc xk xn : Int} {ra aa : Option Addr} {rl rc al ac : Nat} {w : World} : Rd Tryz.prog 175 #[.agg #[.int .i64 1, .int .i64 xa, .int .i64 xb, .int .i64 xc, .int .i64 xk, .int .i64 xn, .slice ra rl rc, .slice aa al ac]] w (.tuple #[.agg #[.int .i64 1, .int .i64 xa, .int .i64 xb, .int .i64 xc, .int .i64 xk, .int .i64 0, .slice ra rl rc, .slice aa al ac], .bool true]) := by
  unfold Rd;go_enter Tryz.func175,Tryz.ntmps175
  go_wp2
  exact bodyPost_ret (v:=.tuple #[.agg #[.int .i64 1,.int .i64 xa,.int .i64 xb,.int .i64 xc,.int .i64 xk,.int .i64 0,.slice ra rl rc,.slice aa al ac],.bool true]) (by simp [results,Tryz.results175,go_sem]) rfl ⟨rfl,bel2 _ _ _⟩
theorem wf2 {xa xb xc xk xn : Int} {ra aa : Option Addr} {rl rc al ac : Nat} {w : World} : Rd Tryz.prog 175 #[.agg #[.int .i64 2, .int .i64 xa, .int .i64 xb, .int .i64 xc, .int .i64 xk, .int .i64 xn, .slice ra rl rc, .slice aa al ac]] w (.tuple #[.agg #[.int .i64 2, .int .i64 0, .int .i64 0, .int .i64 xc, .int .i64 0, .int .i64 xn, .slice ra rl rc, .slice aa al ac], .bool true]) := by
  unfold Rd;go_enter Tryz.func175,Tryz.ntmps175
  go_wp2
  exact bodyPost_ret (v:=.tuple #[.agg #[.int .i64 2,.int .i64 0,.int .i64 0,.int .i64 xc,.int .i64 0,.int .i64 xn,.slice ra rl rc,.slice aa al ac],.bool true]) (by simp [results,Tryz.results175,go_sem]) rfl ⟨rfl,bel2 _ _ _⟩
theorem wf3 {xa xb xc xk xn : Int} {ra aa : Option Addr} {rl rc al ac : Nat} {w : World} : Rd Tryz.prog 175 #[.agg #[.int .i64 3, .int .i64 xa, .int .i64 xb, .int .i64 xc, .int .i64 xk, .int .i64 xn, .slice ra rl rc, .slice aa al ac]] w (.tuple #[.agg #[.int .i64 3, .int .i64 xa, .int .i64 xb, .int .i64 xc, .int .i64 xk, .int .i64 xn, .slice ra rl rc, .slice aa al ac], .bool true]) := by
  unfold Rd;go_enter Tryz.func175,Tryz.ntmps175
  go_wp2
  exact bodyPost_ret (v:=.tuple #[.agg #[.int .i64 3,.int .i64 xa,.int .i64 xb,.int .i64 xc,.int .i64 xk,.int .i64 xn,.slice ra rl rc,.slice aa al ac],.bool true]) (by simp [results,Tryz.results175,go_sem]) rfl ⟨rfl,bel2 _ _ _⟩
theorem wf4 {xa xb xc xk xn : Int} {ra aa : Option Addr} {rl rc al ac : Nat} {w : World} : Rd Tryz.prog 175 #[.agg #[.int .i64 4, .int .i64 xa, .int .i64 xb, .int .i64 xc, .int .i64 xk, .int .i64 xn, .slice ra rl rc, .slice aa al ac]] w (.tuple #[.agg #[.int .i64 4, .int .i64 0, .int .i64 xb, .int .i64 xc, .int .i64 xk, .int .i64 xn, .slice ra rl rc, .slice aa al ac], .bool true]) := by
  unfold Rd;go_enter Tryz.func175,Tryz.ntmps175
  go_wp2
  exact bodyPost_ret (v:=.tuple #[.agg #[.int .i64 4,.int .i64 0,.int .i64 xb,.int .i64 xc,.int .i64 xk,.int .i64 xn,.slice ra rl rc,.slice aa al ac],.bool true]) (by simp [results,Tryz.results175,go_sem]) rfl ⟨rfl,bel2 _ _ _⟩
theorem wf5 {xa xb xc xk xn : Int} {ra aa : Option Addr} {rl rc al ac : Nat} {w : World} : Rd Tryz.prog 175 #[.agg #[.int .i64 5, .int .i64 xa, .int .i64 xb, .int .i64 xc, .int .i64 xk, .int .i64 xn, .slice ra rl rc, .slice aa al ac]] w (.tuple #[.agg #[.int .i64 5, .int .i64 0, .int .i64 xb, .int .i64 xc, .int .i64 xk, .int .i64 xn, .slice ra rl rc, .slice none 0 0], .bool true]) := by
  unfold Rd;go_enter Tryz.func175,Tryz.ntmps175
  go_wp2
  exact bodyPost_ret (v:=.tuple #[.agg #[.int .i64 5,.int .i64 0,.int .i64 xb,.int .i64 xc,.int .i64 xk,.int .i64 xn,.slice ra rl rc,.slice none 0 0],.bool true]) (by simp [results,Tryz.results175,go_sem]) rfl ⟨rfl,bel2 _ _ _⟩
theorem wf6 {xa xb xc xk xn : Int} {ra aa : Option Addr} {rl rc al ac : Nat} {w : World} : Rd Tryz.prog 175 #[.agg #[.int .i64 6, .int .i64 xa, .int .i64 xb, .int .i64 xc, .int .i64 xk, .int .i64 xn, .slice ra rl rc, .slice aa al ac]] w (.tuple #[.agg #[.int .i64 6, .int .i64 0, .int .i64 xb, .int .i64 xc, .int .i64 0, .int .i64 xn, .slice ra rl rc, .slice aa al ac], .bool true]) := by
  unfold Rd;go_enter Tryz.func175,Tryz.ntmps175
  go_wp2
  exact bodyPost_ret (v:=.tuple #[.agg #[.int .i64 6,.int .i64 0,.int .i64 xb,.int .i64 xc,.int .i64 0,.int .i64 xn,.slice ra rl rc,.slice aa al ac],.bool true]) (by simp [results,Tryz.results175,go_sem]) rfl ⟨rfl,bel2 _ _ _⟩
theorem wf7 {xa xb xc xk xn : Int} {ra aa : Option Addr} {rl rc al ac : Nat} {w : World} : Rd Tryz.prog 175 #[.agg #[.int .i64 7, .int .i64 xa, .int .i64 xb, .int .i64 xc, .int .i64 xk, .int .i64 xn, .slice ra rl rc, .slice aa al ac]] w (.tuple #[.agg #[.int .i64 7, .int .i64 0, .int .i64 0, .int .i64 xc, .int .i64 0, .int .i64 xn, .slice ra rl rc, .slice aa al ac], .bool true]) := by
  unfold Rd;go_enter Tryz.func175,Tryz.ntmps175
  go_wp2
  exact bodyPost_ret (v:=.tuple #[.agg #[.int .i64 7,.int .i64 0,.int .i64 0,.int .i64 xc,.int .i64 0,.int .i64 xn,.slice ra rl rc,.slice aa al ac],.bool true]) (by simp [results,Tryz.results175,go_sem]) rfl ⟨rfl,bel2 _ _ _⟩
theorem wf8 {xa xb xc xk xn : Int} {ra aa : Option Addr} {rl rc al ac : Nat} {w : World} : Rd Tryz.prog 175 #[.agg #[.int .i64 8, .int .i64 xa, .int .i64 xb, .int .i64 xc, .int .i64 xk, .int .i64 xn, .slice ra rl rc, .slice aa al ac]] w (.tuple #[.agg #[.int .i64 8, .int .i64 0, .int .i64 0, .int .i64 xc, .int .i64 xk, .int .i64 xn, .slice ra rl rc, .slice aa al ac], .bool true]) := by
  unfold Rd;go_enter Tryz.func175,Tryz.ntmps175
  go_wp2
  exact bodyPost_ret (v:=.tuple #[.agg #[.int .i64 8,.int .i64 0,.int .i64 0,.int .i64 xc,.int .i64 xk,.int .i64 xn,.slice ra rl rc,.slice aa al ac],.bool true]) (by simp [results,Tryz.results175,go_sem]) rfl ⟨rfl,bel2 _ _ _⟩
theorem wf9 {xa xb xc xk xn : Int} {ra aa : Option Addr} {rl rc al ac : Nat} {w : World} : Rd Tryz.prog 175 #[.agg #[.int .i64 9, .int .i64 xa, .int .i64 xb, .int .i64 xc, .int .i64 xk, .int .i64 xn, .slice ra rl rc, .slice aa al ac]] w (.tuple #[.agg #[.int .i64 9, .int .i64 0, .int .i64 0, .int .i64 xc, .int .i64 xk, .int .i64 xn, .slice ra rl rc, .slice aa al ac], .bool true]) := by
  unfold Rd;go_enter Tryz.func175,Tryz.ntmps175
  go_wp2
  exact bodyPost_ret (v:=.tuple #[.agg #[.int .i64 9,.int .i64 0,.int .i64 0,.int .i64 xc,.int .i64 xk,.int .i64 xn,.slice ra rl rc,.slice aa al ac],.bool true]) (by simp [results,Tryz.results175,go_sem]) rfl ⟨rfl,bel2 _ _ _⟩
theorem wf10 {xa xb xc xk xn : Int} {ra aa : Option Addr} {rl rc al ac : Nat} {w : World} : Rd Tryz.prog 175 #[.agg #[.int .i64 10, .int .i64 xa, .int .i64 xb, .int .i64 xc, .int .i64 xk, .int .i64 xn, .slice ra rl rc, .slice aa al ac]] w (.tuple #[.agg #[.int .i64 10, .int .i64 0, .int .i64 0, .int .i64 0, .int .i64 xk, .int .i64 xn, .slice ra rl rc, .slice aa al ac], .bool true]) := by
  unfold Rd;go_enter Tryz.func175,Tryz.ntmps175
  go_wp2
  exact bodyPost_ret (v:=.tuple #[.agg #[.int .i64 10,.int .i64 0,.int .i64 0,.int .i64 0,.int .i64 xk,.int .i64 xn,.slice ra rl rc,.slice aa al ac],.bool true]) (by simp [results,Tryz.results175,go_sem]) rfl ⟨rfl,bel2 _ _ _⟩
theorem wf11 {xa xb xc xk xn : Int} {ra aa : Option Addr} {rl rc al ac : Nat} {w : World} : Rd Tryz.prog 175 #[.agg #[.int .i64 11, .int .i64 xa, .int .i64 xb, .int .i64 xc, .int .i64 xk, .int .i64 xn, .slice ra rl rc, .slice aa al ac]] w (.tuple #[.agg #[.int .i64 11, .int .i64 0, .int .i64 xb, .int .i64 xc, .int .i64 xk, .int .i64 xn, .slice ra rl rc, .slice aa al ac], .bool true]) := by
  unfold Rd;go_enter Tryz.func175,Tryz.ntmps175
  go_wp2
  exact bodyPost_ret (v:=.tuple #[.agg #[.int .i64 11,.int .i64 0,.int .i64 xb,.int .i64 xc,.int .i64 xk,.int .i64 xn,.slice ra rl rc,.slice aa al ac],.bool true]) (by simp [results,Tryz.results175,go_sem]) rfl ⟨rfl,bel2 _ _ _⟩
theorem wf12 {xa xb xc xk xn : Int} {ra aa : Option Addr} {rl rc al ac : Nat} {w : World} : Rd Tryz.prog 175 #[.agg #[.int .i64 12, .int .i64 xa, .int .i64 xb, .int .i64 xc, .int .i64 xk, .int .i64 xn, .slice ra rl rc, .slice aa al ac]] w (.tuple #[.agg #[.int .i64 12, .int .i64 xa, .int .i64 xb, .int .i64 xc, .int .i64 xk, .int .i64 xn, .slice ra rl rc, .slice aa al ac], .bool true]) := by
  unfold Rd;go_enter Tryz.func175,Tryz.ntmps175
  go_wp2
  exact bodyPost_ret (v:=.tuple #[.agg #[.int .i64 12,.int .i64 xa,.int .i64 xb,.int .i64 xc,.int .i64 xk,.int .i64 xn,.slice ra rl rc,.slice aa al ac],.bool true]) (by simp [results,Tryz.results175,go_sem]) rfl ⟨rfl,bel2 _ _ _⟩
theorem wf13 {xa xb xc xk xn : Int} {ra aa : Option Addr} {rl rc al ac : Nat} {w : World} : Rd Tryz.prog 175 #[.agg #[.int .i64 13, .int .i64 xa, .int .i64 xb, .int .i64 xc, .int .i64 xk, .int .i64 xn, .slice ra rl rc, .slice aa al ac]] w (.tuple #[.agg #[.int .i64 13, .int .i64 0, .int .i64 xb, .int .i64 xc, .int .i64 xk, .int .i64 xn, .slice ra rl rc, .slice aa al ac], .bool true]) := by
  unfold Rd;go_enter Tryz.func175,Tryz.ntmps175
  go_wp2
  exact bodyPost_ret (v:=.tuple #[.agg #[.int .i64 13,.int .i64 0,.int .i64 xb,.int .i64 xc,.int .i64 xk,.int .i64 xn,.slice ra rl rc,.slice aa al ac],.bool true]) (by simp [results,Tryz.results175,go_sem]) rfl ⟨rfl,bel2 _ _ _⟩
theorem wf14 {xa xb xc xk xn : Int} {ra aa : Option Addr} {rl rc al ac : Nat} {w : World} : Rd Tryz.prog 175 #[.agg #[.int .i64 14, .int .i64 xa, .int .i64 xb, .int .i64 xc, .int .i64 xk, .int .i64 xn, .slice ra rl rc, .slice aa al ac]] w (.tuple #[.agg #[.int .i64 14, .int .i64 xa, .int .i64 xb, .int .i64 xc, .int .i64 0, .int .i64 xn, .slice none 0 0, .slice none 0 0], .bool true]) := by
  unfold Rd;go_enter Tryz.func175,Tryz.ntmps175
  go_wp2
  exact bodyPost_ret (v:=.tuple #[.agg #[.int .i64 14,.int .i64 xa,.int .i64 xb,.int .i64 xc,.int .i64 0,.int .i64 xn,.slice none 0 0,.slice none 0 0],.bool true]) (by simp [results,Tryz.results175,go_sem]) rfl ⟨rfl,bel2 _ _ _⟩
theorem wfNo {xop : Int} {xa xb xc xk xn : Int} {ra aa : Option Addr} {rl rc al ac : Nat} {w : World} (h : xop ≠ 1 ∧ xop ≠ 2 ∧ xop ≠ 3 ∧ xop ≠ 4 ∧ xop ≠ 5 ∧ xop ≠ 6 ∧ xop ≠ 7 ∧ xop ≠ 8 ∧ xop ≠ 9 ∧ xop ≠ 10 ∧ xop ≠ 11 ∧ xop ≠ 12 ∧ xop ≠ 13 ∧ xop ≠ 14) : Rd Tryz.prog 175 #[.agg #[.int .i64 xop, .int .i64 xa, .int .i64 xb, .int .i64 xc, .int .i64 xk, .int .i64 xn, .slice ra rl rc, .slice aa al ac]] w (.tuple #[.agg #[.int .i64 xop, .int .i64 xa, .int .i64 xb, .int .i64 xc, .int .i64 xk, .int .i64 xn, .slice ra rl rc, .slice aa al ac], .bool false]) := by
  obtain ⟨h1,h2,h3,h4,h5,h6,h7,h8,h9,h10,h11,h12,h13,h14⟩:=h;have g1:(xop==1)=false:=by simpa using h1
  have g2:(xop==2)=false:=by simpa using h2
  have g3:(xop==3)=false:=by simpa using h3
  have g4:(xop==4)=false:=by simpa using h4
  have g5:(xop==5)=false:=by simpa using h5
  have g6:(xop==6)=false:=by simpa using h6
  have g7:(xop==7)=false:=by simpa using h7
  have g8:(xop==8)=false:=by simpa using h8
  have g9:(xop==9)=false:=by simpa using h9
  have g10:(xop==10)=false:=by simpa using h10
  have g11:(xop==11)=false:=by simpa using h11
  have g12:(xop==12)=false:=by simpa using h12
  have g13:(xop==13)=false:=by simpa using h13
  have g14:(xop==14)=false:=by simpa using h14
  unfold Rd;go_enter Tryz.func175,Tryz.ntmps175
  go_wp2
  exact bodyPost_ret (v:=.tuple #[.agg #[.int .i64 xop,.int .i64 xa,.int .i64 xb,.int .i64 xc,.int .i64 xk,.int .i64 xn,.slice ra rl rc,.slice aa al ac],.bool false]) (by simp [results,Tryz.results175,go_sem]) rfl ⟨rfl,bel2 _ _ _⟩
theorem bounds2 {xa xb xc xk xn : Int} {ra aa : Option Addr} {rl rc al ac : Nat} {am : Option Addr} {lm cm : Nat} {w : World} : Rd Tryz.prog 177 #[.agg #[.slice am lm cm], .agg #[.int .i64 2, .int .i64 xa, .int .i64 xb, .int .i64 xc, .int .i64 xk, .int .i64 xn, .slice ra rl rc, .slice aa al ac]] w (.int .i64 (boundsC lm 2 xk rl al)) := by
  have C:Hid (∀ wx:World,Calls Tryz.prog 208 #[.int .i64 xk,.int .i64 1,.int .i64 9] wx fun e w'=>e=.returned (.int .i64 (rangeC xk 1 9))∧Below wx.heap.size wx w'):=fun wx=>rangeCode_any;rw [show boundsC lm 2 xk rl al=rangeC xk 1 9 from rfl];generalize rangeC xk 1 9=v at C ⊢;unfold Rd;go_enter Tryz.func177,Tryz.ntmps177
  go_wp2_with fail
  refine (C.out _).mono ?_;rintro e w2 ⟨rfl,b2⟩;have B2:Hid (Below w.heap.size w w2):=(bel2 _ _ _).trans (b2.mono (bel2 w _ _).size);clear b2 C;go_wp2
  go_ret;exact ⟨rfl,B2.out⟩
theorem bounds6 {xa xb xc xk xn : Int} {ra aa : Option Addr} {rl rc al ac : Nat} {am : Option Addr} {lm cm : Nat} {w : World} : Rd Tryz.prog 177 #[.agg #[.slice am lm cm], .agg #[.int .i64 6, .int .i64 xa, .int .i64 xb, .int .i64 xc, .int .i64 xk, .int .i64 xn, .slice ra rl rc, .slice aa al ac]] w (.int .i64 (boundsC lm 6 xk rl al)) := by
  have C:Hid (∀ wx:World,Calls Tryz.prog 208 #[.int .i64 xk,.int .i64 0,.int .i64 7] wx fun e w'=>e=.returned (.int .i64 (rangeC xk 0 7))∧Below wx.heap.size wx w'):=fun wx=>rangeCode_any;rw [show boundsC lm 6 xk rl al=rangeC xk 0 7 from rfl];generalize rangeC xk 0 7=v at C ⊢;unfold Rd;go_enter Tryz.func177,Tryz.ntmps177
  go_wp2_with fail
  refine (C.out _).mono ?_;rintro e w2 ⟨rfl,b2⟩;have B2:Hid (Below w.heap.size w w2):=(bel2 _ _ _).trans (b2.mono (bel2 w _ _).size);clear b2 C;go_wp2
  go_ret;exact ⟨rfl,B2.out⟩
theorem bounds7 {xa xb xc xk xn : Int} {ra aa : Option Addr} {rl rc al ac : Nat} {am : Option Addr} {lm cm : Nat} {w : World} : Rd Tryz.prog 177 #[.agg #[.slice am lm cm], .agg #[.int .i64 7, .int .i64 xa, .int .i64 xb, .int .i64 xc, .int .i64 xk, .int .i64 xn, .slice ra rl rc, .slice aa al ac]] w (.int .i64 (boundsC lm 7 xk rl al)) := by
  have C:Hid (∀ wx:World,Calls Tryz.prog 208 #[.int .i64 xk,.int .i64 0,.int .i64 7] wx fun e w'=>e=.returned (.int .i64 (rangeC xk 0 7))∧Below wx.heap.size wx w'):=fun wx=>rangeCode_any;rw [show boundsC lm 7 xk rl al=rangeC xk 0 7 from rfl];generalize rangeC xk 0 7=v at C ⊢;unfold Rd;go_enter Tryz.func177,Tryz.ntmps177
  go_wp2_with fail
  refine (C.out _).mono ?_;rintro e w2 ⟨rfl,b2⟩;have B2:Hid (Below w.heap.size w w2):=(bel2 _ _ _).trans (b2.mono (bel2 w _ _).size);clear b2 C;go_wp2
  go_ret;exact ⟨rfl,B2.out⟩
theorem bounds5 {xa xb xc xk xn : Int} {ra aa : Option Addr} {rl rc al ac : Nat} {am : Option Addr} {lm cm : Nat} {w : World} : Rd Tryz.prog 177 #[.agg #[.slice am lm cm], .agg #[.int .i64 5, .int .i64 xa, .int .i64 xb, .int .i64 xc, .int .i64 xk, .int .i64 xn, .slice ra rl rc, .slice aa al ac]] w (.int .i64 (boundsC lm 5 xk rl al)) := by
  have C:Hid (∀ wx:World,Calls Tryz.prog 209 #[.slice aa al ac,.int .i64 8] wx fun e w'=>e=.returned (.int .i64 (manyC al 8))∧Below wx.heap.size wx w'):=fun wx=>manyCode_any;rw [show boundsC lm 5 xk rl al=manyC al 8 from rfl];generalize manyC al 8=v at C ⊢;unfold Rd;go_enter Tryz.func177,Tryz.ntmps177
  go_wp2_with fail
  refine (C.out _).mono ?_;rintro e w2 ⟨rfl,b2⟩;have B2:Hid (Below w.heap.size w w2):=(bel2 _ _ _).trans (b2.mono (bel2 w _ _).size);clear b2 C;go_wp2
  go_ret;exact ⟨rfl,B2.out⟩
theorem bounds14 {xa xb xc xk xn : Int} {ra aa : Option Addr} {rl rc al ac : Nat} {am : Option Addr} {lm cm : Nat} {w : World} (hlm : lm < 2305843009213693952) : Rd Tryz.prog 177 #[.agg #[.slice am lm cm], .agg #[.int .i64 14, .int .i64 xa, .int .i64 xb, .int .i64 xc, .int .i64 xk, .int .i64 xn, .slice ra rl rc, .slice aa al ac]] w (.int .i64 (boundsC lm 14 xk rl al)) := by
  have C:Hid (∀ wx:World,Calls Tryz.prog 208 #[.int .i64 xk,.int .i64 0,.int .i64 ((lm:Int) - 1)] wx fun e w'=>e=.returned (.int .i64 (rangeC xk 0 ((lm:Int) - 1)))∧Below wx.heap.size wx w'):=fun wx=>rangeCode_any;have C2:Hid (∀ wx:World,Calls Tryz.prog 210 #[.slice ra rl rc,.int .i64 6,.slice aa al ac] wx fun e w'=>e=.returned (.int .i64 (handedC rl 6 al))∧Below wx.heap.size wx w'):=fun wx=>handedCode_any;rw [show boundsC lm 14 xk rl al=if rangeC xk 0 ((lm:Int) - 1)=0 then handedC rl 6 al else rangeC xk 0 ((lm:Int) - 1) from rfl];generalize rangeC xk 0 ((lm:Int) - 1)=v at C ⊢;generalize handedC rl 6 al=u at C2 ⊢;have X2:Blk ((w.alloc (.cells #[.slice am lm cm] 25)).alloc (.cells #[.int .i64 14,.int .i64 xa,.int .i64 xb,.int .i64 xc,.int .i64 xk,.int .i64 xn,.slice ra rl rc,.slice aa al ac] 45)) (w.heap.size+1) #[.int .i64 14,.int .i64 xa,.int .i64 xb,.int .i64 xc,.int .i64 xk,.int .i64 xn,.slice ra rl rc,.slice aa al ac] 45:=Blk.new2 _ _ _ _;have B1:Hid (Below w.heap.size w ((w.alloc (.cells #[.slice am lm cm] 25)).alloc (.cells #[.int .i64 14,.int .i64 xa,.int .i64 xb,.int .i64 xc,.int .i64 xk,.int .i64 xn,.slice ra rl rc,.slice aa al ac] 45))):=bel2 _ _ _;unfold Rd;by_cases hv:v=0
  · subst hv;rw [if_pos rfl];go_enter Tryz.func177,Tryz.ntmps177
    go_wp2_with fail
    generalize ((w.alloc (.cells #[.slice am lm cm] 25)).alloc (.cells #[.int .i64 14,.int .i64 xa,.int .i64 xb,.int .i64 xc,.int .i64 xk,.int .i64 xn,.slice ra rl rc,.slice aa al ac] 45))=w1 at X2 B1 ⊢;refine (C.out _).mono ?_;rintro e w2 ⟨rfl,b2⟩;have X3:=(b2.block _ (lt_of_block X2)).trans X2;have B2:Hid (Below w.heap.size w w2):=B1.out.trans (b2.mono B1.out.size);have c6:=cellOf X3 6 _ rfl;have c7:=cellOf X3 7 _ rfl;clear b2 C X2 B1 X3;go_wp2_with fail
    refine (C2.out _).mono ?_;rintro e w3 ⟨rfl,b3⟩;have B3:Hid (Below w.heap.size w w3):=B2.out.trans (b3.mono B2.out.size);clear b3 C2 B2;go_wp2
    go_ret;exact ⟨rfl,B3.out⟩
  · rw [if_neg hv];have hv':(v==0)=false:=by simpa using hv
    go_enter Tryz.func177,Tryz.ntmps177
    go_wp2_with fail
    generalize ((w.alloc (.cells #[.slice am lm cm] 25)).alloc (.cells #[.int .i64 14,.int .i64 xa,.int .i64 xb,.int .i64 xc,.int .i64 xk,.int .i64 xn,.slice ra rl rc,.slice aa al ac] 45))=w1 at X2 B1 ⊢;refine (C.out _).mono ?_;rintro e w2 ⟨rfl,b2⟩;have B2:Hid (Below w.heap.size w w2):=B1.out.trans (b2.mono B1.out.size);clear b2 C C2 X2 B1;go_wp2
    go_ret;exact ⟨rfl,B2.out⟩
theorem boundsNo {xop : Int} {xa xb xc xk xn : Int} {ra aa : Option Addr} {rl rc al ac : Nat} {am : Option Addr} {lm cm : Nat} {w : World} (h : xop ≠ 2 ∧ xop ≠ 6 ∧ xop ≠ 7 ∧ xop ≠ 5 ∧ xop ≠ 14) : Rd Tryz.prog 177 #[.agg #[.slice am lm cm], .agg #[.int .i64 xop, .int .i64 xa, .int .i64 xb, .int .i64 xc, .int .i64 xk, .int .i64 xn, .slice ra rl rc, .slice aa al ac]] w (.int .i64 (boundsC lm xop xk rl al)) := by
  obtain ⟨h2,h6,h7,h5,h14⟩:=h;rw [show boundsC lm xop xk rl al=0 by simp [boundsC,h2,h6,h7,h5,h14]];have g2:(xop==2)=false:=by simpa using h2
  have g6:(xop==6)=false:=by simpa using h6
  have g7:(xop==7)=false:=by simpa using h7
  have g5:(xop==5)=false:=by simpa using h5
  have g14:(xop==14)=false:=by simpa using h14
  unfold Rd;go_enter Tryz.func177,Tryz.ntmps177
  go_wp2
  go_ret;exact ⟨rfl,bel2 _ _ _⟩
theorem ins_walk {xop : Int} {xa xb xc xk xn : Int} {ra aa : Option Addr} {rl rc al ac : Nat} {ya yb yc yk yn : Int} {yra yaa : Option Addr} {yrl yrc yal yac : Nat} {am : Option Addr} {lm cm : Nat} {w : World} {ok bare : Bool} {v : Int}
    (CW:Hid (∀ wx:World,Calls Tryz.prog 175 #[.agg #[.int .i64 xop,.int .i64 xa,.int .i64 xb,.int .i64 xc,.int .i64 xk,.int .i64 xn,.slice ra rl rc,.slice aa al ac]] wx fun e w'=>e=.returned (.tuple #[.agg #[.int .i64 xop,.int .i64 ya,.int .i64 yb,.int .i64 yc,.int .i64 yk,.int .i64 yn,.slice yra yrl yrc,.slice yaa yal yac],.bool ok])∧Below wx.heap.size wx w'))
    (CB:Hid (∀ wx:World,Calls Tryz.prog 176 #[.agg #[.int .i64 xop,.int .i64 ya,.int .i64 yb,.int .i64 yc,.int .i64 yk,.int .i64 yn,.slice yra yrl yrc,.slice yaa yal yac]] wx fun e w'=>e=.returned (.bool bare)∧Below wx.heap.size wx w'))
    (CD:Hid (∀ wx:World,Calls Tryz.prog 177 #[.agg #[.slice am lm cm],.agg #[.int .i64 xop,.int .i64 xa,.int .i64 xb,.int .i64 xc,.int .i64 xk,.int .i64 xn,.slice ra rl rc,.slice aa al ac]] wx fun e w'=>e=.returned (.int .i64 v)∧Below wx.heap.size wx w')) :
    Rd Tryz.prog 140 #[.agg #[.slice am lm cm],.agg #[.int .i64 xop,.int .i64 xa,.int .i64 xb,.int .i64 xc,.int .i64 xk,.int .i64 xn,.slice ra rl rc,.slice aa al ac]] w (.int .i64 (if ok=false then 3 else if bare=true then v else 4)):=by
  have X1:Blk ((w.alloc (.cells #[.slice am lm cm] 25)).alloc (.cells #[.int .i64 xop,.int .i64 xa,.int .i64 xb,.int .i64 xc,.int .i64 xk,.int .i64 xn,.slice ra rl rc,.slice aa al ac] 45)) w.heap.size #[.slice am lm cm] 25:=Blk.new1 _ _ _ _ _;have X2:Blk ((w.alloc (.cells #[.slice am lm cm] 25)).alloc (.cells #[.int .i64 xop,.int .i64 xa,.int .i64 xb,.int .i64 xc,.int .i64 xk,.int .i64 xn,.slice ra rl rc,.slice aa al ac] 45)) (w.heap.size+1) #[.int .i64 xop,.int .i64 xa,.int .i64 xb,.int .i64 xc,.int .i64 xk,.int .i64 xn,.slice ra rl rc,.slice aa al ac] 45:=Blk.new2 _ _ _ _;have B1:Hid (Below w.heap.size w ((w.alloc (.cells #[.slice am lm cm] 25)).alloc (.cells #[.int .i64 xop,.int .i64 xa,.int .i64 xb,.int .i64 xc,.int .i64 xk,.int .i64 xn,.slice ra rl rc,.slice aa al ac] 45))):=bel2 _ _ _;unfold Rd;go_enter Tryz.func140,Tryz.ntmps140
  go_wp2_with fail
  generalize ((w.alloc (.cells #[.slice am lm cm] 25)).alloc (.cells #[.int .i64 xop,.int .i64 xa,.int .i64 xb,.int .i64 xc,.int .i64 xk,.int .i64 xn,.slice ra rl rc,.slice aa al ac] 45))=w1 at X1 X2 B1 ⊢;refine (CW.out _).mono ?_;rintro e w2 ⟨rfl,b2⟩;replace X1:=(b2.block _ (lt_of_block X1)).trans X1;replace X2:=(b2.block _ (lt_of_block X2)).trans X2;have B2:Hid (Below w.heap.size w w2):=B1.out.trans (b2.mono B1.out.size);clear b2 B1 CW
  cases ok with
  | false =>
    have B3:Hid (Below w.heap.size w (w2.alloc (.cells #[.int .i64 xop,.int .i64 ya,.int .i64 yb,.int .i64 yc,.int .i64 yk,.int .i64 yn,.slice yra yrl yrc,.slice yaa yal yac] 45))):=B2.out.trans ((bel1 _ _).mono B2.out.size);clear CB CD X1 X2 B2;go_wp2
    go_ret;exact ⟨rfl,B3.out⟩
  | true =>
    replace X1:=((bel1 w2 (.cells #[.int .i64 xop,.int .i64 ya,.int .i64 yb,.int .i64 yc,.int .i64 yk,.int .i64 yn,.slice yra yrl yrc,.slice yaa yal yac] 45)).block _ (lt_of_block X1)).trans X1;replace X2:=((bel1 w2 (.cells #[.int .i64 xop,.int .i64 ya,.int .i64 yb,.int .i64 yc,.int .i64 yk,.int .i64 yn,.slice yra yrl yrc,.slice yaa yal yac] 45)).block _ (lt_of_block X2)).trans X2;have B3:Hid (Below w.heap.size w (w2.alloc (.cells #[.int .i64 xop,.int .i64 ya,.int .i64 yb,.int .i64 yc,.int .i64 yk,.int .i64 yn,.slice yra yrl yrc,.slice yaa yal yac] 45))):=B2.out.trans ((bel1 _ _).mono B2.out.size);go_wp2_with fail
    clear B2;generalize w2.alloc (.cells #[.int .i64 xop,.int .i64 ya,.int .i64 yb,.int .i64 yc,.int .i64 yk,.int .i64 yn,.slice yra yrl yrc,.slice yaa yal yac] 45)=w3 at X1 X2 B3 ⊢;refine (CB.out _).mono ?_;rintro e w4 ⟨rfl,b4⟩;replace X1:=(b4.block _ (lt_of_block X1)).trans X1;replace X2:=(b4.block _ (lt_of_block X2)).trans X2;have B4:Hid (Below w.heap.size w w4):=B3.out.trans (b4.mono B3.out.size);clear b4 B3 CB
    cases bare with
    | false =>
      clear CD X1 X2;go_wp2
      go_ret;exact ⟨rfl,B4.out⟩
    | true =>
      have d:=cellOf X1 0 _ rfl;have d0:=cellOf X2 0 _ rfl;have d1:=cellOf X2 1 _ rfl;have d2:=cellOf X2 2 _ rfl;have d3:=cellOf X2 3 _ rfl;have d4:=cellOf X2 4 _ rfl;have d5:=cellOf X2 5 _ rfl;have d6:=cellOf X2 6 _ rfl;have d7:=cellOf X2 7 _ rfl;clear X1 X2;go_wp2_with fail
      refine (CD.out _).mono ?_;rintro e w5 ⟨rfl,b5⟩;have B5:Hid (Below w.heap.size w w5):=B4.out.trans (b5.mono B4.out.size);clear b5 B4 CD;go_wp2
      go_ret;exact ⟨rfl,B5.out⟩
theorem cIns_any (funcs : Nat) (x : MIns) (i : IP) (am : Option Addr) (cm : Nat) (w : World) (hf : funcs < 2305843009213693952) :
    Rd Tryz.prog 140 #[.agg #[.slice am funcs cm],.agg #[.int .i64 x.op,.int .i64 x.a,.int .i64 x.b,.int .i64 x.c,.int .i64 x.k,.int .i64 x.n,.slice i.pR x.regs.length i.cR,.slice i.pA x.args.length i.cA]] w (.int .i64 (x.form funcs)):=by
  rw [MIns.form_eq];have hno:=op_cases x.op;generalize x.op=op at hno ⊢;rcases hno with rfl | rfl | rfl | rfl | rfl | rfl | rfl | rfl | rfl | rfl | rfl | rfl | rfl | rfl | h
  · rw [insForm_bare (show fieldsOf 1=some (false,false,false,false,true,false,false) from rfl)];exact ins_walk (ok:=true) (fun _=>wf1) (fun _=>isBare_any) (fun _=>boundsNo (by decide))
  · rw [insForm_bare (show fieldsOf 2=some (true,true,false,true,false,false,false) from rfl)];exact ins_walk (ok:=true) (fun _=>wf2) (fun _=>isBare_any) (fun _=>bounds2)
  · rw [insForm_bare (show fieldsOf 3=some (false,false,false,false,false,false,false) from rfl)];exact ins_walk (ok:=true) (fun _=>wf3) (fun _=>isBare_any) (fun _=>boundsNo (by decide))
  · rw [insForm_bare (show fieldsOf 4=some (true,false,false,false,false,false,false) from rfl)];exact ins_walk (ok:=true) (fun _=>wf4) (fun _=>isBare_any) (fun _=>boundsNo (by decide))
  · rw [insForm_bare (show fieldsOf 5=some (true,false,false,false,false,false,true) from rfl)];exact ins_walk (ok:=true) (fun _=>wf5) (fun _=>isBare_any) (fun _=>bounds5)
  · rw [insForm_bare (show fieldsOf 6=some (true,false,false,true,false,false,false) from rfl)];exact ins_walk (ok:=true) (fun _=>wf6) (fun _=>isBare_any) (fun _=>bounds6)
  · rw [insForm_bare (show fieldsOf 7=some (true,true,false,true,false,false,false) from rfl)];exact ins_walk (ok:=true) (fun _=>wf7) (fun _=>isBare_any) (fun _=>bounds7)
  · rw [insForm_bare (show fieldsOf 8=some (true,true,false,false,false,false,false) from rfl)];exact ins_walk (ok:=true) (fun _=>wf8) (fun _=>isBare_any) (fun _=>boundsNo (by decide))
  · rw [insForm_bare (show fieldsOf 9=some (true,true,false,false,false,false,false) from rfl)];exact ins_walk (ok:=true) (fun _=>wf9) (fun _=>isBare_any) (fun _=>boundsNo (by decide))
  · rw [insForm_bare (show fieldsOf 10=some (true,true,true,false,false,false,false) from rfl)];exact ins_walk (ok:=true) (fun _=>wf10) (fun _=>isBare_any) (fun _=>boundsNo (by decide))
  · rw [insForm_bare (show fieldsOf 11=some (true,false,false,false,false,false,false) from rfl)];exact ins_walk (ok:=true) (fun _=>wf11) (fun _=>isBare_any) (fun _=>boundsNo (by decide))
  · rw [insForm_bare (show fieldsOf 12=some (false,false,false,false,false,false,false) from rfl)];exact ins_walk (ok:=true) (fun _=>wf12) (fun _=>isBare_any) (fun _=>boundsNo (by decide))
  · rw [insForm_bare (show fieldsOf 13=some (true,false,false,false,false,false,false) from rfl)];exact ins_walk (ok:=true) (fun _=>wf13) (fun _=>isBare_any) (fun _=>boundsNo (by decide))
  · rw [insForm_bare (show fieldsOf 14=some (false,false,false,true,false,true,true) from rfl)];exact ins_walk (ok:=true) (fun _=>wf14) (fun _=>isBare_any) (fun _=>bounds14 hf)
  · have e:fieldsOf op=none:=by
      unfold fieldsOf;obtain ⟨h1,h2,h3,h4,h5,h6,h7,h8,h9,h10,h11,h12,h13,h14⟩:=h;simp [h1,h2,h3,h4,h5,h6,h7,h8,h9,h10,h11,h12,h13,h14]
    rw [show insForm funcs op x.a x.b x.c x.k x.n x.regs.length x.args.length=3 by unfold insForm;rw [e]];exact ins_walk (ok:=false) (bare:=bareB x.a x.b x.c x.k x.n x.regs.length x.args.length) (fun _=>wfNo h) (fun _=>isBare_any) (fun _=>boundsNo ⟨h.2.1,h.2.2.2.2.2.1,h.2.2.2.2.2.2.1,h.2.2.2.2.1,h.2.2.2.2.2.2.2.2.2.2.2.2.2⟩)
theorem toForm_eq (x : MTo) (bl : Nat) : x.form bl true = if rangeC x.block 0 ((bl : Int) - 1) = 0 then handedC x.regs.length 16 x.args.length else rangeC x.block 0 ((bl : Int) - 1) := by
  unfold MTo.form rangeC handedC manyC;simp only [Bool.true_eq_false,if_false];repeat' split
  all_goals omega
theorem toForm_no (x : MTo) (bl : Nat) : x.form bl false = if x.block = 0 ∧ x.regs.length = 0 ∧ x.args.length = 0 then 0 else 4 := by
  unfold MTo.form;simp only [if_true];repeat' split
  all_goals omega
theorem endForm_eq (e : MEnd) (bl : Nat) : e.form bl = if e.op < 1 ∨ 3 < e.op then 3 else if (e.op ≠ 2 ∧ e.a ≠ 0) ∨ (e.op ≠ 3 ∧ 0 < e.args.length) then 4 else if 8 < e.args.length then 2
    else if e.yes.form bl (e.op != 3)=0 then e.no.form bl (e.op==2) else e.yes.form bl (e.op != 3):=by
  unfold MEnd.form;have h1:decide (e.op≠3)=(e.op != 3):=by by_cases h:e.op=3 <;> simp [h]
  have h2:decide (e.op=2)=(e.op==2):=by by_cases h:e.op=2 <;> simp [h]
  rw [h1,h2];by_cases c1:e.op<1∨3<e.op
  · simp [c1]
  · rw [if_neg c1,if_neg c1];by_cases c2:(e.op≠2∧e.a≠0)∨(e.op≠3∧0<e.args.length)
    · rw [if_pos c2,if_pos (c2.imp (fun h=>⟨h.2,h.1⟩) (fun h=>⟨h.2,h.1⟩))]
    · rw [if_neg c2,if_neg (fun h=>c2 (h.imp (fun h=>⟨h.2,h.1⟩) (fun h=>⟨h.2,h.1⟩)))];by_cases c3:8<e.args.length
      · simp [c3]
      · rw [if_neg c3,if_neg c3];by_cases c4:e.yes.form bl (e.op != 3)=0
        · simp [c4]
        · simp [c4]
theorem toCodeF {tb : Int} {pR pA : Option Addr} {n1 cR n2 cA : Nat} {fr : Int} {fp fq fb : Option Addr} {fl fc fm fd bl fe : Nat} {w : World} : Rd Tryz.prog 178 #[.agg #[.int .i64 fr, .slice fp fl fc, .slice fq fm fd, .slice fb bl fe], .agg #[.int .i64 tb, .slice pR n1 cR, .slice pA n2 cA], .bool false] w (.int .i64 (if tb = 0 ∧ n1 = 0 ∧ n2 = 0 then 0 else 4)) := by
  unfold Rd;by_cases h1:tb=0
  · subst h1;by_cases h2:n1=0
    · subst h2;by_cases h3:n2=0
      · subst h3;rw [if_pos ⟨rfl,rfl,rfl⟩];go_enter Tryz.func178,Tryz.ntmps178
        go_wp2
        go_ret;exact ⟨rfl,bel2 _ _ _⟩
      · have g:(0:Int)<n2:=by omega
        rw [if_neg (by omega)];go_enter Tryz.func178,Tryz.ntmps178
        go_wp2
        go_ret;exact ⟨rfl,bel2 _ _ _⟩
    · have g:(0:Int)<n1:=by omega
      rw [if_neg (by omega)];go_enter Tryz.func178,Tryz.ntmps178
      go_wp2
      go_ret;exact ⟨rfl,bel2 _ _ _⟩
  · have g:(tb==0)=false:=by simpa using h1
    rw [if_neg (by omega)];go_enter Tryz.func178,Tryz.ntmps178
    go_wp2
    go_ret;exact ⟨rfl,bel2 _ _ _⟩
theorem toCodeT {tb : Int} {pR pA : Option Addr} {n1 cR n2 cA : Nat} {fr : Int} {fp fq fb : Option Addr} {fl fc fm fd bl fe : Nat} {w : World} (hbl : bl < 2305843009213693952) : Rd Tryz.prog 178 #[.agg #[.int .i64 fr, .slice fp fl fc, .slice fq fm fd, .slice fb bl fe], .agg #[.int .i64 tb, .slice pR n1 cR, .slice pA n2 cA], .bool true] w (.int .i64 (if rangeC tb 0 ((bl : Int) - 1) = 0 then handedC n1 16 n2 else rangeC tb 0 ((bl : Int) - 1))) := by
  have C:Hid (∀ wx:World,Calls Tryz.prog 208 #[.int .i64 tb,.int .i64 0,.int .i64 ((bl:Int) - 1)] wx fun e w'=>e=.returned (.int .i64 (rangeC tb 0 ((bl:Int) - 1)))∧Below wx.heap.size wx w'):=fun wx=>rangeCode_any;have C2:Hid (∀ wx:World,Calls Tryz.prog 210 #[.slice pR n1 cR,.int .i64 16,.slice pA n2 cA] wx fun e w'=>e=.returned (.int .i64 (handedC n1 16 n2))∧Below wx.heap.size wx w'):=fun wx=>handedCode_any;generalize rangeC tb 0 ((bl:Int) - 1)=v at C ⊢;generalize handedC n1 16 n2=u at C2 ⊢;have X2:Blk ((w.alloc (.cells #[.int .i64 fr,.slice fp fl fc,.slice fq fm fd,.slice fb bl fe] 42)).alloc (.cells #[.int .i64 tb,.slice pR n1 cR,.slice pA n2 cA] 48)) (w.heap.size+1) #[.int .i64 tb,.slice pR n1 cR,.slice pA n2 cA] 48:=Blk.new2 _ _ _ _;have B1:Hid (Below w.heap.size w ((w.alloc (.cells #[.int .i64 fr,.slice fp fl fc,.slice fq fm fd,.slice fb bl fe] 42)).alloc (.cells #[.int .i64 tb,.slice pR n1 cR,.slice pA n2 cA] 48))):=bel2 _ _ _;unfold Rd;by_cases hv:v=0
  · subst hv;rw [if_pos rfl];go_enter Tryz.func178,Tryz.ntmps178
    go_wp2_with fail
    generalize ((w.alloc (.cells #[.int .i64 fr,.slice fp fl fc,.slice fq fm fd,.slice fb bl fe] 42)).alloc (.cells #[.int .i64 tb,.slice pR n1 cR,.slice pA n2 cA] 48))=w1 at X2 B1 ⊢;refine (C.out _).mono ?_;rintro e w2 ⟨rfl,b2⟩;have X3:=(b2.block _ (lt_of_block X2)).trans X2;have B2:Hid (Below w.heap.size w w2):=B1.out.trans (b2.mono B1.out.size);have c6:=cellOf X3 1 _ rfl;have c7:=cellOf X3 2 _ rfl;clear b2 C X2 B1 X3;go_wp2_with fail
    refine (C2.out _).mono ?_;rintro e w3 ⟨rfl,b3⟩;have B3:Hid (Below w.heap.size w w3):=B2.out.trans (b3.mono B2.out.size);clear b3 C2 B2;go_wp2
    go_ret;exact ⟨rfl,B3.out⟩
  · rw [if_neg hv];have hv':(v==0)=false:=by simpa using hv
    go_enter Tryz.func178,Tryz.ntmps178
    go_wp2_with fail
    generalize ((w.alloc (.cells #[.int .i64 fr,.slice fp fl fc,.slice fq fm fd,.slice fb bl fe] 42)).alloc (.cells #[.int .i64 tb,.slice pR n1 cR,.slice pA n2 cA] 48))=w1 at X2 B1 ⊢;refine (C.out _).mono ?_;rintro e w2 ⟨rfl,b2⟩;have B2:Hid (Below w.heap.size w w2):=B1.out.trans (b2.mono B1.out.size);clear b2 C C2 X2 B1;go_wp2
    go_ret;exact ⟨rfl,B2.out⟩
theorem toCode_any {x : MTo} {pR pA : Option Addr} {cR cA : Nat} {fr : Int} {fp fq fb : Option Addr} {fl fc fm fd bl fe : Nat} (has : Bool) {w : World} (hbl : bl < 2305843009213693952) :
    Rd Tryz.prog 178 #[.agg #[.int .i64 fr,.slice fp fl fc,.slice fq fm fd,.slice fb bl fe],.agg #[.int .i64 x.block,.slice pR x.regs.length cR,.slice pA x.args.length cA],.bool has] w (.int .i64 (x.form bl has)):=by
  cases has
  · rw [toForm_no];exact toCodeF
  · rw [toForm_eq];exact toCodeT hbl
theorem end_walk {eo ea yb nb : Int} {pyr pya pnr pna pe : Option Addr} {nyr cyr nya cya nnr cnr nna cna ne ce : Nat} {fr : Int} {fp fq fb : Option Addr} {fl fc fm fd bl fe : Nat} {w : World} {vy vn : Int} (h1 : ¬ (eo < 1 ∨ 3 < eo)) (h2 : ¬ ((eo ≠ 2 ∧ ea ≠ 0) ∨ (eo ≠ 3 ∧ 0 < ne))) (h3 : ¬ 8 < ne)
    (CY:Hid (∀ wx:World,Calls Tryz.prog 178 #[.agg #[.int .i64 fr,.slice fp fl fc,.slice fq fm fd,.slice fb bl fe],.agg #[.int .i64 yb,.slice pyr nyr cyr,.slice pya nya cya],.bool (eo != 3)] wx fun e w'=>e=.returned (.int .i64 vy)∧Below wx.heap.size wx w'))
    (CN:Hid (∀ wx:World,Calls Tryz.prog 178 #[.agg #[.int .i64 fr,.slice fp fl fc,.slice fq fm fd,.slice fb bl fe],.agg #[.int .i64 nb,.slice pnr nnr cnr,.slice pna nna cna],.bool (eo==2)] wx fun e w'=>e=.returned (.int .i64 vn)∧Below wx.heap.size wx w')) :
    Rd Tryz.prog 142 #[.agg #[.int .i64 fr,.slice fp fl fc,.slice fq fm fd,.slice fb bl fe],.agg #[.int .i64 eo,.int .i64 ea,.int .i64 yb,.slice pyr nyr cyr,.slice pya nya cya,.int .i64 nb,.slice pnr nnr cnr,.slice pna nna cna,.slice pe ne ce]] w (.int .i64 (if vy=0 then vn else vy)):=by
  have X1:Blk ((w.alloc (.cells #[.int .i64 fr,.slice fp fl fc,.slice fq fm fd,.slice fb bl fe] 42)).alloc (.cells #[.int .i64 eo,.int .i64 ea,.int .i64 yb,.slice pyr nyr cyr,.slice pya nya cya,.int .i64 nb,.slice pnr nnr cnr,.slice pna nna cna,.slice pe ne ce] 50)) w.heap.size #[.int .i64 fr,.slice fp fl fc,.slice fq fm fd,.slice fb bl fe] 42:=Blk.new1 _ _ _ _ _;have X2:Blk ((w.alloc (.cells #[.int .i64 fr,.slice fp fl fc,.slice fq fm fd,.slice fb bl fe] 42)).alloc (.cells #[.int .i64 eo,.int .i64 ea,.int .i64 yb,.slice pyr nyr cyr,.slice pya nya cya,.int .i64 nb,.slice pnr nnr cnr,.slice pna nna cna,.slice pe ne ce] 50)) (w.heap.size+1) #[.int .i64 eo,.int .i64 ea,.int .i64 yb,.slice pyr nyr cyr,.slice pya nya cya,.int .i64 nb,.slice pnr nnr cnr,.slice pna nna cna,.slice pe ne ce] 50:=Blk.new2 _ _ _ _;have B1:Hid (Below w.heap.size w ((w.alloc (.cells #[.int .i64 fr,.slice fp fl fc,.slice fq fm fd,.slice fb bl fe] 42)).alloc (.cells #[.int .i64 eo,.int .i64 ea,.int .i64 yb,.slice pyr nyr cyr,.slice pya nya cya,.int .i64 nb,.slice pnr nnr cnr,.slice pna nna cna,.slice pe ne ce] 50))):=bel2 _ _ _;unfold Rd;have key:∀ {o:Int},eo=o→¬ (o≠2∧ea≠0)→¬ (o≠3∧0<ne)→(o=1∨o=2∨o=3):=fun h _ _=>by omega
  rcases (show eo=1∨eo=2∨eo=3 by omega) with rfl | rfl | rfl
  · obtain rfl:ea=0:=by omega
    obtain rfl:ne=0:=by omega
    clear h1 h2 h3 key;go_enter Tryz.func142,Tryz.ntmps142
    go_wp2_with fail
    generalize ((w.alloc (.cells #[.int .i64 fr,.slice fp fl fc,.slice fq fm fd,.slice fb bl fe] 42)).alloc (.cells #[.int .i64 1,.int .i64 0,.int .i64 yb,.slice pyr nyr cyr,.slice pya nya cya,.int .i64 nb,.slice pnr nnr cnr,.slice pna nna cna,.slice pe 0 ce] 50))=w1 at X1 X2 B1 ⊢;refine (CY.out _).mono ?_;rintro e w2 ⟨rfl,b2⟩;replace X1:=(b2.block _ (lt_of_block X1)).trans X1;replace X2:=(b2.block _ (lt_of_block X2)).trans X2;have B2:Hid (Below w.heap.size w w2):=B1.out.trans (b2.mono B1.out.size);clear b2 CY B1;by_cases hv:vy=0
    · subst hv;have c0:=cellOf X1 0 _ rfl;have c1:=cellOf X1 1 _ rfl;have c2:=cellOf X1 2 _ rfl;have c3:=cellOf X1 3 _ rfl;have d0:=cellOf X2 0 _ rfl;have d5:=cellOf X2 5 _ rfl;have d6:=cellOf X2 6 _ rfl;have d7:=cellOf X2 7 _ rfl;clear X1 X2;go_wp2_with fail
      refine (CN.out _).mono ?_;rintro e w3 ⟨rfl,b3⟩;have B3:Hid (Below w.heap.size w w3):=B2.out.trans (b3.mono B2.out.size);clear b3 CN B2;go_wp2
      go_ret;exact ⟨rfl,B3.out⟩
    · have hv':(vy==0)=false:=by simpa using hv
      clear CN X1 X2;go_wp2
      go_ret;exact ⟨rfl,B2.out⟩
  · obtain rfl:ne=0:=by omega
    clear h1 h2 h3 key;go_enter Tryz.func142,Tryz.ntmps142
    go_wp2_with fail
    generalize ((w.alloc (.cells #[.int .i64 fr,.slice fp fl fc,.slice fq fm fd,.slice fb bl fe] 42)).alloc (.cells #[.int .i64 2,.int .i64 ea,.int .i64 yb,.slice pyr nyr cyr,.slice pya nya cya,.int .i64 nb,.slice pnr nnr cnr,.slice pna nna cna,.slice pe 0 ce] 50))=w1 at X1 X2 B1 ⊢;refine (CY.out _).mono ?_;rintro e w2 ⟨rfl,b2⟩;replace X1:=(b2.block _ (lt_of_block X1)).trans X1;replace X2:=(b2.block _ (lt_of_block X2)).trans X2;have B2:Hid (Below w.heap.size w w2):=B1.out.trans (b2.mono B1.out.size);clear b2 CY B1;by_cases hv:vy=0
    · subst hv;have c0:=cellOf X1 0 _ rfl;have c1:=cellOf X1 1 _ rfl;have c2:=cellOf X1 2 _ rfl;have c3:=cellOf X1 3 _ rfl;have d0:=cellOf X2 0 _ rfl;have d5:=cellOf X2 5 _ rfl;have d6:=cellOf X2 6 _ rfl;have d7:=cellOf X2 7 _ rfl;clear X1 X2;go_wp2_with fail
      refine (CN.out _).mono ?_;rintro e w3 ⟨rfl,b3⟩;have B3:Hid (Below w.heap.size w w3):=B2.out.trans (b3.mono B2.out.size);clear b3 CN B2;go_wp2
      go_ret;exact ⟨rfl,B3.out⟩
    · have hv':(vy==0)=false:=by simpa using hv
      clear CN X1 X2;go_wp2
      go_ret;exact ⟨rfl,B2.out⟩
  · obtain rfl:ea=0:=by omega
    have g8:¬ (8:Int)<ne:=by omega
    clear h1 h2 h3 key;go_enter Tryz.func142,Tryz.ntmps142
    go_wp2_with fail
    generalize ((w.alloc (.cells #[.int .i64 fr,.slice fp fl fc,.slice fq fm fd,.slice fb bl fe] 42)).alloc (.cells #[.int .i64 3,.int .i64 0,.int .i64 yb,.slice pyr nyr cyr,.slice pya nya cya,.int .i64 nb,.slice pnr nnr cnr,.slice pna nna cna,.slice pe ne ce] 50))=w1 at X1 X2 B1 ⊢;refine (CY.out _).mono ?_;rintro e w2 ⟨rfl,b2⟩;replace X1:=(b2.block _ (lt_of_block X1)).trans X1;replace X2:=(b2.block _ (lt_of_block X2)).trans X2;have B2:Hid (Below w.heap.size w w2):=B1.out.trans (b2.mono B1.out.size);clear b2 CY B1;by_cases hv:vy=0
    · subst hv;have c0:=cellOf X1 0 _ rfl;have c1:=cellOf X1 1 _ rfl;have c2:=cellOf X1 2 _ rfl;have c3:=cellOf X1 3 _ rfl;have d0:=cellOf X2 0 _ rfl;have d5:=cellOf X2 5 _ rfl;have d6:=cellOf X2 6 _ rfl;have d7:=cellOf X2 7 _ rfl;clear X1 X2;go_wp2_with fail
      refine (CN.out _).mono ?_;rintro e w3 ⟨rfl,b3⟩;have B3:Hid (Below w.heap.size w w3):=B2.out.trans (b3.mono B2.out.size);clear b3 CN B2;go_wp2
      go_ret;exact ⟨rfl,B3.out⟩
    · have hv':(vy==0)=false:=by simpa using hv
      clear CN X1 X2;go_wp2
      go_ret;exact ⟨rfl,B2.out⟩
theorem end_bad {eo ea yb nb : Int} {pyr pya pnr pna pe : Option Addr} {nyr cyr nya cya nnr cnr nna cna ne ce : Nat} {fr : Int} {fp fq fb : Option Addr} {fl fc fm fd bl fe : Nat} {w : World} {v : Int} (h : (v = 3 ∧ (eo < 1 ∨ 3 < eo)) ∨ (v = 4 ∧ ¬ (eo < 1 ∨ 3 < eo) ∧ ((eo ≠ 2 ∧ ea ≠ 0) ∨ (eo ≠ 3 ∧ 0 < ne))) ∨ (v = 2 ∧ ¬ (eo < 1 ∨ 3 < eo) ∧ ¬ ((eo ≠ 2 ∧ ea ≠ 0) ∨ (eo ≠ 3 ∧ 0 < ne)) ∧ 8 < ne)) :
    Rd Tryz.prog 142 #[.agg #[.int .i64 fr,.slice fp fl fc,.slice fq fm fd,.slice fb bl fe],.agg #[.int .i64 eo,.int .i64 ea,.int .i64 yb,.slice pyr nyr cyr,.slice pya nya cya,.int .i64 nb,.slice pnr nnr cnr,.slice pna nna cna,.slice pe ne ce]] w (.int .i64 v):=by
  unfold Rd;rcases h with ⟨rfl,h | h⟩ | ⟨rfl,h1,h⟩ | ⟨rfl,h1,h2,h3⟩
  · go_enter Tryz.func142,Tryz.ntmps142
    go_wp2
    go_ret;exact ⟨rfl,bel2 _ _ _⟩
  · have g:¬ eo<1:=by omega
    go_enter Tryz.func142,Tryz.ntmps142
    go_wp2
    go_ret;exact ⟨rfl,bel2 _ _ _⟩
  · rcases (show eo=1∨eo=2∨eo=3 by omega) with rfl | rfl | rfl
    · by_cases ha:ea=0
      · subst ha;have g:(0:Int)<ne:=by omega
        clear h h1;go_enter Tryz.func142,Tryz.ntmps142
        go_wp2
        go_ret;exact ⟨rfl,bel2 _ _ _⟩
      · have g:(ea==0)=false:=by simpa using ha
        clear h h1;go_enter Tryz.func142,Tryz.ntmps142
        go_wp2
        go_ret;exact ⟨rfl,bel2 _ _ _⟩
    · have g:(0:Int)<ne:=by omega
      clear h h1;go_enter Tryz.func142,Tryz.ntmps142
      go_wp2
      go_ret;exact ⟨rfl,bel2 _ _ _⟩
    · have g:(ea==0)=false:=by simp;omega
      clear h h1;go_enter Tryz.func142,Tryz.ntmps142
      go_wp2
      go_ret;exact ⟨rfl,bel2 _ _ _⟩
  · obtain rfl:eo=3:=by omega
    obtain rfl:ea=0:=by omega
    have g:(8:Int)<ne:=by omega
    clear h1 h2 h3;go_enter Tryz.func142,Tryz.ntmps142
    go_wp2
    go_ret;exact ⟨rfl,bel2 _ _ _⟩
theorem cEnd_any {x : MEnd} {e : EP} {fr : Int} {fp fq fb : Option Addr} {fl fc fm fd bl fe : Nat} {w : World} (hs : x.yes.regs.length < 2305843009213693952 ∧ x.yes.args.length < 2305843009213693952 ∧ x.no.regs.length < 2305843009213693952 ∧ x.no.args.length < 2305843009213693952) (hbl : bl < 2305843009213693952) : Rd Tryz.prog 142 #[.agg #[.int .i64 fr, .slice fp fl fc, .slice fq fm fd, .slice fb bl fe], .agg #[.int .i64 x.op, .int .i64 x.a, .int .i64 x.yes.block, .slice e.pYR x.yes.regs.length e.cYR, .slice e.pYA x.yes.args.length e.cYA, .int .i64 x.no.block, .slice e.pNR x.no.regs.length e.cNR, .slice e.pNA x.no.args.length e.cNA, .slice e.pA x.args.length e.cA]] w (.int .i64 (x.form bl)) := by
  rw [endForm_eq];by_cases c1:x.op<1∨3<x.op
  · rw [if_pos c1];exact end_bad (.inl ⟨rfl,c1⟩)
  rw [if_neg c1];by_cases c2:(x.op≠2∧x.a≠0)∨(x.op≠3∧0<x.args.length)
  · rw [if_pos c2];exact end_bad (.inr (.inl ⟨rfl,c1,c2⟩))
  rw [if_neg c2];by_cases c3:8<x.args.length
  · rw [if_pos c3];exact end_bad (.inr (.inr ⟨rfl,c1,c2,c3⟩))
  rw [if_neg c3];exact end_walk c1 c2 c3 (fun _=>toCode_any _ hbl) (fun _=>toCode_any _ hbl)
end Go.Proofs.YtalfbnllodhkiacGreatDoor
namespace Go.Proofs.YtalfbnllodhkiacGreatDoor
open Go.ChangeShapes Go.WideShapes Go.ChangeAt Go.RowKit
set_option linter.unusedVariables false
theorem typeFault_any : ∀ n, FaultAt 113 n := by
  intro n
  induction n with
  | zero=>intro t;exact Empty.elim t
  | succ n ih =>
    intro t a c regs w ht hct;have IH:Hid (FaultAt 113 n):=ih;clear ih;have hT:Hid (LIn w All t.2.2 a):=ht.list;have hco:Hid (∀ x∈t.2.2,x.count≤100000):=fun x hx=>by have:=t.count_kid hx;omega
    have hlen:t.2.2.length≤100000:=by have:=t.len_lt_count;rw [t.len_eq] at this;omega
    have hF:Hid (t.fault regs=if ownC t.kind t.r t.2.2.length regs≠0 then ownC t.kind t.r t.2.2.length regs else firstL (TT.fault regs) t.2.2):=rfl;generalize t.fault regs=res at hF ⊢;simp only [Tv,TT.len_eq];generalize t.2.2=l at hT hco hF hlen ⊢;generalize t.kind=k at hF ⊢;generalize t.r=r at hF ⊢;clear ht hct t;generalize hln:l.length=len at hF hlen ⊢;have HL:Hid (l.length=len):=hln;clear hln;rcases (show k<1∨(¬ k<1∧4<k)∨k=1∨k=2∨k=4∨k=3 by omega) with h1 | ⟨h1,h2⟩ | rfl | rfl | rfl | rfl
    · have hR:=hF.out;rw [show ownC _ _ len regs=3 by unfold ownC;repeat' split;all_goals omega] at hR;clear hF;replace hR:Hid (res=3):=by show res=3;simpa using hR
      go_enter Tryz.func113,Tryz.ntmps113
      go_wp2_with fail
      go_ret;exact ⟨by rw [hR.out];rfl,(Below.refl _ w).alloc (Nat.le_refl _) _⟩
    · have hR:=hF.out;rw [show ownC _ _ len regs=3 by unfold ownC;repeat' split;all_goals omega] at hR;clear hF;replace hR:Hid (res=3):=by show res=3;simpa using hR
      go_enter Tryz.func113,Tryz.ntmps113
      go_wp2_with fail
      go_ret;exact ⟨by rw [hR.out];rfl,(Below.refl _ w).alloc (Nat.le_refl _) _⟩
    · rcases (show r≠0∨(r=0∧0<len)∨(r=0∧len=0) by omega) with h1 | ⟨rfl,h1⟩ | ⟨rfl,h1⟩
      · have g1:(r != 0)=true:=by simpa using h1
        have hR:=hF.out;rw [show ownC _ _ len regs=4 by unfold ownC;repeat' split;all_goals omega] at hR;clear hF;replace hR:Hid (res=4):=by show res=4;simpa using hR
        go_enter Tryz.func113,Tryz.ntmps113
        go_wp2_with fail
        go_ret;exact ⟨by rw [hR.out];rfl,(Below.refl _ w).alloc (Nat.le_refl _) _⟩
      · have g1:(0:Int)<(len:Int):=by omega
        have hR:=hF.out;rw [show ownC _ _ len regs=4 by unfold ownC;repeat' split;all_goals omega] at hR;clear hF;replace hR:Hid (res=4):=by show res=4;simpa using hR
        go_enter Tryz.func113,Tryz.ntmps113
        go_wp2_with fail
        go_ret;exact ⟨by rw [hR.out];rfl,(Below.refl _ w).alloc (Nat.le_refl _) _⟩
      · have g1:¬ (0:Int)<(len:Int):=by omega
        have g2:¬ (8:Int)<(len:Int):=by omega
        have hR:=hF.out;rw [show ownC _ _ len regs=0 by unfold ownC;repeat' split;all_goals omega] at hR;clear hF;have R:Hid (res=firstL (TT.fault regs) l):=by show res=firstL (TT.fault regs) l;simpa using hR
        clear hR
        have R0:Hid (res=0):=by
          have hl0:l=[]:=List.length_eq_zero_iff.1 (HL.out.trans h1)
          have:=R.out
          rw [hl0] at this;exact this
        subst h1;clear R g1 g2;go_enter Tryz.func113,Tryz.ntmps113
        go_wp2_with fail
        have X0:=Bx.start w 1 0 a 0 c;generalize w.alloc (.cells #[.int .i64 1,.int .i64 0,.slice a 0 c] 78)=w1 at X0 ⊢;have X1:Hid (Bx w w1 1 0 a 0 c):=X0;clear X0;go_loopw [5] (fun i wr=>i=.int .i64 0∧Bx w wr 1 0 a 0 c) (fun _ _=>0)
        case atStart=>exact ⟨rfl,X1.out⟩
        case round =>
          clear X1;obtain ⟨rfl,hX⟩:=hrel;have X1:Hid (Bx w wr 1 0 a 0 c):=hX;have e2:wr.cell? ⟨w.heap.size,2,none⟩=some (.slice a 0 c):=cellOf hX.box 2 _ rfl;clear hX;go_wp2
          go_ret;exact ⟨by rw [R0.out];rfl,X1.out.bel⟩
    · rcases (show 0<len∨(len=0∧r<0)∨(len=0∧0≤r∧regs≤r)∨(len=0∧0≤r∧r<regs) by omega) with h1 | ⟨h1,h2⟩ | ⟨h1,h2,h3⟩ | ⟨h1,h2,h3⟩
      · have g1:(0:Int)<(len:Int):=by omega
        have hR:=hF.out;rw [show ownC _ _ len regs=4 by unfold ownC;repeat' split;all_goals omega] at hR;clear hF;replace hR:Hid (res=4):=by show res=4;simpa using hR
        go_enter Tryz.func113,Tryz.ntmps113
        go_wp2_with fail
        go_ret;exact ⟨by rw [hR.out];rfl,(Below.refl _ w).alloc (Nat.le_refl _) _⟩
      · have g1:¬ (0:Int)<(len:Int):=by omega
        have g2:¬ (8:Int)<(len:Int):=by omega
        have hR:=hF.out;rw [show ownC _ _ len regs=1 by unfold ownC;repeat' split;all_goals omega] at hR;clear hF;replace hR:Hid (res=1):=by show res=1;simpa using hR
        go_enter Tryz.func113,Tryz.ntmps113
        go_wp2_with fail
        go_ret;exact ⟨by rw [hR.out];rfl,(Below.refl _ w).alloc (Nat.le_refl _) _⟩
      · have g1:¬ (0:Int)<(len:Int):=by omega
        have g2:¬ (8:Int)<(len:Int):=by omega
        have hR:=hF.out;rw [show ownC _ _ len regs=1 by unfold ownC;repeat' split;all_goals omega] at hR;clear hF;replace hR:Hid (res=1):=by show res=1;simpa using hR
        go_enter Tryz.func113,Tryz.ntmps113
        go_wp2_with fail
        go_ret;exact ⟨by rw [hR.out];rfl,(Below.refl _ w).alloc (Nat.le_refl _) _⟩
      · have g1:¬ (0:Int)<(len:Int):=by omega
        have g2:¬ (8:Int)<(len:Int):=by omega
        have hR:=hF.out;rw [show ownC _ _ len regs=0 by unfold ownC;repeat' split;all_goals omega] at hR;clear hF;have R:Hid (res=firstL (TT.fault regs) l):=by show res=firstL (TT.fault regs) l;simpa using hR
        clear hR
        have R0:Hid (res=0):=by
          have hl0:l=[]:=List.length_eq_zero_iff.1 (HL.out.trans h1)
          have:=R.out
          rw [hl0] at this;exact this
        subst h1;clear R g1 g2;go_enter Tryz.func113,Tryz.ntmps113
        go_wp2_with fail
        have X0:=Bx.start w 2 r a 0 c;generalize w.alloc (.cells #[.int .i64 2,.int .i64 r,.slice a 0 c] 78)=w1 at X0 ⊢;have X1:Hid (Bx w w1 2 r a 0 c):=X0;clear X0;go_loopw [5] (fun i wr=>i=.int .i64 0∧Bx w wr 2 r a 0 c) (fun _ _=>0)
        case atStart=>exact ⟨rfl,X1.out⟩
        case round =>
          clear X1;obtain ⟨rfl,hX⟩:=hrel;have X1:Hid (Bx w wr 2 r a 0 c):=hX;have e2:wr.cell? ⟨w.heap.size,2,none⟩=some (.slice a 0 c):=cellOf hX.box 2 _ rfl;clear hX;go_wp2
          go_ret;exact ⟨by rw [R0.out];rfl,X1.out.bel⟩
    · rcases (show 0<len∨(len=0∧r<0)∨(len=0∧0≤r∧regs≤r)∨(len=0∧0≤r∧r<regs) by omega) with h1 | ⟨h1,h2⟩ | ⟨h1,h2,h3⟩ | ⟨h1,h2,h3⟩
      · have g1:(0:Int)<(len:Int):=by omega
        have hR:=hF.out;rw [show ownC _ _ len regs=4 by unfold ownC;repeat' split;all_goals omega] at hR;clear hF;replace hR:Hid (res=4):=by show res=4;simpa using hR
        go_enter Tryz.func113,Tryz.ntmps113
        go_wp2_with fail
        go_ret;exact ⟨by rw [hR.out];rfl,(Below.refl _ w).alloc (Nat.le_refl _) _⟩
      · have g1:¬ (0:Int)<(len:Int):=by omega
        have g2:¬ (8:Int)<(len:Int):=by omega
        have hR:=hF.out;rw [show ownC _ _ len regs=1 by unfold ownC;repeat' split;all_goals omega] at hR;clear hF;replace hR:Hid (res=1):=by show res=1;simpa using hR
        go_enter Tryz.func113,Tryz.ntmps113
        go_wp2_with fail
        go_ret;exact ⟨by rw [hR.out];rfl,(Below.refl _ w).alloc (Nat.le_refl _) _⟩
      · have g1:¬ (0:Int)<(len:Int):=by omega
        have g2:¬ (8:Int)<(len:Int):=by omega
        have hR:=hF.out;rw [show ownC _ _ len regs=1 by unfold ownC;repeat' split;all_goals omega] at hR;clear hF;replace hR:Hid (res=1):=by show res=1;simpa using hR
        go_enter Tryz.func113,Tryz.ntmps113
        go_wp2_with fail
        go_ret;exact ⟨by rw [hR.out];rfl,(Below.refl _ w).alloc (Nat.le_refl _) _⟩
      · have g1:¬ (0:Int)<(len:Int):=by omega
        have g2:¬ (8:Int)<(len:Int):=by omega
        have hR:=hF.out;rw [show ownC _ _ len regs=0 by unfold ownC;repeat' split;all_goals omega] at hR;clear hF;have R:Hid (res=firstL (TT.fault regs) l):=by show res=firstL (TT.fault regs) l;simpa using hR
        clear hR
        have R0:Hid (res=0):=by
          have hl0:l=[]:=List.length_eq_zero_iff.1 (HL.out.trans h1)
          have:=R.out
          rw [hl0] at this;exact this
        subst h1;clear R g1 g2;go_enter Tryz.func113,Tryz.ntmps113
        go_wp2_with fail
        have X0:=Bx.start w 4 r a 0 c;generalize w.alloc (.cells #[.int .i64 4,.int .i64 r,.slice a 0 c] 78)=w1 at X0 ⊢;have X1:Hid (Bx w w1 4 r a 0 c):=X0;clear X0;go_loopw [5] (fun i wr=>i=.int .i64 0∧Bx w wr 4 r a 0 c) (fun _ _=>0)
        case atStart=>exact ⟨rfl,X1.out⟩
        case round =>
          clear X1;obtain ⟨rfl,hX⟩:=hrel;have X1:Hid (Bx w wr 4 r a 0 c):=hX;have e2:wr.cell? ⟨w.heap.size,2,none⟩=some (.slice a 0 c):=cellOf hX.box 2 _ rfl;clear hX;go_wp2
          go_ret;exact ⟨by rw [R0.out];rfl,X1.out.bel⟩
    · rcases (show 8<len∨(len≤8∧r<0)∨(len≤8∧0≤r∧regs≤r)∨(len≤8∧0≤r∧r<regs) by omega) with h1 | ⟨h1,h2⟩ | ⟨h1,h2,h3⟩ | ⟨h1,h2,h3⟩
      · have g1:(8:Int)<(len:Int):=by omega
        have hR:=hF.out;rw [show ownC _ _ len regs=2 by unfold ownC;repeat' split;all_goals omega] at hR;clear hF;replace hR:Hid (res=2):=by show res=2;simpa using hR
        go_enter Tryz.func113,Tryz.ntmps113
        go_wp2_with fail
        go_ret;exact ⟨by rw [hR.out];rfl,(Below.refl _ w).alloc (Nat.le_refl _) _⟩
      · have g1:¬ (8:Int)<(len:Int):=by omega
        have hR:=hF.out;rw [show ownC _ _ len regs=1 by unfold ownC;repeat' split;all_goals omega] at hR;clear hF;replace hR:Hid (res=1):=by show res=1;simpa using hR
        go_enter Tryz.func113,Tryz.ntmps113
        go_wp2_with fail
        go_ret;exact ⟨by rw [hR.out];rfl,(Below.refl _ w).alloc (Nat.le_refl _) _⟩
      · have g1:¬ (8:Int)<(len:Int):=by omega
        have hR:=hF.out;rw [show ownC _ _ len regs=1 by unfold ownC;repeat' split;all_goals omega] at hR;clear hF;replace hR:Hid (res=1):=by show res=1;simpa using hR
        go_enter Tryz.func113,Tryz.ntmps113
        go_wp2_with fail
        go_ret;exact ⟨by rw [hR.out];rfl,(Below.refl _ w).alloc (Nat.le_refl _) _⟩
      · have g1:¬ (8:Int)<(len:Int):=by omega
        have hR:=hF.out;rw [show ownC _ _ len regs=0 by unfold ownC;repeat' split;all_goals omega] at hR;clear hF;have R:Hid (res=firstL (TT.fault regs) l):=by show res=firstL (TT.fault regs) l;simpa using hR
        clear hR;go_enter Tryz.func113,Tryz.ntmps113
        go_wp2_with fail
        have X0:=Bx.start w 3 r a len c;generalize w.alloc (.cells #[.int .i64 3,.int .i64 r,.slice a len c] 78)=w1 at X0 ⊢;have X1:Hid (Bx w w1 3 r a len c):=X0;clear X0;go_loopw [5] (fun i wr=>∃ q:Nat,q≤len∧i=.int .i64 q∧(∀ (j:Nat) x,j<q→l[j]?=some x→x.fault regs=0)∧Bx w wr 3 r a len c) (fun i _=>len - (intOf i).toNat)
        case atStart=>exact ⟨0,Nat.zero_le _,rfl,fun j x hj=>by omega,X1.out⟩
        case round =>
          clear X1;obtain ⟨q,hq,rfl,hall,hX⟩:=hrel;have A:Hid (∀ (j:Nat) x,j<q→l[j]?=some x→x.fault regs=0):=hall;have X1:Hid (Bx w wr 3 r a len c):=hX;have e2:wr.cell? ⟨w.heap.size,2,none⟩=some (.slice a len c):=cellOf hX.box 2 _ rfl;clear hall;by_cases hlt:q<len
          · have hql:q<l.length:=by have:=HL.out;omega
            have hx:l[q]?=some l[q]:=List.getElem?_eq_getElem hql;generalize l[q]=x at hx;clear hql;obtain ⟨g,o,a',c',rfl,_,d0,d1,d2,hk⟩:=LIn.at (hT.out.below hX.bel) hx;have hx':Hid (l[q]?=some x):=hx;have hk0:(0:Int)≤q:=by omega
            have hk1:(q:Int)<len:=by omega
            have C:Hid (∀ wx,Below wr.heap.size wr wx→Calls Tryz.prog 113 #[Tv x a' c',.int .i64 regs] wx fun e w'=>e=.returned (.int .i64 (x.fault regs))∧Below wx.heap.size wx w') :=
              fun wx hb=>IH.out x a' c' regs wx (hk.below hb) (hco.out x (List.mem_of_getElem? hx))
            clear hX hk hx;simp only [Tv] at C;generalize x.kind=kx at C d0;generalize x.r=rx at C d1;generalize x.len=lx at C d2;go_wp2_with fail
            refine (C.out _ (Below.refl _ _)).mono ?_;rintro e w2 ⟨rfl,b2⟩;have X2:Hid (Bx w w2 3 r (some ⟨g,o,none⟩) len c):=X1.out.below b2;clear X1 b2 C d0 d1 d2 e2;by_cases hd:x.fault regs=0
            · have A2:Hid (∀ (j:Nat) x,j<q+1→l[j]?=some x→x.fault regs=0):=fun j y hj hy=>by
                by_cases e:j=q
                · subst e;rw [hx'.out] at hy
                  cases hy
                  exact hd
                · exact A.out j y (by omega) hy
              rw [hd];clear hd A;go_wp2
              go_roundw
              case rel=>exact ⟨q+1,by omega,by go_num,A2.out,X2.out⟩
              case measure=>simp [intOf];omega
            · have Rv:Hid (res=x.fault regs):=R.out.trans (firstL_eq hx'.out A.out hd);have hd':(x.fault regs != 0)=true:=by simpa using hd
              generalize x.fault regs=v at hd' Rv ⊢;clear hd A;go_wp2
              go_ret;exact ⟨by rw [Rv.out];rfl,X2.out.bel⟩
          · have Rv:Hid (res=0):=R.out.trans (firstL_zero (fun j y hy=>A.out j y (by have:=(List.getElem?_eq_some_iff.1 hy).1;have:=HL.out;omega) hy));have hk1:¬ (q:Int)<len:=by omega
            clear hX A;go_wp2
            go_ret;exact ⟨by rw [Rv.out];rfl,X1.out.bel⟩
theorem fold_take_succ {α : Type} (f : α → Nat) (l : List α) (i : Nat) (x : α) (h : l[i]? = some x) : ((l.map f).take (i + 1)).foldl max 0 = max (((l.map f).take i).foldl max 0) (f x) := by
  rw [List.take_add_one,List.getElem?_map,h];simp
theorem fold_take_le (l : List Nat) (i : Nat) : (l.take i).foldl max 0 ≤ l.foldl max 0 := by
  rw [foldl_max_le];exact ⟨Nat.zero_le _,fun x hx=>(foldl_max_le.1 (Nat.le_refl (l.foldl max 0))).2 x (List.mem_of_mem_take hx)⟩
theorem deepOf_any : ∀ (n : Nat) (t : TT n) (a : Option Addr) (c : Nat) (w : World) (m : Nat), TIn w All t a → t.count ≤ 100000 → m ≤ 4 →
    Calls Tryz.prog 112 #[Tv t a c,.int .i64 m] w fun e w'=>e=.returned (.int .i64 ((min t.height (m+1):Nat):Int))∧Below w.heap.size w w':=by
  intro n
  induction n with
  | zero=>intro t;exact Empty.elim t
  | succ n ih =>
    intro t a c w m ht hct hm4
    have IH:Hid (∀ (t:TT n) (a:Option Addr) (c:Nat) (w:World) (m:Nat),TIn w All t a→t.count≤100000→m≤4 →
      Calls Tryz.prog 112 #[Tv t a c,.int .i64 m] w fun e w'=>e=.returned (.int .i64 ((min t.height (m+1):Nat):Int))∧Below w.heap.size w w'):=ih
    clear ih;have hT:Hid (LIn w All t.2.2 a):=ht.list;have hco:Hid (∀ x∈t.2.2,x.count≤100000):=fun x hx=>by have:=t.count_kid hx;omega
    have hlen:t.2.2.length≤100000:=by have:=t.len_lt_count;rw [t.len_eq] at this;omega
    have hh:Hid (t.height=(t.2.2.map (fun x=>1+x.height)).foldl max 0):=rfl;generalize t.height=h at hh ⊢;simp only [Tv,TT.len_eq];generalize t.2.2=l at hT hco hh hlen ⊢;generalize t.kind=k;generalize t.r=r;clear ht hct t;generalize hres:((min h (m+1):Nat):Int)=res;have hR:Hid (((min h (m+1):Nat):Int)=res):=hres;clear hres;go_enter Tryz.func112,Tryz.ntmps112
    go_wp2_with fail
    have X0:Hid (Bx w (w.alloc (.cells #[.int .i64 k,.int .i64 r,.slice a l.length c] 78)) k r a l.length c):=Bx.start w k r a l.length c;generalize w.alloc (.cells #[.int .i64 k,.int .i64 r,.slice a l.length c] 78)=w1 at X0 ⊢;go_loopw [5,6] (fun v i wr=>∃ q y:Nat,q≤l.length∧i=.int .i64 q∧v=.int .i64 y∧y=min (((l.map (fun x=>1+x.height)).take q).foldl max 0) (m+1)∧Bx w wr k r a l.length c) (fun _ i _=>l.length - (intOf i).toNat)
    case atStart=>exact ⟨0,0,Nat.zero_le _,rfl,rfl,by simp,X0.out⟩
    case round =>
      clear X0;obtain ⟨q,y,hq,rfl,rfl,hy,hX⟩:=hrel;have Y:Hid (y=min (((l.map (fun x=>1+x.height)).take q).foldl max 0) (m+1)):=hy;have X1:Hid (Bx w wr k r a l.length c):=hX;have e2:wr.cell? ⟨w.heap.size,2,none⟩=some (.slice a l.length c):=cellOf hX.box 2 _ rfl;have hyb:(y:Int)≤5:=by omega
      clear hy;by_cases hlt:q<l.length
      · have hk0:(0:Int)≤q:=by omega
        have hk1:(q:Int)<l.length:=by omega
        by_cases hym:y≤m
        · have hx:l[q]?=some l[q]:=List.getElem?_eq_getElem hlt;generalize l[q]=x at hx;obtain ⟨g,o,a',c',rfl,_,d0,d1,d2,hk⟩:=LIn.at (hT.out.below hX.bel) hx;have hS:=fold_take_succ (fun x:TT n=>1+x.height) l q x hx;have hym':(y:Int)≤m:=by omega
          by_cases hz:m=0
          · have hz':((m:Int)==0)=true:=by simp;omega
            have F:Hid (res=1):=by
              have h1:=fold_take_le (l.map (fun x=>1+x.height)) (q+1);have h2:=hh.out;have h3:=hR.out;rw [hS] at h1;show res=1;omega
            clear hX hk hx hz hS hym;go_wp2_with fail
            go_ret;exact ⟨by rw [F.out];rfl,X1.out.bel⟩
          · have hz':((m:Int)==0)=false:=by simp;omega
            have C:Hid (∀ wx,Below wr.heap.size wr wx→Calls Tryz.prog 112 #[Tv x a' c',.int .i64 ((m:Int) - 1)] wx fun e w'=>e=.returned (.int .i64 ((min x.height m:Nat):Int))∧Below wx.heap.size wx w'):=fun wx hb=>by
              have:=IH.out x a' c' wx (m - 1) (hk.below hb) (hco.out x (List.mem_of_getElem? hx)) (by omega)
              rw [show ((m - 1:Nat):Int)=(m:Int) - 1 by omega,show m - 1+1=m by omega] at this;exact this
            have hm0:(1:Int)≤m:=by omega
            have hm1:(m:Int)≤4:=by omega
            generalize hz1:min x.height m=z at C;have hz2:(z:Int)≤4:=by omega
            have Z:Hid (max y (1+z)=min (((l.map (fun x=>1+x.height)).take (q+1)).foldl max 0) (m+1)):=by
              rw [hS]
              have:=Y.out
              show _=_;omega
            clear hX hk hx hz hS hz1 Y hym;simp only [Tv] at C;generalize x.kind=kx at C d0;generalize x.r=rx at C d1;generalize x.len=lx at C d2;go_wp2_with fail
            refine (C.out _ (Below.refl _ _)).mono ?_;rintro e w2 ⟨rfl,b2⟩;have X2:Hid (Bx w w2 k r (some ⟨g,o,none⟩) l.length c):=X1.out.below b2;clear X1 b2 C d0 d1 d2 e2;by_cases hd:(y:Int)<1+z
            · go_wp2
              go_roundw
              case rel=>exact ⟨q+1,1+z,by omega,by go_num,by go_num,by rw [← Z.out];omega,X2.out⟩
              case measure=>simp [intOf];omega
            · go_wp2
              go_roundw
              case rel=>exact ⟨q+1,y,by omega,by go_num,rfl,by rw [← Z.out];omega,X2.out⟩
              case measure=>simp [intOf];omega
        · have F:Hid (res=y):=by
            have h1:=fold_take_le (l.map (fun x=>1+x.height)) q;have h2:=hh.out;have h3:=hR.out
            have:=Y.out
            show res=y;omega
          have hym':¬ (y:Int)≤m:=by omega
          clear hX hym Y;go_wp2
          go_ret;exact ⟨by rw [F.out];rfl,X1.out.bel⟩
      · have F:Hid (res=y):=by
          have h2:=hh.out;have h3:=hR.out
          have:=Y.out
          rw [List.take_of_length_le (by simp;omega)] at this;show res=y;omega
        have hk1:¬ (q:Int)<l.length:=by omega
        clear hX Y;go_wp2
        go_ret;exact ⟨by rw [F.out];rfl,X1.out.bel⟩
def CheckAt (f : Nat) : Prop := ∀ (n : Nat) (t : TT n) (a : Option Addr) (c : Nat) (regs : Int) (w : World), TIn w All t a → t.count ≤ 100000 →
    Calls Tryz.prog f #[Tv t a c,.int .i64 regs] w fun e w'=>e=.returned (.int .i64 (t.check regs))∧Below w.heap.size w w'
theorem typeFaultT_any : CheckAt 72 := by
  intro n t a c regs w ht hc
  have C1:Hid (∀ wx,Below w.heap.size w wx→Calls Tryz.prog 112 #[Tv t a c,.int .i64 4] wx fun e w'=>e=.returned (.int .i64 ((min t.height 5:Nat):Int))∧Below wx.heap.size wx w') :=
    fun wx hb=>deepOf_any n t a c wx 4 (ht.below hb) hc (by omega)
  have C2:Hid (∀ wx,Below w.heap.size w wx→Calls Tryz.prog 113 #[Tv t a c,.int .i64 regs] wx fun e w'=>e=.returned (.int .i64 (t.fault regs))∧Below wx.heap.size wx w') :=
    fun wx hb=>typeFault_any n t a c regs wx (ht.below hb) hc
  have E:Hid (t.check regs=if 4<t.height then 19 else t.fault regs):=rfl;generalize t.check regs=res at E ⊢;clear ht hc;simp only [Tv] at C1 C2 ⊢;generalize t.kind=k at C1 C2 ⊢;generalize t.r=r at C1 C2 ⊢;generalize t.len=len at C1 C2 ⊢;generalize t.fault regs=v at C2 E;generalize hm:min t.height 5=q at C1;go_enter Tryz.func72,Tryz.ntmps72
  go_wp2_with fail
  have X0:=Bx.start w k r a len c;generalize w.alloc (.cells #[.int .i64 k,.int .i64 r,.slice a len c] 78)=w1 at X0 ⊢;refine (C1.out _ X0.bel).mono ?_;rintro e w2 ⟨rfl,b2⟩;have X2:Hid (Bx w w2 k r a len c):=X0.below b2;have e0:=cellOf X2.out.box 0 _ rfl;have e1:=cellOf X2.out.box 1 _ rfl;have e2:=cellOf X2.out.box 2 _ rfl;clear X0 b2 C1;by_cases hd:4<t.height
  · have R:Hid (res=19):=by have:=E.out;rwa [if_pos hd] at this
    have hq:(4:Int)<q:=by omega
    clear hd hm;go_wp2_with fail
    go_ret;exact ⟨by rw [R.out];rfl,X2.out.bel⟩
  · have R:Hid (res=v):=by have:=E.out;rwa [if_neg hd] at this
    have hq:¬ (4:Int)<q:=by omega
    clear hd hm;go_wp2_with fail
    refine (C2.out _ X2.out.bel).mono ?_;rintro e w3 ⟨rfl,b3⟩;have X3:Hid (Bx w w3 k r a len c):=X2.out.below b3;clear X2 b3 C2 e0 e1 e2;go_wp2_with fail
    go_ret;exact ⟨by rw [R.out];rfl,X3.out.bel⟩
theorem ownCode_any (k r : Int) (a : Option Addr) (len c : Nat) (regs : Int) (w : World) :
    Calls Tryz.prog 224 #[.agg #[.int .i64 k,.int .i64 r,.slice a len c],.int .i64 regs] w fun e w'=>e=.returned (.int .i64 (ownC k r len regs))∧Below w.heap.size w w':=by
  rcases (show k<1∨(¬ k<1∧4<k)∨k=1∨k=2∨k=4∨k=3 by omega) with h1 | ⟨h1,h2⟩ | rfl | rfl | rfl | rfl
  · rw [show ownC _ _ len regs=3 by unfold ownC;repeat' split;all_goals omega];go_enter Tryz.func224,Tryz.ntmps224
    go_wp2_with fail
    go_ret;exact ⟨rfl,(Below.refl _ w).alloc (Nat.le_refl _) _⟩
  · rw [show ownC _ _ len regs=3 by unfold ownC;repeat' split;all_goals omega];go_enter Tryz.func224,Tryz.ntmps224
    go_wp2_with fail
    go_ret;exact ⟨rfl,(Below.refl _ w).alloc (Nat.le_refl _) _⟩
  · rcases (show r≠0∨(r=0∧0<len)∨(r=0∧len=0) by omega) with h1 | ⟨rfl,h1⟩ | ⟨rfl,h1⟩
    · have g1:(r != 0)=true:=by simpa using h1
      rw [show ownC _ _ len regs=4 by unfold ownC;repeat' split;all_goals omega];go_enter Tryz.func224,Tryz.ntmps224
      go_wp2_with fail
      go_ret;exact ⟨rfl,(Below.refl _ w).alloc (Nat.le_refl _) _⟩
    · have g1:(0:Int)<(len:Int):=by omega
      rw [show ownC _ _ len regs=4 by unfold ownC;repeat' split;all_goals omega];go_enter Tryz.func224,Tryz.ntmps224
      go_wp2_with fail
      go_ret;exact ⟨rfl,(Below.refl _ w).alloc (Nat.le_refl _) _⟩
    · have g1:¬ (0:Int)<(len:Int):=by omega
      have g2:¬ (8:Int)<(len:Int):=by omega
      rw [show ownC _ _ len regs=0 by unfold ownC;repeat' split;all_goals omega];go_enter Tryz.func224,Tryz.ntmps224
      go_wp2_with fail
      go_ret;exact ⟨rfl,(Below.refl _ w).alloc (Nat.le_refl _) _⟩
  · rcases (show 0<len∨(len=0∧r<0)∨(len=0∧0≤r∧regs≤r)∨(len=0∧0≤r∧r<regs) by omega) with h1 | ⟨h1,h2⟩ | ⟨h1,h2,h3⟩ | ⟨h1,h2,h3⟩
    · have g1:(0:Int)<(len:Int):=by omega
      rw [show ownC _ _ len regs=4 by unfold ownC;repeat' split;all_goals omega];go_enter Tryz.func224,Tryz.ntmps224
      go_wp2_with fail
      go_ret;exact ⟨rfl,(Below.refl _ w).alloc (Nat.le_refl _) _⟩
    · have g1:¬ (0:Int)<(len:Int):=by omega
      have g2:¬ (8:Int)<(len:Int):=by omega
      rw [show ownC _ _ len regs=1 by unfold ownC;repeat' split;all_goals omega];go_enter Tryz.func224,Tryz.ntmps224
      go_wp2_with fail
      go_ret;exact ⟨rfl,(Below.refl _ w).alloc (Nat.le_refl _) _⟩
    · have g1:¬ (0:Int)<(len:Int):=by omega
      have g2:¬ (8:Int)<(len:Int):=by omega
      rw [show ownC _ _ len regs=1 by unfold ownC;repeat' split;all_goals omega];go_enter Tryz.func224,Tryz.ntmps224
      go_wp2_with fail
      go_ret;exact ⟨rfl,(Below.refl _ w).alloc (Nat.le_refl _) _⟩
    · have g1:¬ (0:Int)<(len:Int):=by omega
      have g2:¬ (8:Int)<(len:Int):=by omega
      rw [show ownC _ _ len regs=0 by unfold ownC;repeat' split;all_goals omega];go_enter Tryz.func224,Tryz.ntmps224
      go_wp2_with fail
      go_ret;exact ⟨rfl,(Below.refl _ w).alloc (Nat.le_refl _) _⟩
  · rcases (show 0<len∨(len=0∧r<0)∨(len=0∧0≤r∧regs≤r)∨(len=0∧0≤r∧r<regs) by omega) with h1 | ⟨h1,h2⟩ | ⟨h1,h2,h3⟩ | ⟨h1,h2,h3⟩
    · have g1:(0:Int)<(len:Int):=by omega
      rw [show ownC _ _ len regs=4 by unfold ownC;repeat' split;all_goals omega];go_enter Tryz.func224,Tryz.ntmps224
      go_wp2_with fail
      go_ret;exact ⟨rfl,(Below.refl _ w).alloc (Nat.le_refl _) _⟩
    · have g1:¬ (0:Int)<(len:Int):=by omega
      have g2:¬ (8:Int)<(len:Int):=by omega
      rw [show ownC _ _ len regs=1 by unfold ownC;repeat' split;all_goals omega];go_enter Tryz.func224,Tryz.ntmps224
      go_wp2_with fail
      go_ret;exact ⟨rfl,(Below.refl _ w).alloc (Nat.le_refl _) _⟩
    · have g1:¬ (0:Int)<(len:Int):=by omega
      have g2:¬ (8:Int)<(len:Int):=by omega
      rw [show ownC _ _ len regs=1 by unfold ownC;repeat' split;all_goals omega];go_enter Tryz.func224,Tryz.ntmps224
      go_wp2_with fail
      go_ret;exact ⟨rfl,(Below.refl _ w).alloc (Nat.le_refl _) _⟩
    · have g1:¬ (0:Int)<(len:Int):=by omega
      have g2:¬ (8:Int)<(len:Int):=by omega
      rw [show ownC _ _ len regs=0 by unfold ownC;repeat' split;all_goals omega];go_enter Tryz.func224,Tryz.ntmps224
      go_wp2_with fail
      go_ret;exact ⟨rfl,(Below.refl _ w).alloc (Nat.le_refl _) _⟩
  · rcases (show 8<len∨(len≤8∧r<0)∨(len≤8∧0≤r∧regs≤r)∨(len≤8∧0≤r∧r<regs) by omega) with h1 | ⟨h1,h2⟩ | ⟨h1,h2,h3⟩ | ⟨h1,h2,h3⟩
    · have g1:(8:Int)<(len:Int):=by omega
      rw [show ownC _ _ len regs=2 by unfold ownC;repeat' split;all_goals omega];go_enter Tryz.func224,Tryz.ntmps224
      go_wp2_with fail
      go_ret;exact ⟨rfl,(Below.refl _ w).alloc (Nat.le_refl _) _⟩
    · have g1:¬ (8:Int)<(len:Int):=by omega
      rw [show ownC _ _ len regs=1 by unfold ownC;repeat' split;all_goals omega];go_enter Tryz.func224,Tryz.ntmps224
      go_wp2_with fail
      go_ret;exact ⟨rfl,(Below.refl _ w).alloc (Nat.le_refl _) _⟩
    · have g1:¬ (8:Int)<(len:Int):=by omega
      rw [show ownC _ _ len regs=1 by unfold ownC;repeat' split;all_goals omega];go_enter Tryz.func224,Tryz.ntmps224
      go_wp2_with fail
      go_ret;exact ⟨rfl,(Below.refl _ w).alloc (Nat.le_refl _) _⟩
    · have g1:¬ (8:Int)<(len:Int):=by omega
      rw [show ownC _ _ len regs=0 by unfold ownC;repeat' split;all_goals omega];go_enter Tryz.func224,Tryz.ntmps224
      go_wp2_with fail
      go_ret;exact ⟨rfl,(Below.refl _ w).alloc (Nat.le_refl _) _⟩
theorem firstCode_any : ∀ n, FaultAt 204 n := by
  intro n
  induction n with
  | zero=>intro t;exact Empty.elim t
  | succ n ih =>
    intro t a c regs w ht hct;have IH:Hid (FaultAt 204 n):=ih;clear ih;have hT:Hid (LIn w All t.2.2 a):=ht.list;have hco:Hid (∀ x∈t.2.2,x.count≤100000):=fun x hx=>by have:=t.count_kid hx;omega
    have hlen:t.2.2.length≤100000:=by have:=t.len_lt_count;rw [t.len_eq] at this;omega
    have hF:Hid (t.fault regs=if ownC t.kind t.r t.2.2.length regs≠0 then ownC t.kind t.r t.2.2.length regs else firstL (TT.fault regs) t.2.2):=rfl;generalize t.fault regs=res at hF ⊢;simp only [Tv,TT.len_eq];generalize t.2.2=l at hT hco hF hlen ⊢;generalize t.kind=k at hF ⊢;generalize t.r=r at hF ⊢;clear ht hct t;go_enter Tryz.func204,Tryz.ntmps204
    go_wp2_with fail
    have X0:Hid (Bx w (w.alloc (.cells #[.int .i64 k,.int .i64 r,.slice a l.length c] 78)) k r a l.length c):=Bx.start w k r a l.length c;refine (ownCode_any k r a l.length c regs _).mono ?_;rintro e w1 ⟨rfl,b1⟩;have X1:Hid (Bx w w1 k r a l.length c):=X0.out.below b1;clear X0 b1;by_cases hz:ownC k r l.length regs=0
    · have R:Hid (res=firstL (TT.fault regs) l):=by
        have:=hF.out
        rw [hz] at this;show res=firstL (TT.fault regs) l;simpa using this
      rw [hz];clear hz hF;have e2:w1.cell? ⟨w.heap.size,2,none⟩=some (.slice a l.length c):=cellOf X1.out.box 2 _ rfl;go_wp2_with fail
      clear e2;go_loopw [18] (fun i wr=>∃ q:Nat,q≤l.length∧i=.int .i64 q∧(∀ (j:Nat) x,j<q→l[j]?=some x→x.fault regs=0)∧Bx w wr k r a l.length c) (fun i _=>l.length - (intOf i).toNat)
      case atStart=>exact ⟨0,Nat.zero_le _,rfl,fun j x hj=>by omega,X1.out⟩
      case round =>
        clear X1;obtain ⟨q,hq,rfl,hall,hX⟩:=hrel;have A:Hid (∀ (j:Nat) x,j<q→l[j]?=some x→x.fault regs=0):=hall;have X1:Hid (Bx w wr k r a l.length c):=hX;clear hall;by_cases hlt:q<l.length
        · have hx:l[q]?=some l[q]:=List.getElem?_eq_getElem hlt;generalize l[q]=x at hx;obtain ⟨g,o,a',c',rfl,_,d0,d1,d2,hk⟩:=LIn.at (hT.out.below hX.bel) hx;have hx':Hid (l[q]?=some x):=hx;have hk0:(0:Int)≤q:=by omega
          have hk1:(q:Int)<l.length:=by omega
          have C:Hid (∀ wx,Below wr.heap.size wr wx→Calls Tryz.prog 204 #[Tv x a' c',.int .i64 regs] wx fun e w'=>e=.returned (.int .i64 (x.fault regs))∧Below wx.heap.size wx w') :=
            fun wx hb=>IH.out x a' c' regs wx (hk.below hb) (hco.out x (List.mem_of_getElem? hx))
          clear hX hk hx;simp only [Tv] at C;generalize x.kind=kx at C d0;generalize x.r=rx at C d1;generalize x.len=lx at C d2;go_wp2_with fail
          have B1:Below wr.heap.size wr (wr.alloc (.cells #[.int .i64 kx,.int .i64 rx,.slice a' lx c'] 78)):=(Below.refl _ wr).alloc (Nat.le_refl _) _;refine (C.out _ B1).mono ?_;rintro e w2 ⟨rfl,b2⟩;have X2:Hid (Bx w w2 k r (some ⟨g,o,none⟩) l.length c):=(X1.out.below B1).below b2;clear X1 b2 B1 C d0 d1 d2;by_cases hd:x.fault regs=0
          · have A2:Hid (∀ (j:Nat) x,j<q+1→l[j]?=some x→x.fault regs=0):=fun j y hj hy=>by
              by_cases e:j=q
              · subst e;rw [hx'.out] at hy
                cases hy
                exact hd
              · exact A.out j y (by omega) hy
            rw [hd];clear hd A;go_wp2
            go_roundw
            case rel=>exact ⟨q+1,by omega,by go_num,A2.out,X2.out⟩
            case measure=>simp [intOf];omega
          · have Rv:Hid (res=x.fault regs):=R.out.trans (firstL_eq hx'.out A.out hd);have hd':(x.fault regs != 0)=true:=by simpa using hd
            generalize x.fault regs=v at hd' Rv ⊢;clear hd A;go_wp2
            go_ret;exact ⟨by rw [Rv.out];rfl,X2.out.bel⟩
        · have Rv:Hid (res=0):=R.out.trans (firstL_zero (fun j y hy=>A.out j y (by have:=(List.getElem?_eq_some_iff.1 hy).1;omega) hy));have hk1:¬ (q:Int)<l.length:=by omega
          clear hX A;go_wp2
          go_ret;exact ⟨by rw [Rv.out];rfl,X1.out.bel⟩
    · have R:Hid (res=ownC k r l.length regs):=by
        have:=hF.out
        rwa [if_pos hz] at this
      have hz':(ownC k r l.length regs != 0)=true:=by simpa using hz
      generalize ownC k r l.length regs=v at hz' R ⊢;clear hz hF;go_wp2_with fail
      go_ret;exact ⟨by rw [R.out];rfl,X1.out.bel⟩
theorem lt_height {n : Nat} {l : List (TT n)} {k r : Int} {m : Nat} : m < TT.height (n := n + 1) (mkT k r l) ↔ ∃ (i : Nat) (x : TT n), l[i]? = some x ∧ m < 1 + x.height := by
  rw [← Nat.not_le,height_le];constructor
  · intro h;simp only [Classical.not_forall] at h;obtain ⟨x,hx,h2⟩:=h;obtain ⟨i,hi,rfl⟩:=List.mem_iff_getElem.1 hx;exact ⟨i,_,List.getElem?_eq_getElem hi,by omega⟩
  · rintro ⟨i,x,hx,h2⟩ h
    have:=h x (List.mem_of_getElem? (l:=l) hx)
    omega
theorem deeper_any : ∀ (n : Nat) (t : TT n) (a : Option Addr) (c : Nat) (w : World) (m : Nat), TIn w All t a → t.count ≤ 100000 → m ≤ 4 →
    Calls Tryz.prog 203 #[Tv t a c,.int .i64 m] w fun e w'=>e=.returned (.bool (decide (m<t.height)))∧Below w.heap.size w w':=by
  intro n
  induction n with
  | zero=>intro t;exact Empty.elim t
  | succ n ih =>
    intro t a c w m ht hct hm4
    have IH:Hid (∀ (t:TT n) (a:Option Addr) (c:Nat) (w:World) (m:Nat),TIn w All t a→t.count≤100000→m≤4 →
      Calls Tryz.prog 203 #[Tv t a c,.int .i64 m] w fun e w'=>e=.returned (.bool (decide (m<t.height)))∧Below w.heap.size w w'):=ih
    clear ih;have hT:Hid (LIn w All t.2.2 a):=ht.list;have hco:Hid (∀ x∈t.2.2,x.count≤100000):=fun x hx=>by have:=t.count_kid hx;omega
    have hlen:t.2.2.length≤100000:=by have:=t.len_lt_count;rw [t.len_eq] at this;omega
    have hh:Hid (m<t.height ↔ ∃ (i:Nat) (x:TT n),t.2.2[i]?=some x∧m<1+x.height):=lt_height;generalize t.height=h at hh ⊢;simp only [Tv,TT.len_eq];generalize t.2.2=l at hT hco hh hlen ⊢;generalize t.kind=k;generalize t.r=r;clear ht hct t;go_enter Tryz.func203,Tryz.ntmps203
    go_wp2_with fail
    have X0:Hid (Bx w (w.alloc (.cells #[.int .i64 k,.int .i64 r,.slice a l.length c] 78)) k r a l.length c):=Bx.start w k r a l.length c;generalize w.alloc (.cells #[.int .i64 k,.int .i64 r,.slice a l.length c] 78)=w1 at X0 ⊢;go_loopw [10] (fun i wr=>∃ q:Nat,q≤l.length∧i=.int .i64 q∧(∀ (j:Nat) x,j<q→l[j]?=some x→1+x.height≤m)∧Bx w wr k r a l.length c) (fun i _=>l.length - (intOf i).toNat)
    case atStart=>exact ⟨0,Nat.zero_le _,rfl,fun j x hj=>by omega,X0.out⟩
    case round =>
      clear X0;obtain ⟨q,hq,rfl,hall,hX⟩:=hrel;have A:Hid (∀ (j:Nat) x,j<q→l[j]?=some x→1+x.height≤m):=hall;have X1:Hid (Bx w wr k r a l.length c):=hX;clear hall;by_cases hlt:q<l.length
      · have hx:l[q]?=some l[q]:=List.getElem?_eq_getElem hlt;generalize l[q]=x at hx;obtain ⟨g,o,a',c',rfl,_,d0,d1,d2,hk⟩:=LIn.at (hT.out.below hX.bel) hx;have hg:g<wr.heap.size:=World.block_lt_of_cell? wr ⟨g,o+q*3,none⟩ d0;have hx':Hid (l[q]?=some x):=hx;have hk0:(0:Int)≤q:=by omega
        have hk1:(q:Int)<l.length:=by omega
        by_cases hz:m=0
        · have hD:Hid (m<h):=hh.out.2 ⟨q,x,hx,by omega⟩;have hz':((m:Int)==0)=true:=by simp;omega
          clear hX hk hx hz;go_wp2_with fail
          go_ret;exact ⟨by rw [decide_eq_true hD.out];rfl,(X1.out.alloc _).bel⟩
        · have hz':((m:Int)==0)=false:=by simp;omega
          have C:Hid (∀ wx,Below wr.heap.size wr wx→Calls Tryz.prog 203 #[Tv x a' c',.int .i64 ((m:Int) - 1)] wx fun e w'=>e=.returned (.bool (decide (m - 1<x.height)))∧Below wx.heap.size wx w'):=fun wx hb=>by
            have:=IH.out x a' c' wx (m - 1) (hk.below hb) (hco.out x (List.mem_of_getElem? hx)) (by omega)
            rw [show ((m - 1:Nat):Int)=(m:Int) - 1 by omega] at this;exact this
          have hm0:(1:Int)≤m:=by omega
          have hm1:(m:Int)≤4:=by omega
          have hm5:Hid (1≤m):=by show 1≤m;omega
          clear hX hk hx hz;simp only [Tv] at C;generalize x.kind=kx at C d0;generalize x.r=rx at C d1;generalize x.len=lx at C d2;go_wp2_with fail
          have B1:Below wr.heap.size wr (wr.alloc (.cells #[.int .i64 kx,.int .i64 rx,.slice a' lx c'] 78)):=(Below.refl _ wr).alloc (Nat.le_refl _) _;refine (C.out _ B1).mono ?_;rintro e w2 ⟨rfl,b2⟩;have X2:Hid (Bx w w2 k r (some ⟨g,o,none⟩) l.length c):=(X1.out.below B1).below b2;clear X1 b2 B1 C d0 d1 d2;by_cases hd:m - 1<x.height
          · have hD:Hid (m<h):=hh.out.2 ⟨q,x,hx'.out,by have:=hm5.out;omega⟩;rw [decide_eq_true hd];clear hd;go_wp2
            go_ret;exact ⟨by rw [decide_eq_true hD.out];rfl,X2.out.bel⟩
          · have A2:Hid (∀ (j:Nat) x,j<q+1→l[j]?=some x→1+x.height≤m):=fun j y hj hy=>by
              by_cases e:j=q
              · subst e;rw [hx'.out] at hy
                cases hy
                have:=hm5.out
                omega
              · exact A.out j y (by omega) hy
            rw [decide_eq_false hd];clear hd A;go_wp2
            go_roundw
            case rel=>exact ⟨q+1,by omega,by go_num,A2.out,X2.out⟩
            case measure=>simp [intOf];omega
      · have hD:Hid (¬ m<h):=fun hc=>by
          obtain ⟨i,x,hx,h3⟩:=hh.out.1 hc
          have:=A.out i x (by have:=(List.getElem?_eq_some_iff.1 hx).1;omega) hx
          omega
        have hk1:¬ (q:Int)<l.length:=by omega
        clear hX A;go_wp2
        go_ret;exact ⟨by rw [decide_eq_false hD.out];rfl,X1.out.bel⟩
theorem check_any : CheckAt 171 := by
  intro n t a c regs w ht hc
  have C1:Hid (∀ wx,Below w.heap.size w wx→Calls Tryz.prog 203 #[Tv t a c,.int .i64 4] wx fun e w'=>e=.returned (.bool (decide (4<t.height)))∧Below wx.heap.size wx w') :=
    fun wx hb=>deeper_any n t a c wx 4 (ht.below hb) hc (by omega)
  have C2:Hid (∀ wx,Below w.heap.size w wx→Calls Tryz.prog 204 #[Tv t a c,.int .i64 regs] wx fun e w'=>e=.returned (.int .i64 (t.fault regs))∧Below wx.heap.size wx w') :=
    fun wx hb=>firstCode_any n t a c regs wx (ht.below hb) hc
  have E:Hid (t.check regs=if 4<t.height then 19 else t.fault regs):=rfl;generalize t.check regs=res at E ⊢;clear ht hc;simp only [Tv] at C1 C2 ⊢;generalize t.kind=k at C1 C2 ⊢;generalize t.r=r at C1 C2 ⊢;generalize t.len=len at C1 C2 ⊢;generalize t.fault regs=v at C2 E;go_enter Tryz.func171,Tryz.ntmps171
  go_wp2_with fail
  have X0:=Bx.start w k r a len c;generalize w.alloc (.cells #[.int .i64 k,.int .i64 r,.slice a len c] 78)=w1 at X0 ⊢;refine (C1.out _ X0.bel).mono ?_;rintro e w2 ⟨rfl,b2⟩;have X2:Hid (Bx w w2 k r a len c):=X0.below b2;have e0:=cellOf X2.out.box 0 _ rfl;have e1:=cellOf X2.out.box 1 _ rfl;have e2:=cellOf X2.out.box 2 _ rfl;clear X0 b2 C1;by_cases hd:4<t.height
  · rw [decide_eq_true hd];have R:Hid (res=19):=by have:=E.out;rwa [if_pos hd] at this
    clear hd;go_wp2_with fail
    go_ret;exact ⟨by rw [R.out];rfl,X2.out.bel⟩
  · rw [decide_eq_false hd];have R:Hid (res=v):=by have:=E.out;rwa [if_neg hd] at this
    clear hd;go_wp2_with fail
    refine (C2.out _ X2.out.bel).mono ?_;rintro e w3 ⟨rfl,b3⟩;have X3:Hid (Bx w w3 k r a len c):=X2.out.below b3;clear X2 b3 C2 e0 e1 e2;go_wp2_with fail
    go_ret;exact ⟨by rw [R.out];rfl,X3.out.bel⟩
end Go.Proofs.YtalfbnllodhkiacGreatDoor
namespace Go.Proofs.YtalfbnllodhkiacGreatDoor
open Go.ChangeShapes Go.WideShapes Go.ChangeAt Go.RowKit
set_option linter.unusedSimpArgs false
set_option linter.unusedVariables false
abbrev faultV (p : Int × Int) : Value := .agg #[.int .i64 p.1, .int .i64 p.2]
def atF (c p : Int) : Int × Int := if c = 0 then (0, 0) else (c, p)
theorem firstF_at {α : Type} {f : Nat → α → Int × Int} : ∀ {l : List α} {j : Nat}, firstF (fun i x => atF (f i x).1 (f i x).2) j l = firstF f j l
  | [],_=>rfl
  | x::xs,j=>by
    simp only [firstF,atF];by_cases h:(f j x).1=0
    · simp only [h,if_true,ne_eq,not_true_eq_false,if_false];exact firstF_at
    · simp [h]
def MFunc.code {n : Nat} (f : Nat) (x : MFunc n) : Int :=
  if x.regs<0∨6<x.regs then 1 else if listC x.regs x.params≠0 then listC x.regs x.params else if listC x.regs x.results≠0 then listC x.regs x.results
  else if x.blocks.length<1∨12<x.blocks.length then 2 else if f=0∧¬ (x.regs=0∧x.params.length=0∧x.results.all (fun t=>t.kind==1)=true) then 18 else 0
theorem MFunc.fault_eq {n : Nat} (funcs f : Nat) (x : MFunc n) : MFunc.fault funcs f x = if x.code f = 0 then firstF (fun b y => MBlock.fault funcs f x b y) 0 x.blocks else (x.code f, 10000 * (f : Int) + 9999) := by
  unfold MFunc.fault MFunc.code;generalize listC x.regs x.params=lp;generalize listC x.regs x.results=lr;generalize firstF (fun b y=>MBlock.fault funcs f x b y) 0 x.blocks=ff;repeat' split
  all_goals first | rfl | (exfalso;omega) | contradiction
def MBlock.code' {n : Nat} (fn : MFunc n) (b : Nat) (x : MBlock n) : Int :=
  if x.regs<fn.regs∨16<x.regs then 1 else if listC x.regs x.params≠0 then listC x.regs x.params
  else if b=0∧(x.regs≠fn.regs∨sameL x.params fn.params=false) then 9 else if 40<x.code.length then 2 else 0
theorem MBlock.fault_eq {n : Nat} (funcs f : Nat) (fn : MFunc n) (b : Nat) (x : MBlock n) : MBlock.fault funcs f fn b x =
    if x.code' fn b=0 then (if (firstF (fun i y=>(MIns.form funcs y,(10000*f+100*b+i:Int))) 0 x.code).1=0 then atF (x.fin.form fn.blocks.length) (10000*(f:Int)+100*(b:Int)+91)
      else firstF (fun i y=>(MIns.form funcs y,(10000*f+100*b+i:Int))) 0 x.code) else (x.code' fn b,10000*(f:Int)+100*(b:Int)+90):=by
  unfold MBlock.fault MBlock.code' atF;generalize firstF (fun i y=>(MIns.form funcs y,(10000*f+100*b+i:Int))) 0 x.code=ff;generalize x.fin.form fn.blocks.length=ef;generalize listC x.regs x.params=lp;repeat' split
  all_goals first | rfl | (exfalso;omega) | contradiction
def idxK {n : Nat} : Nat → List (TT n) → Int
  | _,[]=>-1
  | i,t::ts=>if t.kind=1 then idxK (i+1) ts else (i:Int)
theorem idxK_at {n : Nat} : ∀ (l : List (TT n)) (i j : Nat) (x : TT n), l[i]? = some x → (∀ k y, k < i → l[k]? = some y → y.kind = 1) → ¬ x.kind = 1 → idxK j l = ((j + i : Nat) : Int)
  | [],i,j,x,h,_,_=>by simp at h
  | y::ys,0,j,x,h,_,hx=>by
    simp at h;subst h
    simp [idxK,hx]
  | y::ys,i+1,j,x,h,hz,hx=>by
    have h0:y.kind=1:=hz 0 y (by omega) rfl;simp only [idxK,h0,if_true];rw [idxK_at ys i (j+1) x (by simpa using h) (fun k z hk hkz=>hz (k+1) z (by omega) (by simpa using hkz)) hx];congr 1;omega
theorem idxK_no {n : Nat} : ∀ (l : List (TT n)) (j : Nat), (∀ (k : Nat) y, l[k]? = some y → y.kind = 1) → idxK j l = -1
  | [],_,_=>rfl
  | y::ys,j,h=>by
    have h0:y.kind=1:=h 0 y rfl;simp only [idxK,h0,if_true];exact idxK_no ys (j+1) (fun k z hz=>h (k+1) z (by simpa using hz))
theorem idxK_iff {n : Nat} : ∀ (l : List (TT n)) (j : Nat), (0 ≤ idxK j l) ↔ ¬ l.all (fun t => t.kind == 1) = true
  | [],j=>by simp [idxK]
  | y::ys,j=>by
    by_cases h:y.kind=1
    · simp only [idxK,h,if_true,List.all_cons,beq_self_eq_true,Bool.true_and];exact idxK_iff ys (j+1)
    · simp [idxK,h]
theorem rd_typeFault {n : Nat} {t : TT n} {a : Option Addr} {c : Nat} {regs : Int} {w : World} (ht : TIn w All t a) (hc : t.count ≤ 100000) : Rd Tryz.prog 72 #[Tv t a c, .int .i64 regs] w (.int .i64 (t.check regs)) := typeFaultT_any n t a c regs w ht hc
theorem rd_check {n : Nat} {t : TT n} {a : Option Addr} {c : Nat} {regs : Int} {w : World} (ht : TIn w All t a) (hc : t.count ≤ 100000) : Rd Tryz.prog 171 #[Tv t a c, .int .i64 regs] w (.int .i64 (t.check regs)) := check_any n t a c regs w ht hc
theorem firstL_at {α : Type} {f : α → Int} : ∀ {l : List α} {i : Nat} {x : α}, l[i]? = some x → (∀ k y, k < i → l[k]? = some y → f y = 0) → f x ≠ 0 → firstL f l = f x
  | [],i,x,h,_,_=>by simp at h
  | y::ys,0,x,h,_,hf=>by
    simp at h;subst h
    simp [firstL,hf]
  | y::ys,i+1,x,h,hz,hf=>by
    have h0:f y=0:=hz 0 y (by omega) rfl;simp only [firstL,h0,ne_eq,not_true_eq_false,if_false];exact firstL_at (by simpa using h) (fun k z hk hkz=>hz (k+1) z (by omega) (by simpa using hkz)) hf
theorem firstL_no {α : Type} {f : α → Int} : ∀ {l : List α}, (∀ (k : Nat) y, l[k]? = some y → f y = 0) → firstL f l = 0
  | [],_=>rfl
  | y::ys,h=>by
    have h0:f y=0:=h 0 y rfl;simp only [firstL,h0,ne_eq,not_true_eq_false,if_false];exact firstL_no (fun k z hz=>h (k+1) z (by simpa using hz))
theorem listForm_any {n : Nat} {l : List (TT n)} {p : Option Addr} {c : Nat} {regs : Int} {w : World} (hl0 : (typesL n).In w All l [.slice p l.length c]) (hs0 : tsmall l) :
    Rd Tryz.prog 38 #[.slice p l.length c,.int .i64 regs] w (.int .i64 (listC regs l)):=by
  have hl:Hid _:=hl0;have hs:Hid _:=hs0;have hsb:=hs0.1;clear hl0 hs0;refine fr_enter (n:=25) Tryz.func38 rfl rfl rfl ?_;intro a hF;have hW:=Wd.start w;replace hF:Fr 25 a [(0,.slice p l.length c),(1,.int .i64 regs)]:=hF;refine wp_seq_k fun K1 hK1=>?_;refine rg hF fun ops=>?_;clear hF a;refine sa trivial rfl rfl ?_;refine St.nil fun a2 h2=>?_;refine hK1 _ _ ?_;refine wp_seq_k fun K3 hK3=>?_;refine wp_seq_k fun K4 hK4=>?_;refine rg h2 fun ops=>?_;clear h2 a2;refine sm trivial rfl rfl ?_;refine slTypes trivial rfl rfl ?_;refine sgt trivial rfl rfl rfl ?_;refine St.nil fun a5 h5=>?_;refine hK4 _ _ ?_;refine fr_cond (t:=9) h5 rfl (fun hb=>?_) (fun hb=>?_)
  ·have hbig:8<l.length:=by have:=of_decide_eq_true hb;omega
   clear hb;refine wp_seq_k fun K6 hK6=>?_;refine rg h5 fun ops=>?_;clear h5 a5;refine sa trivial rfl rfl ?_;refine St.nil fun a7 h7=>?_;refine hK6 _ _ ?_;refine wp_ret ?_;with_reducible repeat first | refine of_then_ret ?_ | refine of_block_ret ?_
   have R:listC regs l=2:=by unfold listC;rw [if_pos hbig]
   exact ret_tmp (t:=4) h7 rfl rfl ⟨by rw [R],hW.bel⟩
  have hbig:¬ (8<l.length):=by have:=of_decide_eq_false hb;omega
  clear hb;refine wp_skip ?_;refine hK3 _ _ ?_;refine wp_seq_k fun K8 hK8=>?_;refine wp_seq_k fun K9 hK9=>?_;refine rg h5 fun ops=>?_;clear h5 a5;refine sa trivial rfl rfl ?_;refine St.nil fun a10 h10=>?_;refine hK9 _ _ ?_;refine wp_block ?_;refine fr_loop (fun r a w'=>∃ q:Nat,q≤l.length∧r=l.length - q∧(∀ (j:Nat) y,j<q→l[j]?=some y→y.check regs=0)∧Fr 25 a [(1,.int .i64 regs),(0,.slice p l.length c),(4,.int .i64 0),(5,.int .i64 (q:Int))]∧Wd w w' []) (l.length) ⟨0,Nat.zero_le _,rfl,(fun j y hj=>by omega),(h10.keep (h10.keep (h10.keep (h10.keep h10.nil (t:=5) rfl) (t:=4) rfl) (t:=0) rfl) (t:=1) rfl),hW⟩ ?_;clear h10 hW;rintro r a11 w11 ⟨q,hq,hr,hall,hF11,hW11⟩ KL hKL;refine wp_seq_k fun K12 hK12=>?_;refine wp_seq_k fun K13 hK13=>?_;refine rg hF11 fun ops=>?_;clear hF11 a11;refine sm trivial rfl rfl ?_;refine sm trivial rfl rfl ?_;refine slTypes trivial rfl rfl ?_;refine slt trivial rfl rfl rfl ?_;refine St.nil fun a14 h14=>?_;refine hK13 _ _ ?_;refine fr_cond (t:=13) h14 rfl (fun hb=>?_) (fun hb=>?_)
  ·have hlt1:q<l.length:=by have:=of_decide_eq_true hb;omega
   clear hb;obtain ⟨t,hx1⟩:∃ v9,(l)[q]?=some v9:=⟨_,List.getElem?_eq_getElem hlt1⟩;obtain ⟨g1,o1,pt1,ct1,hp1,E1,In1⟩:=lin_at (types_lin hl.out).1 hx1;replace In1:Hid _:=In1;replace hp1:Hid _:=hp1;replace hx1:Hid _:=hx1;replace E1:Hid _:=E1;refine wp_skip ?_;refine hK12 _ _ ?_;refine wp_seq_k fun K15 hK15=>?_;refine wp_block ?_;refine wp_seq_k fun K16 hK16=>?_;refine rg h14 fun ops=>?_;clear h14 a14;refine sm trivial rfl rfl ?_;refine sm trivial rfl rfl ?_;refine siTypes hp1.out hlt1 trivial rfl rfl rfl ?_;refine sSE Tryz.underlying78 rfl (rangeAt_bel E1.out hW11.bel) infType trivial rfl rfl ?_;refine sm trivial rfl rfl ?_;refine sc_2 cf72 hW11 (rd_typeFault (c:=ct1) (regs:=regs) (TIn.below In1.out hW11.bel) (hs.out.2 _ (List.mem_of_getElem? hx1.out))) trivial rfl rfl rfl ?_;clear hW11;intro w17 hW17;refine sa trivial rfl rfl ?_;refine St.nil fun a18 h18=>?_;refine hK16 _ _ ?_;refine wp_seq_k fun K19 hK19=>?_;refine rg h18 fun ops=>?_;clear h18 a18;refine sm trivial rfl rfl ?_;refine sne trivial rfl rfl rfl ?_;refine St.nil fun a20 h20=>?_;refine hK19 _ _ ?_;refine fr_cond (t:=23) h20 rfl (fun hb=>?_) (fun hb=>?_)
   ·have h9:¬ (t.check regs)=0:=bne_iff_ne.1 hb
    have hne:¬ (t.check regs)=0:=h9;clear h9;clear hb;refine wp_seq_k fun K21 hK21=>?_;refine rg h20 fun ops=>?_;clear h20 a20;refine sm trivial rfl rfl ?_;refine sa trivial rfl rfl ?_;refine St.nil fun a22 h22=>?_;refine hK21 _ _ ?_;refine wp_ret ?_;with_reducible repeat first | refine of_then_ret ?_ | refine of_block_ret ?_
    have R:listC regs l=t.check regs:=by unfold listC;rw [if_neg hbig];exact firstL_at hx1.out (fun k y hk hy=>hall k y hk hy) hne
    exact ret_tmp (t:=4) h22 rfl rfl ⟨by rw [R],hW17.bel⟩
   have h9:(t.check regs)=0:=bne_eq_false_iff_eq.1 hb;have hne:Hid ((t.check regs)=0):=h9;clear h9;clear hb;refine wp_skip ?_;refine hK15 _ _ ?_;refine rg h20 fun ops=>?_;clear h20 a20;refine sm trivial rfl rfl ?_;refine sad (by omega) trivial rfl rfl rfl ?_;refine sa trivial rfl rfl ?_;refine St.nil fun a23 h23=>?_;refine hKL _ _ (l.length - (q+1)) (by omega) ⟨q+1,by omega,rfl,?_,(h23.keep (h23.keep (h23.keep (h23.keep h23.nil (t:=5) rfl) (t:=4) rfl) (t:=0) rfl) (t:=1) rfl),hW17⟩
   ·intro j y hj hy
    by_cases e:j=q
    · subst e;rw [hx1.out] at hy;cases hy;exact hne.out
    · exact hall j y (by omega) hy
  have hge:q=l.length:=by have:=of_decide_eq_false hb;omega
  clear hb;refine wp_exit ?_;refine hK8 _ _ ?_;refine wp_seq_k fun K24 hK24=>?_;refine rg h14 fun ops=>?_;clear h14 a14;refine sa trivial rfl rfl ?_;refine St.nil fun a25 h25=>?_;refine hK24 _ _ ?_;refine wp_ret ?_;with_reducible repeat first | refine of_then_ret ?_ | refine of_block_ret ?_
  have R:listC regs l=0:=by unfold listC;rw [if_neg hbig];exact firstL_no (fun k y hy=>hall k y (by have:=(List.getElem?_eq_some_iff.1 hy).1;omega) hy)
  exact ret_tmp (t:=4) h25 rfl rfl ⟨by rw [R],hW11.bel⟩
theorem typesCode_any {n : Nat} {l : List (TT n)} {p : Option Addr} {c : Nat} {regs : Int} {w : World} (hl0 : (typesL n).In w All l [.slice p l.length c]) (hs0 : tsmall l) :
    Rd Tryz.prog 134 #[.slice p l.length c,.int .i64 regs] w (.int .i64 (listC regs l)):=by
  have hl:Hid _:=hl0;have hs:Hid _:=hs0;have hsb:=hs0.1;clear hl0 hs0;refine fr_enter (n:=24) Tryz.func134 rfl rfl rfl ?_;intro a hF;have hW:=Wd.start w;replace hF:Fr 24 a [(0,.slice p l.length c),(1,.int .i64 regs)]:=hF;refine wp_seq_k fun K1 hK1=>?_;refine rg hF fun ops=>?_;clear hF a;refine sa trivial rfl rfl ?_;refine St.nil fun a2 h2=>?_;refine hK1 _ _ ?_;refine wp_seq_k fun K3 hK3=>?_;refine wp_seq_k fun K4 hK4=>?_;refine rg h2 fun ops=>?_;clear h2 a2;refine sm trivial rfl rfl ?_;refine slTypes trivial rfl rfl ?_;refine sgt trivial rfl rfl rfl ?_;refine St.nil fun a5 h5=>?_;refine hK4 _ _ ?_;refine fr_cond (t:=10) h5 rfl (fun hb=>?_) (fun hb=>?_)
  ·have hbig:8<l.length:=by have:=of_decide_eq_true hb;omega
   clear hb;refine wp_seq_k fun K6 hK6=>?_;refine rg h5 fun ops=>?_;clear h5 a5;refine sa trivial rfl rfl ?_;refine St.nil fun a7 h7=>?_;refine hK6 _ _ ?_;refine wp_ret ?_;with_reducible repeat first | refine of_then_ret ?_ | refine of_block_ret ?_
   have R:listC regs l=2:=by unfold listC;rw [if_pos hbig]
   exact ret_tmp (t:=4) h7 rfl rfl ⟨by rw [R],hW.bel⟩
  have hbig:¬ (8<l.length):=by have:=of_decide_eq_false hb;omega
  clear hb;refine wp_skip ?_;refine hK3 _ _ ?_;refine wp_seq_k fun K8 hK8=>?_;refine wp_seq_k fun K9 hK9=>?_;refine rg h5 fun ops=>?_;clear h5 a5;refine sm trivial rfl rfl ?_;refine slTypes trivial rfl rfl ?_;refine sm trivial rfl rfl ?_;refine St.nil fun a10 h10=>?_;refine hK9 _ _ ?_;refine wp_block ?_;refine fr_loop (fun r a w'=>∃ q:Nat,q≤l.length∧r=l.length - q∧(∀ (j:Nat) y,j<q→l[j]?=some y→y.check regs=0)∧Fr 24 a [(1,.int .i64 regs),(0,.slice p l.length c),(4,.int .i64 0),(11,.slice p l.length c),(12,.int .i64 (l.length:Int)),(13,.int .i64 (q:Int))]∧Wd w w' []) (l.length) ⟨0,Nat.zero_le _,rfl,(fun j y hj=>by omega),(h10.keep (h10.keep (h10.keep (h10.keep (h10.keep (h10.keep h10.nil (t:=13) rfl) (t:=12) rfl) (t:=11) rfl) (t:=4) rfl) (t:=0) rfl) (t:=1) rfl),hW⟩ ?_;clear h10 hW;rintro r a11 w11 ⟨q,hq,hr,hall,hF11,hW11⟩ KL hKL;refine wp_seq_k fun K12 hK12=>?_;refine rg hF11 fun ops=>?_;clear hF11 a11;refine slt trivial rfl rfl rfl ?_;refine St.nil fun a13 h13=>?_;refine hK12 _ _ ?_;refine wp_seq_k fun K14 hK14=>?_;refine fr_cond (t:=14) h13 rfl (fun hb=>?_) (fun hb=>?_)
  ·have hlt1:q<l.length:=by have:=of_decide_eq_true hb;omega
   clear hb;obtain ⟨t,hx1⟩:∃ v9,(l)[q]?=some v9:=⟨_,List.getElem?_eq_getElem hlt1⟩;obtain ⟨g1,o1,pt1,ct1,hp1,E1,In1⟩:=lin_at (types_lin hl.out).1 hx1;replace In1:Hid _:=In1;replace hp1:Hid _:=hp1;replace hx1:Hid _:=hx1;replace E1:Hid _:=E1;refine wp_skip ?_;refine hK14 _ _ ?_;refine wp_seq_k fun K15 hK15=>?_;refine wp_block ?_;refine wp_seq_k fun K16 hK16=>?_;refine rg h13 fun ops=>?_;clear h13 a13;refine siTypes hp1.out hlt1 trivial rfl rfl rfl ?_;refine sSE Tryz.underlying78 rfl (rangeAt_bel E1.out hW11.bel) infType trivial rfl rfl ?_;refine sAType hW11 trivial rfl ?_;clear hW11;intro w17 B17 hW17 hN;clear hN;refine sT 0 hW17 rfl rfl infType rfl rfl rfl ?_;clear hW17;intro w18 hW18;refine St.nil fun a19 h19=>?_;refine hK16 _ _ ?_;refine wp_seq_k fun K20 hK20=>?_;refine rg h19 fun ops=>?_;clear h19 a19;refine sS 0 3 Tryz.underlying78 rfl infType hW18 trivial rfl rfl rfl rfl ?_;refine sm trivial rfl rfl ?_;refine sc_2 cf171 hW18 (rd_check (c:=ct1) (regs:=regs) (TIn.below In1.out hW18.bel) (hs.out.2 _ (List.mem_of_getElem? hx1.out))) trivial rfl rfl rfl ?_;clear hW18;intro w21 hW21;refine sa trivial rfl rfl ?_;refine St.nil fun a22 h22=>?_;refine hK20 _ _ ?_;refine wp_seq_k fun K23 hK23=>?_;refine rg h22 fun ops=>?_;clear h22 a22;refine sm trivial rfl rfl ?_;refine sne trivial rfl rfl rfl ?_;refine St.nil fun a24 h24=>?_;refine hK23 _ _ ?_;refine fr_cond (t:=21) h24 rfl (fun hb=>?_) (fun hb=>?_)
   ·have h9:¬ (t.check regs)=0:=bne_iff_ne.1 hb
    have hne:¬ (t.check regs)=0:=h9;clear h9;clear hb;refine wp_seq_k fun K25 hK25=>?_;refine rg h24 fun ops=>?_;clear h24 a24;refine sm trivial rfl rfl ?_;refine sa trivial rfl rfl ?_;refine St.nil fun a26 h26=>?_;refine hK25 _ _ ?_;refine wp_ret ?_;with_reducible repeat first | refine of_then_ret ?_ | refine of_block_ret ?_
    have R:listC regs l=t.check regs:=by unfold listC;rw [if_neg hbig];exact firstL_at hx1.out (fun k y hk hy=>hall k y hk hy) hne
    exact ret_tmp (t:=4) h26 rfl rfl ⟨by rw [R],hW21.bel⟩
   have h9:(t.check regs)=0:=bne_eq_false_iff_eq.1 hb;have hne:Hid ((t.check regs)=0):=h9;clear h9;clear hb;refine wp_skip ?_;refine hK15 _ _ ?_;refine rg h24 fun ops=>?_;clear h24 a24;refine sad (by omega) trivial rfl rfl rfl ?_;refine sm trivial rfl rfl ?_;refine St.nil fun a27 h27=>?_;refine hKL _ _ (l.length - (q+1)) (by omega) ⟨q+1,by omega,rfl,?_,(h27.keep (h27.keep (h27.keep (h27.keep (h27.keep (h27.keep h27.nil (t:=13) rfl) (t:=12) rfl) (t:=11) rfl) (t:=4) rfl) (t:=0) rfl) (t:=1) rfl),hW21.tail⟩
   ·intro j y hj hy
    by_cases e:j=q
    · subst e;rw [hx1.out] at hy;cases hy;exact hne.out
    · exact hall j y (by omega) hy
  have hge:q=l.length:=by have:=of_decide_eq_false hb;omega
  clear hb;refine wp_exit ?_;refine hK8 _ _ ?_;refine wp_seq_k fun K28 hK28=>?_;refine rg h13 fun ops=>?_;clear h13 a13;refine sa trivial rfl rfl ?_;refine St.nil fun a29 h29=>?_;refine hK28 _ _ ?_;refine wp_ret ?_;with_reducible repeat first | refine of_then_ret ?_ | refine of_block_ret ?_
  have R:listC regs l=0:=by unfold listC;rw [if_neg hbig];exact firstL_no (fun k y hy=>hall k y (by have:=(List.getElem?_eq_some_iff.1 hy).1;omega) hy)
  exact ret_tmp (t:=4) h29 rfl rfl ⟨by rw [R],hW11.bel⟩
theorem faultAt_any {xc xp : Int} {w : World} :
    Rd Tryz.prog 105 #[.int .i64 xc,.int .i64 xp] w (faultV (atF xc xp)):=by
  refine fr_enter (n:=11) Tryz.func105 rfl rfl rfl ?_;intro a hF;have hW:=Wd.start w;replace hF:Fr 11 a [(0,.int .i64 xc),(1,.int .i64 xp)]:=hF;refine wp_seq_k fun K1 hK1=>?_;refine rg hF fun ops=>?_;clear hF a;refine sAFault hW trivial rfl ?_;clear hW;intro w2 B2 hW2 hN;clear hN;refine St.nil fun a3 h3=>?_;refine hK1 _ _ ?_;refine wp_seq_k fun K4 hK4=>?_;refine wp_seq_k fun K5 hK5=>?_;refine rg h3 fun ops=>?_;clear h3 a3;refine sm trivial rfl rfl ?_;refine seq trivial rfl rfl rfl ?_;refine St.nil fun a6 h6=>?_;refine hK5 _ _ ?_;refine fr_cond (t:=6) h6 rfl (fun hb=>?_) (fun hb=>?_)
  ·have h9:xc=0:=eq_of_beq hb
   have hc7:Hid (xc=0):=h9;clear h9;clear hb;refine wp_seq_k fun K8 hK8=>?_;refine rg h6 fun ops=>?_;clear h6 a6;intro a9 h9;refine fr_pure (t:=7) (v:=.agg #[.int .i64 0,.int .i64 0]) (w':=w2) h9 rfl rfl rfl (fun K hK=>?_) ?_
   ·go_simp
    exact hK
   clear h9;intro a10 hF10;refine St.go hF10 ?_;clear hF10 a10;refine sT 0 hW2 rfl rfl infFault rfl rfl rfl ?_;clear hW2;intro w11 hW11;refine St.nil fun a12 h12=>?_;refine hK8 _ _ ?_;refine wp_ret ?_;with_reducible repeat first | refine of_then_ret ?_ | refine of_block_ret ?_
   have R:atF xc xp=(0,0):=by simp [atF,hc7.out]
   exact ret_box 0 h12 hW11 rfl rfl rfl Tryz.underlying27 rfl infFault ⟨by show Ending.returned (.agg #[.int .i64 0,.int .i64 0])=_;rw [R],hW11.bel⟩
  have h9:¬ xc=0:=ne_of_beq_false hb;have hc13:¬ xc=0:=h9;clear h9;clear hb;refine wp_skip ?_;refine hK4 _ _ ?_;refine wp_seq_k fun K14 hK14=>?_;refine rg h6 fun ops=>?_;clear h6 a6;refine sm trivial rfl rfl ?_;refine sm trivial rfl rfl ?_;intro a15 h15;refine fr_pure (t:=10) (v:=.agg #[.int .i64 xc,.int .i64 xp]) (w':=w2) h15 rfl rfl rfl (fun K hK=>?_) ?_
  ·have k0:a15.tmps[8]?.getD undef=.int .i64 xc:=h15.sl2 8 _ rfl
   have k1:a15.tmps[9]?.getD undef=.int .i64 xp:=h15.sl2 9 _ rfl;go_simp;exact hK
  clear h15;intro a16 hF16;refine St.go hF16 ?_;clear hF16 a16;refine sT 0 hW2 rfl rfl infFault rfl rfl rfl ?_;clear hW2;intro w17 hW17;refine St.nil fun a18 h18=>?_;refine hK14 _ _ ?_;refine wp_ret ?_;with_reducible repeat first | refine of_then_ret ?_ | refine of_block_ret ?_
  have R:atF xc xp=(xc,xp):=by simp [atF,hc13]
  exact ret_box 0 h18 hW17 rfl rfl rfl Tryz.underlying27 rfl infFault ⟨by show Ending.returned (.agg #[.int .i64 xc,.int .i64 xp])=_;rw [R],hW17.bel⟩
theorem fF_any {xc xp : Int} {w : World} :
    Rd Tryz.prog 36 #[.int .i64 xc,.int .i64 xp] w (faultV (xc,xp)):=by
  refine fr_enter (n:=8) Tryz.func36 rfl rfl rfl ?_;intro a hF;have hW:=Wd.start w;replace hF:Fr 8 a [(0,.int .i64 xc),(1,.int .i64 xp)]:=hF;refine wp_seq_k fun K1 hK1=>?_;refine rg hF fun ops=>?_;clear hF a;refine sAFault hW trivial rfl ?_;clear hW;intro w2 B2 hW2 hN;clear hN;refine St.nil fun a3 h3=>?_;refine hK1 _ _ ?_;refine wp_seq_k fun K4 hK4=>?_;refine rg h3 fun ops=>?_;clear h3 a3;refine sm trivial rfl rfl ?_;refine sm trivial rfl rfl ?_;intro a5 h5;refine fr_pure (t:=7) (v:=.agg #[.int .i64 xc,.int .i64 xp]) (w':=w2) h5 rfl rfl rfl (fun K hK=>?_) ?_
  ·have k0:a5.tmps[5]?.getD undef=.int .i64 xc:=h5.sl2 5 _ rfl
   have k1:a5.tmps[6]?.getD undef=.int .i64 xp:=h5.sl2 6 _ rfl;go_simp;exact hK
  clear h5;intro a6 hF6;refine St.go hF6 ?_;clear hF6 a6;refine sT 0 hW2 rfl rfl infFault rfl rfl rfl ?_;clear hW2;intro w7 hW7;refine St.nil fun a8 h8=>?_;refine hK4 _ _ ?_;refine wp_ret ?_;with_reducible repeat first | refine of_then_ret ?_ | refine of_block_ret ?_
  exact ret_box 0 h8 hW7 rfl rfl rfl Tryz.underlying27 rfl infFault ⟨rfl,hW7.bel⟩
theorem canB1_any {tk tr : Int} {tp : Option Addr} {tl tc : Nat} {w : World} :
    Rd Tryz.prog 173 #[.agg #[.int .i64 tk,.int .i64 tr,.slice tp tl tc]] w (.bool (tk != 1)):=by
  refine fr_enter (n:=6) Tryz.func173 rfl rfl rfl ?_;intro a hF;have hW:=Wd.start w;replace hF:Fr 6 a [(0,.agg #[.int .i64 tk,.int .i64 tr,.slice tp tl tc])]:=hF;refine wp_seq_k fun K1 hK1=>?_;refine rg hF fun ops=>?_;clear hF a;refine sB hW trivial rfl rfl ?_;clear hW;intro w2 B2 hW2 hN;clear hN;refine sa trivial rfl rfl ?_;refine St.nil fun a3 h3=>?_;refine hK1 _ _ ?_;refine wp_seq_k fun K4 hK4=>?_;refine rg h3 fun ops=>?_;clear h3 a3;refine sfType0 trivial rfl rfl ?_;refine sbInt 0 hW2 trivial rfl rfl rfl rfl ?_;refine sne trivial rfl rfl rfl ?_;refine sa trivial rfl rfl ?_;refine St.nil fun a5 h5=>?_;refine hK4 _ _ ?_;refine wp_ret ?_;with_reducible repeat first | refine of_then_ret ?_ | refine of_block_ret ?_
  exact ret_tmp (t:=2) h5 rfl rfl ⟨rfl,hW2.bel⟩
theorem indexF_any {n : Nat} {l : List (TT n)} {p : Option Addr} {c : Nat} {w : World} (hl0 : (typesL n).In w All l [.slice p l.length c]) (hsb : l.length ≤ 200) :
    Rd Tryz.prog 205 #[.slice p l.length c,.func (.func 173) #[] #[]] w (.int .i64 (idxK 0 l)):=by
  have hl:Hid _:=hl0;clear hl0;refine fr_enter (n:=19) Tryz.func205 rfl rfl rfl ?_;intro a hF;have hW:=Wd.start w;replace hF:Fr 19 a [(0,.slice p l.length c),(1,.func (.func 173) #[] #[])]:=hF;refine wp_seq_k fun K1 hK1=>?_;refine rg hF fun ops=>?_;clear hF a;refine sa trivial rfl rfl ?_;refine St.nil fun a2 h2=>?_;refine hK1 _ _ ?_;refine wp_seq_k fun K3 hK3=>?_;refine wp_seq_k fun K4 hK4=>?_;refine rg h2 fun ops=>?_;clear h2 a2;refine sm trivial rfl rfl ?_;refine slTypes trivial rfl rfl ?_;refine sm trivial rfl rfl ?_;refine St.nil fun a5 h5=>?_;refine hK4 _ _ ?_;refine wp_block ?_;refine fr_loop (fun r a w'=>∃ q:Nat,q≤l.length∧r=l.length - q∧(∀ (j:Nat) y,j<q→l[j]?=some y→y.kind=1)∧Fr 19 a [(1,.func (.func 173) #[] #[]),(0,.slice p l.length c),(4,.int .i64 0),(7,.int .i64 (l.length:Int)),(8,.int .i64 (q:Int))]∧Wd w w' []) (l.length) ⟨0,Nat.zero_le _,rfl,(fun j y hj=>by omega),(h5.keep (h5.keep (h5.keep (h5.keep (h5.keep h5.nil (t:=8) rfl) (t:=7) rfl) (t:=4) rfl) (t:=0) rfl) (t:=1) rfl),hW⟩ ?_;clear h5 hW;rintro r a6 w6 ⟨q,hq,hr,hall,hF6,hW6⟩ KL hKL;refine wp_seq_k fun K7 hK7=>?_;refine rg hF6 fun ops=>?_;clear hF6 a6;refine slt trivial rfl rfl rfl ?_;refine St.nil fun a8 h8=>?_;refine hK7 _ _ ?_;refine wp_seq_k fun K9 hK9=>?_;refine fr_cond (t:=9) h8 rfl (fun hb=>?_) (fun hb=>?_)
  ·have hlt1:q<l.length:=by have:=of_decide_eq_true hb;omega
   clear hb;obtain ⟨t,hx1⟩:∃ v9,(l)[q]?=some v9:=⟨_,List.getElem?_eq_getElem hlt1⟩;obtain ⟨g1,o1,pt1,ct1,hp1,E1,In1⟩:=lin_at (types_lin hl.out).1 hx1;replace In1:Hid _:=In1;replace hp1:Hid _:=hp1;replace hx1:Hid _:=hx1;replace E1:Hid _:=E1;refine wp_skip ?_;refine hK9 _ _ ?_;refine wp_seq_k fun K10 hK10=>?_;refine wp_block ?_;refine wp_seq_k fun K11 hK11=>?_;refine rg h8 fun ops=>?_;clear h8 a8;refine sm trivial rfl rfl ?_;refine sa trivial rfl rfl ?_;refine St.nil fun a12 h12=>?_;refine hK11 _ _ ?_;refine wp_seq_k fun K13 hK13=>?_;refine rg h12 fun ops=>?_;clear h12 a12;refine sm trivial rfl rfl ?_;refine sm trivial rfl rfl ?_;refine sm trivial rfl rfl ?_;refine siTypes hp1.out hlt1 trivial rfl rfl rfl ?_;refine sSE Tryz.underlying78 rfl (rangeAt_bel E1.out hW6.bel) infType trivial rfl rfl ?_;refine sv_10 cf173 hW6 (canB1_any) trivial rfl rfl rfl ?_;clear hW6;intro w14 hW14;refine St.nil fun a15 h15=>?_;refine hK13 _ _ ?_;refine fr_cond (t:=16) h15 rfl (fun hb=>?_) (fun hb=>?_)
   ·have h9:¬ t.kind=1:=bne_iff_ne.1 hb
    have hne:¬ t.kind=1:=h9;clear h9;clear hb;refine wp_seq_k fun K16 hK16=>?_;refine rg h15 fun ops=>?_;clear h15 a15;refine sm trivial rfl rfl ?_;refine sa trivial rfl rfl ?_;refine St.nil fun a17 h17=>?_;refine hK16 _ _ ?_;refine wp_ret ?_;with_reducible repeat first | refine of_then_ret ?_ | refine of_block_ret ?_
    have R:idxK 0 l=(q:Int):=by have:=idxK_at l q 0 t hx1.out (fun k y hk hy=>hall k y hk hy) hne;rwa [Nat.zero_add] at this
    exact ret_tmp (t:=4) h17 rfl rfl ⟨by rw [R],hW14.bel⟩
   have h9:t.kind=1:=bne_eq_false_iff_eq.1 hb;have hne:Hid (t.kind=1):=h9;clear h9;clear hb;refine wp_skip ?_;refine hK10 _ _ ?_;refine rg h15 fun ops=>?_;clear h15 a15;refine sad (by omega) trivial rfl rfl rfl ?_;refine sm trivial rfl rfl ?_;refine St.nil fun a18 h18=>?_;refine hKL _ _ (l.length - (q+1)) (by omega) ⟨q+1,by omega,rfl,?_,(h18.keep (h18.keep (h18.keep (h18.keep (h18.keep h18.nil (t:=8) rfl) (t:=7) rfl) (t:=4) rfl) (t:=0) rfl) (t:=1) rfl),hW14⟩
   ·intro j y hj hy
    by_cases e:j=q
    · subst e;rw [hx1.out] at hy;cases hy;exact hne.out
    · exact hall j y (by omega) hy
  have hge:q=l.length:=by have:=of_decide_eq_false hb;omega
  clear hb;refine wp_exit ?_;refine hK3 _ _ ?_;refine wp_seq_k fun K19 hK19=>?_;refine rg h8 fun ops=>?_;clear h8 a8;refine sa trivial rfl rfl ?_;refine St.nil fun a20 h20=>?_;refine hK19 _ _ ?_;refine wp_ret ?_;with_reducible repeat first | refine of_then_ret ?_ | refine of_block_ret ?_
  have R:idxK 0 l=-1:=idxK_no l 0 (fun k y hy=>hall k y (by have:=(List.getElem?_eq_some_iff.1 hy).1;omega) hy);exact ret_tmp (t:=4) h20 rfl rfl ⟨by rw [R],hW6.bel⟩
theorem containsF_any {n : Nat} {l : List (TT n)} {p : Option Addr} {c : Nat} {w : World} (hl0 : (typesL n).In w All l [.slice p l.length c]) (hsb : l.length ≤ 200) :
    Rd Tryz.prog 172 #[.slice p l.length c,.func (.func 173) #[] #[]] w (.bool (decide (0≤idxK 0 l))):=by
  have hl:Hid _:=hl0;clear hl0;refine fr_enter (n:=9) Tryz.func172 rfl rfl rfl ?_;intro a hF;have hW:=Wd.start w;replace hF:Fr 9 a [(0,.slice p l.length c),(1,.func (.func 173) #[] #[])]:=hF;refine wp_seq_k fun K1 hK1=>?_;refine rg hF fun ops=>?_;clear hF a;refine sa trivial rfl rfl ?_;refine St.nil fun a2 h2=>?_;refine hK1 _ _ ?_;refine wp_seq_k fun K3 hK3=>?_;refine rg h2 fun ops=>?_;clear h2 a2;refine sm trivial rfl rfl ?_;refine sm trivial rfl rfl ?_;refine sc_2 cf205 hW (indexF_any (Lay.below hl.out hW.bel) hsb) trivial rfl rfl rfl ?_;clear hW;intro w4 hW4;refine sge trivial rfl rfl rfl ?_;refine sa trivial rfl rfl ?_;refine St.nil fun a5 h5=>?_;refine hK3 _ _ ?_;refine wp_ret ?_;with_reducible repeat first | refine of_then_ret ?_ | refine of_block_ret ?_
  exact ret_tmp (t:=4) h5 rfl rfl ⟨rfl,hW4.bel⟩
def MFunc.begins {n : Nat} (x : MFunc n) : Prop := x.regs = 0 ∧ x.params.length = 0 ∧ x.results.all (fun t => t.kind == 1) = true
def MBlock.takes {n : Nat} (fn : MFunc n) (x : MBlock n) : Prop := x.regs = fn.regs ∧ x.params = fn.params
theorem takes_no {n : Nat} {fn : MFunc n} {x : MBlock n} (h : ¬ x.takes fn) : x.regs ≠ fn.regs ∨ sameL x.params fn.params = false := by
  by_cases h1:x.regs=fn.regs
  · refine .inr ?_
    cases e:sameL x.params fn.params with
    | false=>rfl
    | true=>exact absurd ⟨h1,sameL_iff.1 e⟩ h
  · exact .inl h1
theorem takes_yes {n : Nat} {fn : MFunc n} {x : MBlock n} (h : x.takes fn) : ¬ (x.regs ≠ fn.regs ∨ sameL x.params fn.params = false) := by
  rintro (h1 | h1)
  · exact h1 h.1
  · rw [sameL_iff.2 h.2] at h1;cases h1
theorem canBegin_any {n : Nat} {m : List (MFunc n)} {p : Option Addr} {c : Nat} {x : MFunc n} {fp : FP} {fi : Nat} {w : World} (hx0 : FIn w All x fp) (hs0 : x.small) :
    Rd Tryz.prog 135 #[.agg #[.slice p m.length c,.int .i64 x.regs,.slice fp.pP x.params.length fp.cP,.slice fp.pR x.results.length fp.cR,.slice fp.pB x.blocks.length fp.cB,.int .i64 (fi:Int)]] w (.bool (bdec x.begins)):=by
  have hx:Hid _:=hx0;have hs:Hid _:=hs0;clear hx0 hs0;refine fr_enter (n:=21) Tryz.func135 rfl rfl rfl ?_;intro a hF;have hW:=Wd.start w;replace hF:Fr 21 a [(0,.agg #[.slice p m.length c,.int .i64 x.regs,.slice fp.pP x.params.length fp.cP,.slice fp.pR x.results.length fp.cR,.slice fp.pB x.blocks.length fp.cB,.int .i64 (fi:Int)])]:=hF;refine wp_seq_k fun K1 hK1=>?_;refine rg hF fun ops=>?_;clear hF a;refine sB hW trivial rfl rfl ?_;clear hW;intro w2 B2 hW2 hN;clear hN;refine sa trivial rfl rfl ?_;refine St.nil fun a3 h3=>?_;refine hK1 _ _ ?_;refine wp_seq_k fun K4 hK4=>?_;refine fr_region ?_;intro ops hops;have hg4:(ops[4]?).bind (fun o:Oper=>o.dst)=some 7:=hops 4;have hg11:(ops[11]?).bind (fun o:Oper=>o.dst)=some 14:=hops 11;clear hops;refine St.go h3 ?_;clear h3 a3;refine sffuncLook1 trivial rfl rfl ?_;refine sfFunc0 trivial rfl rfl ?_;refine sbInt 0 hW2 trivial rfl rfl rfl rfl ?_;refine seq trivial rfl rfl rfl ?_;refine sm trivial rfl rfl ?_;intro a5 h5;rcases Bool.eq_false_or_eq_true (x.regs==0) with hb | hb
  ·rw [hb] at h5
   have h9:x.regs=0:=eq_of_beq hb;have hc6:Hid (x.regs=0):=h9;clear h9;clear hb;refine St.go h5 ?_;clear h5 a5;refine sffuncLook1 ⟨_,hg4,rfl,rfl⟩ rfl rfl ?_;refine sfFunc1 ⟨_,hg4,rfl,rfl⟩ rfl rfl ?_;refine sbTypes 0 hW2 ⟨_,hg4,rfl,rfl⟩ rfl rfl rfl rfl ?_;refine slTypes ⟨_,hg4,rfl,rfl⟩ rfl rfl ?_;refine seq ⟨_,hg4,rfl,rfl⟩ rfl rfl rfl ?_;refine sp trivial rfl rfl rfl ?_;refine sm trivial rfl rfl ?_;intro a7 h7;rcases Bool.eq_false_or_eq_true ((x.params.length:Int)==0) with hb | hb
   ·rw [hb] at h7
    have h9:x.params.length=0:=by have h8:=eq_of_beq hb;omega
    have hc8:Hid (x.params.length=0):=h9;clear h9;clear hb;refine St.go h7 ?_;clear h7 a7;refine sffuncLook1 ⟨_,hg11,rfl,rfl⟩ rfl rfl ?_;refine sfFunc2 ⟨_,hg11,rfl,rfl⟩ rfl rfl ?_;refine sbTypes 0 hW2 ⟨_,hg11,rfl,rfl⟩ rfl rfl rfl rfl ?_;refine sc_2 cf172 hW2 (containsF_any (Lay.below hx.out.results hW2.bel) (by have:=hs.out.2.2.1.1;omega)) ⟨_,hg11,rfl,rfl⟩ rfl rfl rfl ?_;clear hW2;intro w9 hW9;refine sn ⟨_,hg11,rfl,rfl⟩ rfl rfl ?_;refine sp trivial rfl rfl rfl ?_;refine sa trivial rfl rfl ?_;refine St.nil fun a10 h10=>?_;refine hK4 _ _ ?_;refine wp_ret ?_;with_reducible repeat first | refine of_then_ret ?_ | refine of_block_ret ?_
    have R:(!(decide (0≤idxK 0 x.results)))=true ↔ x.begins:=by
      have e1:=hc6.out;have e2:=hc8.out;have e3:=idxK_iff x.results 0;by_cases hz:0≤idxK 0 x.results
      · simp only [hz,decide_true,Bool.not_true,Bool.false_eq_true,false_iff];exact fun h=>e3.1 hz h.2.2
      · simp only [hz,decide_false,Bool.not_false,true_iff];refine ⟨e1,e2,?_⟩
        cases e:x.results.all (fun t=>t.kind==1) with
        | true=>rfl
        | false=>exact absurd (e3.2 (by rw [e];decide)) hz
    exact ret_tmp (t:=2) h10 rfl rfl ⟨by rw [← bdec_of R],hW9.bel⟩
   rw [hb] at h7;have h9:¬ x.params.length=0:=by have h8:=ne_of_beq_false hb;omega
   have hc11:¬ x.params.length=0:=h9;clear h9;clear hb;refine St.go h7 ?_;clear h7 a7;refine so hg11 rfl rfl rfl rfl ?_;refine so hg11 rfl rfl rfl rfl ?_;refine so hg11 rfl rfl rfl rfl ?_;refine so hg11 rfl rfl rfl rfl ?_;refine so hg11 rfl rfl rfl rfl ?_;refine spf trivial rfl rfl rfl ?_;refine sa trivial rfl rfl ?_;refine St.nil fun a12 h12=>?_;refine hK4 _ _ ?_;refine wp_ret ?_;with_reducible repeat first | refine of_then_ret ?_ | refine of_block_ret ?_
   have R:¬ x.begins:=fun h=>hc11 h.2.1;exact ret_tmp (t:=2) h12 rfl rfl ⟨by rw [bdec_false R],hW2.bel⟩
  rw [hb] at h5;have h9:¬ x.regs=0:=ne_of_beq_false hb;have hc13:¬ x.regs=0:=h9;clear h9;clear hb;refine St.go h5 ?_;clear h5 a5;refine so hg4 rfl rfl rfl rfl ?_;refine so hg4 rfl rfl rfl rfl ?_;refine so hg4 rfl rfl rfl rfl ?_;refine so hg4 rfl rfl rfl rfl ?_;refine so hg4 rfl rfl rfl rfl ?_;refine spf trivial rfl rfl rfl ?_;refine sm trivial rfl rfl ?_;refine so hg11 rfl rfl rfl rfl ?_;refine so hg11 rfl rfl rfl rfl ?_;refine so hg11 rfl rfl rfl rfl ?_;refine so hg11 rfl rfl rfl rfl ?_;refine so hg11 rfl rfl rfl rfl ?_;refine spf trivial rfl rfl rfl ?_;refine sa trivial rfl rfl ?_;refine St.nil fun a14 h14=>?_;refine hK4 _ _ ?_;refine wp_ret ?_;with_reducible repeat first | refine of_then_ret ?_ | refine of_block_ret ?_
  have R:¬ x.begins:=fun h=>hc13 h.1;exact ret_tmp (t:=2) h14 rfl rfl ⟨by rw [bdec_false R],hW2.bel⟩
theorem takes_any {n : Nat} {m : List (MFunc n)} {p : Option Addr} {c : Nat} {x : MFunc n} {fp : FP} {fi : Nat} {y : MBlock n} {bp : BP} {bi : Nat} {w : World} (hx0 : FIn w All x fp) (hs0 : x.small) (hy0 : BIn w All y bp) (ht0 : y.small) :
    Rd Tryz.prog 174 #[.agg #[.slice p m.length c,.int .i64 x.regs,.slice fp.pP x.params.length fp.cP,.slice fp.pR x.results.length fp.cR,.slice fp.pB x.blocks.length fp.cB,.int .i64 (fi:Int),.int .i64 y.regs,.slice bp.pP y.params.length bp.cP,.slice bp.pC y.code.length bp.cC,.int .i64 y.fin.op,.int .i64 y.fin.a,.int .i64 y.fin.yes.block,.slice bp.e.pYR y.fin.yes.regs.length bp.e.cYR,.slice bp.e.pYA y.fin.yes.args.length bp.e.cYA,.int .i64 y.fin.no.block,.slice bp.e.pNR y.fin.no.regs.length bp.e.cNR,.slice bp.e.pNA y.fin.no.args.length bp.e.cNA,.slice bp.e.pA y.fin.args.length bp.e.cA,.int .i64 (bi:Int)]] w (.bool (bdec (y.takes x))):=by
  have hx:Hid _:=hx0;have hs:Hid _:=hs0;have hy:Hid _:=hy0;have ht:Hid _:=ht0;clear hx0 hs0 hy0 ht0;refine fr_enter (n:=21) Tryz.func174 rfl rfl rfl ?_;intro a hF;have hW:=Wd.start w;replace hF:Fr 21 a [(0,.agg #[.slice p m.length c,.int .i64 x.regs,.slice fp.pP x.params.length fp.cP,.slice fp.pR x.results.length fp.cR,.slice fp.pB x.blocks.length fp.cB,.int .i64 (fi:Int),.int .i64 y.regs,.slice bp.pP y.params.length bp.cP,.slice bp.pC y.code.length bp.cC,.int .i64 y.fin.op,.int .i64 y.fin.a,.int .i64 y.fin.yes.block,.slice bp.e.pYR y.fin.yes.regs.length bp.e.cYR,.slice bp.e.pYA y.fin.yes.args.length bp.e.cYA,.int .i64 y.fin.no.block,.slice bp.e.pNR y.fin.no.regs.length bp.e.cNR,.slice bp.e.pNA y.fin.no.args.length bp.e.cNA,.slice bp.e.pA y.fin.args.length bp.e.cA,.int .i64 (bi:Int)])]:=hF;refine wp_seq_k fun K1 hK1=>?_;refine rg hF fun ops=>?_;clear hF a;refine sB hW trivial rfl rfl ?_;clear hW;intro w2 B2 hW2 hN;clear hN;refine sa trivial rfl rfl ?_;refine St.nil fun a3 h3=>?_;refine hK1 _ _ ?_;refine wp_seq_k fun K4 hK4=>?_;refine fr_region ?_;intro ops hops;have hg8:(ops[8]?).bind (fun o:Oper=>o.dst)=some 11:=hops 8;clear hops;refine St.go h3 ?_;clear h3 a3;refine sfblockLook1 trivial rfl rfl ?_;refine sfBlock0 trivial rfl rfl ?_;refine sbInt 0 hW2 trivial rfl rfl rfl rfl ?_;refine sfblockLook0 trivial rfl rfl ?_;refine sffuncLook1 trivial rfl rfl ?_;refine sfFunc0 trivial rfl rfl ?_;refine sbInt 0 hW2 trivial rfl rfl rfl rfl ?_;refine seq trivial rfl rfl rfl ?_;refine sm trivial rfl rfl ?_;intro a5 h5;rcases Bool.eq_false_or_eq_true (y.regs==x.regs) with hb | hb
  ·rw [hb] at h5
   have h9:y.regs=x.regs:=eq_of_beq hb;have hc6:Hid (y.regs=x.regs):=h9;clear h9;clear hb;refine St.go h5 ?_;clear h5 a5;refine sfblockLook1 ⟨_,hg8,rfl,rfl⟩ rfl rfl ?_;refine sfBlock1 ⟨_,hg8,rfl,rfl⟩ rfl rfl ?_;refine sbTypes 0 hW2 ⟨_,hg8,rfl,rfl⟩ rfl rfl rfl rfl ?_;refine sfblockLook0 ⟨_,hg8,rfl,rfl⟩ rfl rfl ?_;refine sffuncLook1 ⟨_,hg8,rfl,rfl⟩ rfl rfl ?_;refine sfFunc1 ⟨_,hg8,rfl,rfl⟩ rfl rfl ?_;refine sbTypes 0 hW2 ⟨_,hg8,rfl,rfl⟩ rfl rfl rfl rfl ?_;refine sc_3 cf206 hW2 (eqTypes_any (Lay.below hy.out.params hW2.bel) (Lay.below hx.out.params hW2.bel) ht.out.2.1) ⟨_,hg8,rfl,rfl⟩ rfl rfl rfl rfl ?_;clear hW2;intro w7 hW7;refine sp trivial rfl rfl rfl ?_;refine sa trivial rfl rfl ?_;refine St.nil fun a8 h8=>?_;refine hK4 _ _ ?_;refine wp_ret ?_;with_reducible repeat first | refine of_then_ret ?_ | refine of_block_ret ?_
   have R:y.params=x.params ↔ y.takes x:=⟨fun h=>⟨hc6.out,h⟩,fun h=>h.2⟩;exact ret_tmp (t:=2) h8 rfl rfl ⟨by rw [bdec_congr R],hW7.bel⟩
  rw [hb] at h5;have h9:¬ y.regs=x.regs:=ne_of_beq_false hb;have hc9:¬ y.regs=x.regs:=h9;clear h9;clear hb;refine St.go h5 ?_;clear h5 a5;refine so hg8 rfl rfl rfl rfl ?_;refine so hg8 rfl rfl rfl rfl ?_;refine so hg8 rfl rfl rfl rfl ?_;refine so hg8 rfl rfl rfl rfl ?_;refine so hg8 rfl rfl rfl rfl ?_;refine so hg8 rfl rfl rfl rfl ?_;refine so hg8 rfl rfl rfl rfl ?_;refine so hg8 rfl rfl rfl rfl ?_;refine spf trivial rfl rfl rfl ?_;refine sa trivial rfl rfl ?_;refine St.nil fun a10 h10=>?_;refine hK4 _ _ ?_;refine wp_ret ?_;with_reducible repeat first | refine of_then_ret ?_ | refine of_block_ret ?_
  have R:¬ y.takes x:=fun h=>hc9 h.1;exact ret_tmp (t:=2) h10 rfl rfl ⟨by rw [bdec_false R],hW2.bel⟩
theorem funcCode_any {n : Nat} {m : List (MFunc n)} {p : Option Addr} {c : Nat} {x : MFunc n} {fp : FP} {fi : Nat} {w : World} (hx0 : FIn w All x fp) (hs0 : x.small) :
    Rd Tryz.prog 104 #[.agg #[.slice p m.length c,.int .i64 x.regs,.slice fp.pP x.params.length fp.cP,.slice fp.pR x.results.length fp.cR,.slice fp.pB x.blocks.length fp.cB,.int .i64 (fi:Int)]] w (.int .i64 (x.code fi)):=by
  have hx:Hid _:=hx0;have hs:Hid _:=hs0;clear hx0 hs0;refine fr_enter (n:=55) Tryz.func104 rfl rfl rfl ?_;intro a hF;have hW:=Wd.start w;replace hF:Fr 55 a [(0,.agg #[.slice p m.length c,.int .i64 x.regs,.slice fp.pP x.params.length fp.cP,.slice fp.pR x.results.length fp.cR,.slice fp.pB x.blocks.length fp.cB,.int .i64 (fi:Int)])]:=hF;refine wp_seq_k fun K1 hK1=>?_;refine rg hF fun ops=>?_;clear hF a;refine sB hW trivial rfl rfl ?_;clear hW;intro w2 B2 hW2 hN;clear hN;refine sa trivial rfl rfl ?_;refine St.nil fun a3 h3=>?_;refine hK1 _ _ ?_;refine wp_seq_k fun K4 hK4=>?_;refine wp_seq_k fun K5 hK5=>?_;refine fr_region ?_;intro ops hops;have hg4:(ops[4]?).bind (fun o:Oper=>o.dst)=some 9:=hops 4;clear hops;refine St.go h3 ?_;clear h3 a3;refine sffuncLook1 trivial rfl rfl ?_;refine sfFunc0 trivial rfl rfl ?_;refine sbInt 0 hW2 trivial rfl rfl rfl rfl ?_;refine slt trivial rfl rfl rfl ?_;refine sm trivial rfl rfl ?_;intro a6 h6;rcases Bool.eq_false_or_eq_true (decide (x.regs<0)) with hb | hb
  ·rw [hb] at h6
   have hc7:x.regs<0:=of_decide_eq_true hb;clear hb;refine St.go h6 ?_;clear h6 a6;refine so hg4 rfl rfl rfl rfl ?_;refine so hg4 rfl rfl rfl rfl ?_;refine so hg4 rfl rfl rfl rfl ?_;refine so hg4 rfl rfl rfl rfl ?_;refine sp trivial rfl rfl rfl ?_;refine St.nil fun a8 h8=>?_;refine hK5 _ _ ?_;refine fr_true (t:=14) h8 rfl ?_;refine wp_seq_k fun K9 hK9=>?_;refine rg h8 fun ops=>?_;clear h8 a8;refine sa trivial rfl rfl ?_;refine St.nil fun a10 h10=>?_;refine hK9 _ _ ?_;refine wp_ret ?_;with_reducible repeat first | refine of_then_ret ?_ | refine of_block_ret ?_
   have R:x.code fi=1:=if_pos (by omega);exact ret_tmp (t:=2) h10 rfl rfl ⟨by rw [R],hW2.bel⟩
  rw [hb] at h6;have hc11:¬ (x.regs<0):=of_decide_eq_false hb;clear hb;refine St.go h6 ?_;clear h6 a6;refine sffuncLook1 ⟨_,hg4,rfl,rfl⟩ rfl rfl ?_;refine sfFunc0 ⟨_,hg4,rfl,rfl⟩ rfl rfl ?_;refine sbInt 0 hW2 ⟨_,hg4,rfl,rfl⟩ rfl rfl rfl rfl ?_;refine sgt ⟨_,hg4,rfl,rfl⟩ rfl rfl rfl ?_;refine spf trivial rfl rfl rfl ?_;refine St.nil fun a12 h12=>?_;refine hK5 _ _ ?_;refine fr_cond (t:=14) h12 rfl (fun hb=>?_) (fun hb=>?_)
  ·have hc13:6<x.regs:=of_decide_eq_true hb
   clear hb;refine wp_seq_k fun K14 hK14=>?_;refine rg h12 fun ops=>?_;clear h12 a12;refine sa trivial rfl rfl ?_;refine St.nil fun a15 h15=>?_;refine hK14 _ _ ?_;refine wp_ret ?_;with_reducible repeat first | refine of_then_ret ?_ | refine of_block_ret ?_
   have R:x.code fi=1:=if_pos (by omega);exact ret_tmp (t:=2) h15 rfl rfl ⟨by rw [R],hW2.bel⟩
  have hc16:¬ (6<x.regs):=of_decide_eq_false hb;clear hb;refine wp_skip ?_;refine hK4 _ _ ?_;refine wp_seq_k fun K17 hK17=>?_;refine wp_seq_k fun K18 hK18=>?_;refine rg h12 fun ops=>?_;clear h12 a12;refine sffuncLook1 trivial rfl rfl ?_;refine sfFunc1 trivial rfl rfl ?_;refine sbTypes 0 hW2 trivial rfl rfl rfl rfl ?_;refine sffuncLook1 trivial rfl rfl ?_;refine sfFunc0 trivial rfl rfl ?_;refine sbInt 0 hW2 trivial rfl rfl rfl rfl ?_;refine sc_2 cf134 hW2 (typesCode_any (regs:=x.regs) (Lay.below hx.out.params hW2.bel) hs.out.2.1) trivial rfl rfl rfl ?_;clear hW2;intro w19 hW19;refine sa trivial rfl rfl ?_;refine St.nil fun a20 h20=>?_;refine hK18 _ _ ?_;refine wp_seq_k fun K21 hK21=>?_;refine rg h20 fun ops=>?_;clear h20 a20;refine sm trivial rfl rfl ?_;refine sne trivial rfl rfl rfl ?_;refine St.nil fun a22 h22=>?_;refine hK21 _ _ ?_;refine fr_cond (t:=23) h22 rfl (fun hb=>?_) (fun hb=>?_)
  ·have h9:¬ (listC x.regs x.params)=0:=bne_iff_ne.1 hb
   have hc23:¬ (listC x.regs x.params)=0:=h9;clear h9;clear hb;refine wp_seq_k fun K24 hK24=>?_;refine rg h22 fun ops=>?_;clear h22 a22;refine sm trivial rfl rfl ?_;refine sa trivial rfl rfl ?_;refine St.nil fun a25 h25=>?_;refine hK24 _ _ ?_;refine wp_ret ?_;with_reducible repeat first | refine of_then_ret ?_ | refine of_block_ret ?_
   have R:x.code fi=listC x.regs x.params:=(if_neg (by omega)).trans (if_pos (by omega));exact ret_tmp (t:=2) h25 rfl rfl ⟨by rw [R],hW19.bel⟩
  have h9:(listC x.regs x.params)=0:=bne_eq_false_iff_eq.1 hb;have hc26:Hid ((listC x.regs x.params)=0):=h9;clear h9;clear hb;refine wp_skip ?_;refine hK17 _ _ ?_;refine wp_seq_k fun K27 hK27=>?_;refine wp_seq_k fun K28 hK28=>?_;refine rg h22 fun ops=>?_;clear h22 a22;refine sffuncLook1 trivial rfl rfl ?_;refine sfFunc2 trivial rfl rfl ?_;refine sbTypes 0 hW19 trivial rfl rfl rfl rfl ?_;refine sffuncLook1 trivial rfl rfl ?_;refine sfFunc0 trivial rfl rfl ?_;refine sbInt 0 hW19 trivial rfl rfl rfl rfl ?_;refine sc_2 cf134 hW19 (typesCode_any (regs:=x.regs) (Lay.below hx.out.results hW19.bel) hs.out.2.2.1) trivial rfl rfl rfl ?_;clear hW19;intro w29 hW29;refine sa trivial rfl rfl ?_;refine St.nil fun a30 h30=>?_;refine hK28 _ _ ?_;refine wp_seq_k fun K31 hK31=>?_;refine rg h30 fun ops=>?_;clear h30 a30;refine sm trivial rfl rfl ?_;refine sne trivial rfl rfl rfl ?_;refine St.nil fun a32 h32=>?_;refine hK31 _ _ ?_;refine fr_cond (t:=33) h32 rfl (fun hb=>?_) (fun hb=>?_)
  ·have h9:¬ (listC x.regs x.results)=0:=bne_iff_ne.1 hb
   have hc33:¬ (listC x.regs x.results)=0:=h9;clear h9;clear hb;refine wp_seq_k fun K34 hK34=>?_;refine rg h32 fun ops=>?_;clear h32 a32;refine sm trivial rfl rfl ?_;refine sa trivial rfl rfl ?_;refine St.nil fun a35 h35=>?_;refine hK34 _ _ ?_;refine wp_ret ?_;with_reducible repeat first | refine of_then_ret ?_ | refine of_block_ret ?_
   have:=hc26.out
   have R:x.code fi=listC x.regs x.results:=(if_neg (by omega)).trans ((if_neg (by omega)).trans (if_pos (by omega)));exact ret_tmp (t:=2) h35 rfl rfl ⟨by rw [R],hW29.bel⟩
  have h9:(listC x.regs x.results)=0:=bne_eq_false_iff_eq.1 hb;have hc36:Hid ((listC x.regs x.results)=0):=h9;clear h9;clear hb;refine wp_skip ?_;refine hK27 _ _ ?_;refine wp_seq_k fun K37 hK37=>?_;refine wp_seq_k fun K38 hK38=>?_;refine fr_region ?_;intro ops hops;have hg5:(ops[5]?).bind (fun o:Oper=>o.dst)=some 40:=hops 5;clear hops;refine St.go h32 ?_;clear h32 a32;refine sffuncLook1 trivial rfl rfl ?_;refine sfFunc3 trivial rfl rfl ?_;refine sbBlocks 0 hW29 trivial rfl rfl rfl rfl ?_;refine slBlocks trivial rfl rfl ?_;refine slt trivial rfl rfl rfl ?_;refine sm trivial rfl rfl ?_;intro a39 h39;rcases Bool.eq_false_or_eq_true (decide ((x.blocks.length:Int)<1)) with hb | hb
  ·rw [hb] at h39
   have hc40:x.blocks.length<1:=by have:=of_decide_eq_true hb;omega
   clear hb;refine St.go h39 ?_;clear h39 a39;refine so hg5 rfl rfl rfl rfl ?_;refine so hg5 rfl rfl rfl rfl ?_;refine so hg5 rfl rfl rfl rfl ?_;refine so hg5 rfl rfl rfl rfl ?_;refine so hg5 rfl rfl rfl rfl ?_;refine sp trivial rfl rfl rfl ?_;refine St.nil fun a41 h41=>?_;refine hK38 _ _ ?_;refine fr_true (t:=46) h41 rfl ?_;refine wp_seq_k fun K42 hK42=>?_;refine rg h41 fun ops=>?_;clear h41 a41;refine sa trivial rfl rfl ?_;refine St.nil fun a43 h43=>?_;refine hK42 _ _ ?_;refine wp_ret ?_;with_reducible repeat first | refine of_then_ret ?_ | refine of_block_ret ?_
   have:=hc26.out
   have:=hc36.out
   have R:x.code fi=2:=(if_neg (by omega)).trans ((if_neg (by omega)).trans ((if_neg (by omega)).trans (if_pos (by omega))));exact ret_tmp (t:=2) h43 rfl rfl ⟨by rw [R],hW29.bel⟩
  rw [hb] at h39;have hc44:¬ (x.blocks.length<1):=by have:=of_decide_eq_false hb;omega
  clear hb;refine St.go h39 ?_;clear h39 a39;refine sffuncLook1 ⟨_,hg5,rfl,rfl⟩ rfl rfl ?_;refine sfFunc3 ⟨_,hg5,rfl,rfl⟩ rfl rfl ?_;refine sbBlocks 0 hW29 ⟨_,hg5,rfl,rfl⟩ rfl rfl rfl rfl ?_;refine slBlocks ⟨_,hg5,rfl,rfl⟩ rfl rfl ?_;refine sgt ⟨_,hg5,rfl,rfl⟩ rfl rfl rfl ?_;refine spf trivial rfl rfl rfl ?_;refine St.nil fun a45 h45=>?_;refine hK38 _ _ ?_;refine fr_cond (t:=46) h45 rfl (fun hb=>?_) (fun hb=>?_)
  ·have hc46:12<x.blocks.length:=by have:=of_decide_eq_true hb;omega
   clear hb;refine wp_seq_k fun K47 hK47=>?_;refine rg h45 fun ops=>?_;clear h45 a45;refine sa trivial rfl rfl ?_;refine St.nil fun a48 h48=>?_;refine hK47 _ _ ?_;refine wp_ret ?_;with_reducible repeat first | refine of_then_ret ?_ | refine of_block_ret ?_
   have:=hc26.out
   have:=hc36.out
   have R:x.code fi=2:=(if_neg (by omega)).trans ((if_neg (by omega)).trans ((if_neg (by omega)).trans (if_pos (by omega))));exact ret_tmp (t:=2) h48 rfl rfl ⟨by rw [R],hW29.bel⟩
  have hc49:¬ (12<x.blocks.length):=by have:=of_decide_eq_false hb;omega
  clear hb;refine wp_skip ?_;refine hK37 _ _ ?_;refine wp_seq_k fun K50 hK50=>?_;refine wp_seq_k fun K51 hK51=>?_;refine fr_region ?_;intro ops hops;have hg3:(ops[3]?).bind (fun o:Oper=>o.dst)=some 50:=hops 3;clear hops;refine St.go h45 ?_;clear h45 a45;refine sffuncLook2 trivial rfl rfl ?_;refine sbInt 0 hW29 trivial rfl rfl rfl rfl ?_;refine seq trivial rfl rfl rfl ?_;refine sm trivial rfl rfl ?_;intro a52 h52;rcases Bool.eq_false_or_eq_true ((fi:Int)==0) with hb | hb
  ·rw [hb] at h52
   have h9:fi=0:=by have h8:=eq_of_beq hb;omega
   have hc53:Hid (fi=0):=h9;clear h9;clear hb;refine St.go h52 ?_;clear h52 a52;refine sS 0 6 Tryz.underlying106 rfl inffuncLook hW29 ⟨_,hg3,rfl,rfl⟩ rfl rfl rfl rfl ?_;refine sc_1 cf135 hW29 (canBegin_any (m:=m) (p:=p) (c:=c) (fi:=fi) (hx.out.below hW29.bel) hs.out) ⟨_,hg3,rfl,rfl⟩ rfl rfl ?_;clear hW29;intro w54 hW54;refine sn ⟨_,hg3,rfl,rfl⟩ rfl rfl ?_;refine sp trivial rfl rfl rfl ?_;refine St.nil fun a55 h55=>?_;refine hK51 _ _ ?_;refine fr_cond (t:=54) h55 rfl (fun hb=>?_) (fun hb=>?_)
   ·have hb:(bdec (x.begins))=false:=by simpa using hb
    have hc56:¬ (x.begins):=fun h=>by rw [bdec_true h] at hb;cases hb
    clear hb;refine wp_seq_k fun K57 hK57=>?_;refine rg h55 fun ops=>?_;clear h55 a55;refine sa trivial rfl rfl ?_;refine St.nil fun a58 h58=>?_;refine hK57 _ _ ?_;refine wp_ret ?_;with_reducible repeat first | refine of_then_ret ?_ | refine of_block_ret ?_
    have:=hc26.out
    have:=hc36.out
    have:=hc53.out
    have R:x.code fi=18:=(if_neg (by omega)).trans ((if_neg (by omega)).trans ((if_neg (by omega)).trans ((if_neg (by omega)).trans (if_pos (⟨by omega,hc56⟩)))));exact ret_tmp (t:=2) h58 rfl rfl ⟨by rw [R],hW54.bel⟩
   have hb:(bdec (x.begins))=true:=by simpa using hb
   have hc59:(x.begins):=bdec_iff.1 hb;clear hb;refine wp_skip ?_;refine hK50 _ _ ?_;refine wp_seq_k fun K60 hK60=>?_;refine rg h55 fun ops=>?_;clear h55 a55;refine sa trivial rfl rfl ?_;refine St.nil fun a61 h61=>?_;refine hK60 _ _ ?_;refine wp_ret ?_;with_reducible repeat first | refine of_then_ret ?_ | refine of_block_ret ?_
   have:=hc26.out
   have:=hc36.out
   have:=hc53.out
   have R:x.code fi=0:=(if_neg (by omega)).trans ((if_neg (by omega)).trans ((if_neg (by omega)).trans ((if_neg (by omega)).trans ((if_neg (fun h=>h.2 hc59)).trans (rfl)))));exact ret_tmp (t:=2) h61 rfl rfl ⟨by rw [R],hW54.bel⟩
  rw [hb] at h52;have h9:¬ fi=0:=by have h8:=ne_of_beq_false hb;omega
  have hc62:¬ fi=0:=h9;clear h9;clear hb;refine St.go h52 ?_;clear h52 a52;refine so hg3 rfl rfl rfl rfl ?_;refine so hg3 rfl rfl rfl rfl ?_;refine so hg3 rfl rfl rfl rfl ?_;refine spf trivial rfl rfl rfl ?_;refine St.nil fun a63 h63=>?_;refine hK51 _ _ ?_;refine fr_false (t:=54) h63 rfl ?_;refine wp_skip ?_;refine hK50 _ _ ?_;refine wp_seq_k fun K64 hK64=>?_;refine rg h63 fun ops=>?_;clear h63 a63;refine sa trivial rfl rfl ?_;refine St.nil fun a65 h65=>?_;refine hK64 _ _ ?_;refine wp_ret ?_;with_reducible repeat first | refine of_then_ret ?_ | refine of_block_ret ?_
  have:=hc26.out
  have:=hc36.out
  have R:x.code fi=0:=(if_neg (by omega)).trans ((if_neg (by omega)).trans ((if_neg (by omega)).trans ((if_neg (by omega)).trans ((if_neg (by omega)).trans (rfl)))));exact ret_tmp (t:=2) h65 rfl rfl ⟨by rw [R],hW29.bel⟩
theorem blockCode_any {n : Nat} {m : List (MFunc n)} {p : Option Addr} {c : Nat} {x : MFunc n} {fp : FP} {fi : Nat} {y : MBlock n} {bp : BP} {bi : Nat} {w : World} (hx0 : FIn w All x fp) (hs0 : x.small) (hy0 : BIn w All y bp) (ht0 : y.small) :
    Rd Tryz.prog 136 #[.agg #[.slice p m.length c,.int .i64 x.regs,.slice fp.pP x.params.length fp.cP,.slice fp.pR x.results.length fp.cR,.slice fp.pB x.blocks.length fp.cB,.int .i64 (fi:Int),.int .i64 y.regs,.slice bp.pP y.params.length bp.cP,.slice bp.pC y.code.length bp.cC,.int .i64 y.fin.op,.int .i64 y.fin.a,.int .i64 y.fin.yes.block,.slice bp.e.pYR y.fin.yes.regs.length bp.e.cYR,.slice bp.e.pYA y.fin.yes.args.length bp.e.cYA,.int .i64 y.fin.no.block,.slice bp.e.pNR y.fin.no.regs.length bp.e.cNR,.slice bp.e.pNA y.fin.no.args.length bp.e.cNA,.slice bp.e.pA y.fin.args.length bp.e.cA,.int .i64 (bi:Int)]] w (.int .i64 (y.code' x bi)):=by
  have hx:Hid _:=hx0;have hs:Hid _:=hs0;have hy:Hid _:=hy0;have ht:Hid _:=ht0;clear hx0 hs0 hy0 ht0;refine fr_enter (n:=41) Tryz.func136 rfl rfl rfl ?_;intro a hF;have hW:=Wd.start w;replace hF:Fr 41 a [(0,.agg #[.slice p m.length c,.int .i64 x.regs,.slice fp.pP x.params.length fp.cP,.slice fp.pR x.results.length fp.cR,.slice fp.pB x.blocks.length fp.cB,.int .i64 (fi:Int),.int .i64 y.regs,.slice bp.pP y.params.length bp.cP,.slice bp.pC y.code.length bp.cC,.int .i64 y.fin.op,.int .i64 y.fin.a,.int .i64 y.fin.yes.block,.slice bp.e.pYR y.fin.yes.regs.length bp.e.cYR,.slice bp.e.pYA y.fin.yes.args.length bp.e.cYA,.int .i64 y.fin.no.block,.slice bp.e.pNR y.fin.no.regs.length bp.e.cNR,.slice bp.e.pNA y.fin.no.args.length bp.e.cNA,.slice bp.e.pA y.fin.args.length bp.e.cA,.int .i64 (bi:Int)])]:=hF;refine wp_seq_k fun K1 hK1=>?_;refine rg hF fun ops=>?_;clear hF a;refine sB hW trivial rfl rfl ?_;clear hW;intro w2 B2 hW2 hN;clear hN;refine sa trivial rfl rfl ?_;refine St.nil fun a3 h3=>?_;refine hK1 _ _ ?_;refine wp_seq_k fun K4 hK4=>?_;refine wp_seq_k fun K5 hK5=>?_;refine fr_region ?_;intro ops hops;have hg8:(ops[8]?).bind (fun o:Oper=>o.dst)=some 12:=hops 8;clear hops;refine St.go h3 ?_;clear h3 a3;refine sfblockLook1 trivial rfl rfl ?_;refine sfBlock0 trivial rfl rfl ?_;refine sbInt 0 hW2 trivial rfl rfl rfl rfl ?_;refine sfblockLook0 trivial rfl rfl ?_;refine sffuncLook1 trivial rfl rfl ?_;refine sfFunc0 trivial rfl rfl ?_;refine sbInt 0 hW2 trivial rfl rfl rfl rfl ?_;refine slt trivial rfl rfl rfl ?_;refine sm trivial rfl rfl ?_;intro a6 h6;rcases Bool.eq_false_or_eq_true (decide (y.regs<x.regs)) with hb | hb
  ·rw [hb] at h6
   have hc7:y.regs<x.regs:=of_decide_eq_true hb;clear hb;refine St.go h6 ?_;clear h6 a6;refine so hg8 rfl rfl rfl rfl ?_;refine so hg8 rfl rfl rfl rfl ?_;refine so hg8 rfl rfl rfl rfl ?_;refine so hg8 rfl rfl rfl rfl ?_;refine sp trivial rfl rfl rfl ?_;refine St.nil fun a8 h8=>?_;refine hK5 _ _ ?_;refine fr_true (t:=17) h8 rfl ?_;refine wp_seq_k fun K9 hK9=>?_;refine rg h8 fun ops=>?_;clear h8 a8;refine sa trivial rfl rfl ?_;refine St.nil fun a10 h10=>?_;refine hK9 _ _ ?_;refine wp_ret ?_;with_reducible repeat first | refine of_then_ret ?_ | refine of_block_ret ?_
   have R:y.code' x bi=1:=if_pos (by omega);exact ret_tmp (t:=2) h10 rfl rfl ⟨by rw [R],hW2.bel⟩
  rw [hb] at h6;have hc11:¬ (y.regs<x.regs):=of_decide_eq_false hb;clear hb;refine St.go h6 ?_;clear h6 a6;refine sfblockLook1 ⟨_,hg8,rfl,rfl⟩ rfl rfl ?_;refine sfBlock0 ⟨_,hg8,rfl,rfl⟩ rfl rfl ?_;refine sbInt 0 hW2 ⟨_,hg8,rfl,rfl⟩ rfl rfl rfl rfl ?_;refine sgt ⟨_,hg8,rfl,rfl⟩ rfl rfl rfl ?_;refine spf trivial rfl rfl rfl ?_;refine St.nil fun a12 h12=>?_;refine hK5 _ _ ?_;refine fr_cond (t:=17) h12 rfl (fun hb=>?_) (fun hb=>?_)
  ·have hc13:16<y.regs:=of_decide_eq_true hb
   clear hb;refine wp_seq_k fun K14 hK14=>?_;refine rg h12 fun ops=>?_;clear h12 a12;refine sa trivial rfl rfl ?_;refine St.nil fun a15 h15=>?_;refine hK14 _ _ ?_;refine wp_ret ?_;with_reducible repeat first | refine of_then_ret ?_ | refine of_block_ret ?_
   have R:y.code' x bi=1:=if_pos (by omega);exact ret_tmp (t:=2) h15 rfl rfl ⟨by rw [R],hW2.bel⟩
  have hc16:¬ (16<y.regs):=of_decide_eq_false hb;clear hb;refine wp_skip ?_;refine hK4 _ _ ?_;refine wp_seq_k fun K17 hK17=>?_;refine wp_seq_k fun K18 hK18=>?_;refine rg h12 fun ops=>?_;clear h12 a12;refine sfblockLook1 trivial rfl rfl ?_;refine sfBlock1 trivial rfl rfl ?_;refine sbTypes 0 hW2 trivial rfl rfl rfl rfl ?_;refine sfblockLook1 trivial rfl rfl ?_;refine sfBlock0 trivial rfl rfl ?_;refine sbInt 0 hW2 trivial rfl rfl rfl rfl ?_;refine sc_2 cf134 hW2 (typesCode_any (regs:=y.regs) (Lay.below hy.out.params hW2.bel) ht.out.2.1) trivial rfl rfl rfl ?_;clear hW2;intro w19 hW19;refine sa trivial rfl rfl ?_;refine St.nil fun a20 h20=>?_;refine hK18 _ _ ?_;refine wp_seq_k fun K21 hK21=>?_;refine rg h20 fun ops=>?_;clear h20 a20;refine sm trivial rfl rfl ?_;refine sne trivial rfl rfl rfl ?_;refine St.nil fun a22 h22=>?_;refine hK21 _ _ ?_;refine fr_cond (t:=26) h22 rfl (fun hb=>?_) (fun hb=>?_)
  ·have h9:¬ (listC y.regs y.params)=0:=bne_iff_ne.1 hb
   have hc23:¬ (listC y.regs y.params)=0:=h9;clear h9;clear hb;refine wp_seq_k fun K24 hK24=>?_;refine rg h22 fun ops=>?_;clear h22 a22;refine sm trivial rfl rfl ?_;refine sa trivial rfl rfl ?_;refine St.nil fun a25 h25=>?_;refine hK24 _ _ ?_;refine wp_ret ?_;with_reducible repeat first | refine of_then_ret ?_ | refine of_block_ret ?_
   have R:y.code' x bi=listC y.regs y.params:=(if_neg (by omega)).trans (if_pos (by omega));exact ret_tmp (t:=2) h25 rfl rfl ⟨by rw [R],hW19.bel⟩
  have h9:(listC y.regs y.params)=0:=bne_eq_false_iff_eq.1 hb;have hc26:Hid ((listC y.regs y.params)=0):=h9;clear h9;clear hb;refine wp_skip ?_;refine hK17 _ _ ?_;refine wp_seq_k fun K27 hK27=>?_;refine wp_seq_k fun K28 hK28=>?_;refine fr_region ?_;intro ops hops;have hg3:(ops[3]?).bind (fun o:Oper=>o.dst)=some 31:=hops 3;clear hops;refine St.go h22 ?_;clear h22 a22;refine sfblockLook2 trivial rfl rfl ?_;refine sbInt 0 hW19 trivial rfl rfl rfl rfl ?_;refine seq trivial rfl rfl rfl ?_;refine sm trivial rfl rfl ?_;intro a29 h29;rcases Bool.eq_false_or_eq_true ((bi:Int)==0) with hb | hb
  ·rw [hb] at h29
   have h9:bi=0:=by have h8:=eq_of_beq hb;omega
   have hc30:Hid (bi=0):=h9;clear h9;clear hb;refine St.go h29 ?_;clear h29 a29;refine sS 0 19 Tryz.underlying148 rfl infblockLook hW19 ⟨_,hg3,rfl,rfl⟩ rfl rfl rfl rfl ?_;refine sc_1 cf174 hW19 (takes_any (m:=m) (p:=p) (c:=c) (fi:=fi) (bi:=bi) (hx.out.below hW19.bel) hs.out (hy.out.below hW19.bel) ht.out) ⟨_,hg3,rfl,rfl⟩ rfl rfl ?_;clear hW19;intro w31 hW31;refine sn ⟨_,hg3,rfl,rfl⟩ rfl rfl ?_;refine sp trivial rfl rfl rfl ?_;refine St.nil fun a32 h32=>?_;refine hK28 _ _ ?_;refine fr_cond (t:=35) h32 rfl (fun hb=>?_) (fun hb=>?_)
   ·have hb:(bdec (y.takes x))=false:=by simpa using hb
    have hc33:¬ (y.takes x):=fun h=>by rw [bdec_true h] at hb;cases hb
    clear hb;refine wp_seq_k fun K34 hK34=>?_;refine rg h32 fun ops=>?_;clear h32 a32;refine sa trivial rfl rfl ?_;refine St.nil fun a35 h35=>?_;refine hK34 _ _ ?_;refine wp_ret ?_;with_reducible repeat first | refine of_then_ret ?_ | refine of_block_ret ?_
    have:=hc26.out
    have:=hc30.out
    have R:y.code' x bi=9:=(if_neg (by omega)).trans ((if_neg (by omega)).trans (if_pos (⟨by omega,takes_no hc33⟩)));exact ret_tmp (t:=2) h35 rfl rfl ⟨by rw [R],hW31.bel⟩
   have hb:(bdec (y.takes x))=true:=by simpa using hb
   have hc36:(y.takes x):=bdec_iff.1 hb;clear hb;refine wp_skip ?_;refine hK27 _ _ ?_;refine wp_seq_k fun K37 hK37=>?_;refine wp_seq_k fun K38 hK38=>?_;refine rg h32 fun ops=>?_;clear h32 a32;refine sfblockLook1 trivial rfl rfl ?_;refine sfBlock2 trivial rfl rfl ?_;refine sbInss 0 hW31 trivial rfl rfl rfl rfl ?_;refine slInss trivial rfl rfl ?_;refine sgt trivial rfl rfl rfl ?_;refine St.nil fun a39 h39=>?_;refine hK38 _ _ ?_;refine fr_cond (t:=40) h39 rfl (fun hb=>?_) (fun hb=>?_)
   ·have hc40:40<y.code.length:=by have:=of_decide_eq_true hb;omega
    clear hb;refine wp_seq_k fun K41 hK41=>?_;refine rg h39 fun ops=>?_;clear h39 a39;refine sa trivial rfl rfl ?_;refine St.nil fun a42 h42=>?_;refine hK41 _ _ ?_;refine wp_ret ?_;with_reducible repeat first | refine of_then_ret ?_ | refine of_block_ret ?_
    have:=hc26.out
    have:=hc30.out
    have R:y.code' x bi=2:=(if_neg (by omega)).trans ((if_neg (by omega)).trans ((if_neg (fun h=>takes_yes hc36 h.2)).trans (if_pos (by omega))));exact ret_tmp (t:=2) h42 rfl rfl ⟨by rw [R],hW31.bel⟩
   have hc43:¬ (40<y.code.length):=by have:=of_decide_eq_false hb;omega
   clear hb;refine wp_skip ?_;refine hK37 _ _ ?_;refine wp_seq_k fun K44 hK44=>?_;refine rg h39 fun ops=>?_;clear h39 a39;refine sa trivial rfl rfl ?_;refine St.nil fun a45 h45=>?_;refine hK44 _ _ ?_;refine wp_ret ?_;with_reducible repeat first | refine of_then_ret ?_ | refine of_block_ret ?_
   have:=hc26.out
   have:=hc30.out
   have R:y.code' x bi=0:=(if_neg (by omega)).trans ((if_neg (by omega)).trans ((if_neg (fun h=>takes_yes hc36 h.2)).trans ((if_neg (by omega)).trans (rfl))));exact ret_tmp (t:=2) h45 rfl rfl ⟨by rw [R],hW31.bel⟩
  rw [hb] at h29;have h9:¬ bi=0:=by have h8:=ne_of_beq_false hb;omega
  have hc46:¬ bi=0:=h9;clear h9;clear hb;refine St.go h29 ?_;clear h29 a29;refine so hg3 rfl rfl rfl rfl ?_;refine so hg3 rfl rfl rfl rfl ?_;refine so hg3 rfl rfl rfl rfl ?_;refine spf trivial rfl rfl rfl ?_;refine St.nil fun a47 h47=>?_;refine hK28 _ _ ?_;refine fr_false (t:=35) h47 rfl ?_;refine wp_skip ?_;refine hK27 _ _ ?_;refine wp_seq_k fun K48 hK48=>?_;refine wp_seq_k fun K49 hK49=>?_;refine rg h47 fun ops=>?_;clear h47 a47;refine sfblockLook1 trivial rfl rfl ?_;refine sfBlock2 trivial rfl rfl ?_;refine sbInss 0 hW19 trivial rfl rfl rfl rfl ?_;refine slInss trivial rfl rfl ?_;refine sgt trivial rfl rfl rfl ?_;refine St.nil fun a50 h50=>?_;refine hK49 _ _ ?_;refine fr_cond (t:=40) h50 rfl (fun hb=>?_) (fun hb=>?_)
  ·have hc51:40<y.code.length:=by have:=of_decide_eq_true hb;omega
   clear hb;refine wp_seq_k fun K52 hK52=>?_;refine rg h50 fun ops=>?_;clear h50 a50;refine sa trivial rfl rfl ?_;refine St.nil fun a53 h53=>?_;refine hK52 _ _ ?_;refine wp_ret ?_;with_reducible repeat first | refine of_then_ret ?_ | refine of_block_ret ?_
   have:=hc26.out
   have R:y.code' x bi=2:=(if_neg (by omega)).trans ((if_neg (by omega)).trans ((if_neg (by omega)).trans (if_pos (by omega))));exact ret_tmp (t:=2) h53 rfl rfl ⟨by rw [R],hW19.bel⟩
  have hc54:¬ (40<y.code.length):=by have:=of_decide_eq_false hb;omega
  clear hb;refine wp_skip ?_;refine hK48 _ _ ?_;refine wp_seq_k fun K55 hK55=>?_;refine rg h50 fun ops=>?_;clear h50 a50;refine sa trivial rfl rfl ?_;refine St.nil fun a56 h56=>?_;refine hK55 _ _ ?_;refine wp_ret ?_;with_reducible repeat first | refine of_then_ret ?_ | refine of_block_ret ?_
  have:=hc26.out
  have R:y.code' x bi=0:=(if_neg (by omega)).trans ((if_neg (by omega)).trans ((if_neg (by omega)).trans ((if_neg (by omega)).trans (rfl))));exact ret_tmp (t:=2) h56 rfl rfl ⟨by rw [R],hW19.bel⟩
theorem ffIns_any {l : List MIns} {p : Option Addr} {c Bc : Nat} {w : World} (G : Nat → MIns → Int × Int) (hl0 : insL.list.In w All l [.slice p l.length c]) (hsb : l.length ≤ 100000)
    (hcl0:∀ (i:Nat) x (z:IP) wx,l[i]?=some x→IIn wx All x z→Below w.heap.size w wx→Rd Tryz.prog 139 #[.int .i64 (i:Int),.agg #[.int .i64 x.op,.int .i64 x.a,.int .i64 x.b,.int .i64 x.c,.int .i64 x.k,.int .i64 x.n,.slice z.pR x.regs.length z.cR,.slice z.pA x.args.length z.cA],.pointer (some ⟨Bc,0,none⟩)] wx (faultV (G i x))) :
    Rd Tryz.prog 138 #[.slice p l.length c,.func (.func 139) #[] #[.pointer (some ⟨Bc,0,none⟩)]] w (faultV (firstF G 0 l)):=by
  have hl:Hid _:=hl0;have hcl:Hid _:=hcl0;clear hl0 hcl0;refine fr_enter (n:=25) Tryz.func138 rfl rfl rfl ?_;intro a hF;have hW:=Wd.start w;replace hF:Fr 25 a [(0,.slice p l.length c),(1,.func (.func 139) #[] #[.pointer (some ⟨Bc,0,none⟩)])]:=hF;refine wp_seq_k fun K1 hK1=>?_;refine rg hF fun ops=>?_;clear hF a;refine sAFault hW trivial rfl ?_;clear hW;intro w2 B2 hW2 hN;clear hN;refine St.nil fun a3 h3=>?_;refine hK1 _ _ ?_;refine wp_seq_k fun K4 hK4=>?_;refine wp_seq_k fun K5 hK5=>?_;refine rg h3 fun ops=>?_;clear h3 a3;refine sm trivial rfl rfl ?_;refine slInss trivial rfl rfl ?_;refine sm trivial rfl rfl ?_;refine St.nil fun a6 h6=>?_;refine hK5 _ _ ?_;refine wp_block ?_;refine fr_loop (fun r a w'=>∃ q:Nat,q≤l.length∧r=l.length - q∧(∀ (j:Nat) y,j<q→l[j]?=some y→(G j y).1=0)∧Fr 25 a [(1,.func (.func 139) #[] #[.pointer (some ⟨Bc,0,none⟩)]),(0,.slice p l.length c),(4,.pointer (some ⟨B2,0,none⟩)),(8,.slice p l.length c),(9,.int .i64 (l.length:Int)),(10,.int .i64 (q:Int))]∧Wd w w' [(B2,#[.int .i64 0,.int .i64 0],27)]) (l.length) ⟨0,Nat.zero_le _,rfl,(fun j y hj=>by omega),(h6.keep (h6.keep (h6.keep (h6.keep (h6.keep (h6.keep h6.nil (t:=10) rfl) (t:=9) rfl) (t:=8) rfl) (t:=4) rfl) (t:=0) rfl) (t:=1) rfl),hW2⟩ ?_;clear h6 hW2;rintro r a7 w7 ⟨q,hq,hr,hall,hF7,hW7⟩ KL hKL;refine wp_seq_k fun K8 hK8=>?_;refine rg hF7 fun ops=>?_;clear hF7 a7;refine slt trivial rfl rfl rfl ?_;refine St.nil fun a9 h9=>?_;refine hK8 _ _ ?_;refine wp_seq_k fun K10 hK10=>?_;refine fr_cond (t:=11) h9 rfl (fun hb=>?_) (fun hb=>?_)
  ·have hlt1:q<l.length:=by have:=of_decide_eq_true hb;omega
   clear hb;obtain ⟨x,hx1⟩:∃ v9,(l)[q]?=some v9:=⟨_,List.getElem?_eq_getElem hlt1⟩;obtain ⟨g1,o1,i1,hp1,E1,In1⟩:=ins_at hl.out hx1;replace In1:Hid _:=In1;replace hp1:Hid _:=hp1;replace hx1:Hid _:=hx1;replace E1:Hid _:=E1;refine wp_skip ?_;refine hK10 _ _ ?_;refine wp_seq_k fun K11 hK11=>?_;refine wp_block ?_;refine wp_seq_k fun K12 hK12=>?_;refine rg h9 fun ops=>?_;clear h9 a9;refine sm trivial rfl rfl ?_;refine siInss hp1.out hlt1 trivial rfl rfl rfl ?_;refine sSE Tryz.underlying45 rfl (rangeAt_bel E1.out hW7.bel) infIns trivial rfl rfl ?_;refine sAIns hW7 trivial rfl ?_;clear hW7;intro w13 B13 hW13 hN;clear hN;refine sa trivial rfl rfl ?_;refine sT 0 hW13 rfl rfl infIns rfl rfl rfl ?_;clear hW13;intro w14 hW14;refine St.nil fun a15 h15=>?_;refine hK12 _ _ ?_;refine wp_seq_k fun K16 hK16=>?_;refine rg h15 fun ops=>?_;clear h15 a15;refine sm trivial rfl rfl ?_;refine sm trivial rfl rfl ?_;refine sS 0 8 Tryz.underlying45 rfl infIns hW14 trivial rfl rfl rfl rfl ?_;refine sv_21 cf139 hW14 (hcl.out q x i1 w14 hx1.out (In1.out.below hW14.bel) hW14.bel) trivial rfl rfl rfl rfl ?_;clear hW14;intro w17 hW17;refine sAFault hW17 trivial rfl ?_;clear hW17;intro w18 B18 hW18 hN;clear hN;refine sT 0 hW18 rfl rfl infFault rfl rfl rfl ?_;clear hW18;intro w19 hW19;refine St.nil fun a20 h20=>?_;refine hK16 _ _ ?_;refine wp_seq_k fun K21 hK21=>?_;refine rg h20 fun ops=>?_;clear h20 a20;refine sfFault0 trivial rfl rfl ?_;refine sbInt 0 hW19 trivial rfl rfl rfl rfl ?_;refine sne trivial rfl rfl rfl ?_;refine St.nil fun a22 h22=>?_;refine hK21 _ _ ?_;refine fr_cond (t:=21) h22 rfl (fun hb=>?_) (fun hb=>?_)
   ·have h9:¬ ((G q x).1)=0:=bne_iff_ne.1 hb
    have hne:¬ ((G q x).1)=0:=h9;clear h9;clear hb;refine wp_seq_k fun K23 hK23=>?_;refine rg h22 fun ops=>?_;clear h22 a22;refine sS 0 2 Tryz.underlying27 rfl infFault hW19 trivial rfl rfl rfl rfl ?_;refine sT 2 hW19 rfl rfl infFault rfl rfl rfl ?_;clear hW19;intro w24 hW24;refine St.nil fun a25 h25=>?_;refine hK23 _ _ ?_;refine wp_ret ?_;with_reducible repeat first | refine of_then_ret ?_ | refine of_block_ret ?_
    have R:firstF G 0 l=G q x:=by have h9:=firstF_eq (f:=G) (j:=0) hx1.out (fun k y hk hy=>by rw [Nat.zero_add];exact hall k y hk hy) (by rw [Nat.zero_add];exact hne);rwa [Nat.zero_add] at h9
    exact ret_box 2 h25 hW24 rfl rfl rfl Tryz.underlying27 rfl infFault ⟨by show Ending.returned (.agg #[.int .i64 ((G q x).1),.int .i64 ((G q x).2)])=_;rw [R],hW24.bel⟩
   have h9:((G q x).1)=0:=bne_eq_false_iff_eq.1 hb;have hne:Hid (((G q x).1)=0):=h9;clear h9;clear hb;refine wp_skip ?_;refine hK11 _ _ ?_;refine rg h22 fun ops=>?_;clear h22 a22;refine sad (by omega) trivial rfl rfl rfl ?_;refine sm trivial rfl rfl ?_;refine St.nil fun a26 h26=>?_;refine hKL _ _ (l.length - (q+1)) (by omega) ⟨q+1,by omega,rfl,?_,(h26.keep (h26.keep (h26.keep (h26.keep (h26.keep (h26.keep h26.nil (t:=10) rfl) (t:=9) rfl) (t:=8) rfl) (t:=4) rfl) (t:=0) rfl) (t:=1) rfl),hW19.tail.tail⟩
   ·intro j y hj hy
    by_cases e:j=q
    · subst e;rw [hx1.out] at hy;cases hy;exact hne.out
    · exact hall j y (by omega) hy
  have hge:q=l.length:=by have:=of_decide_eq_false hb;omega
  clear hb;refine wp_exit ?_;refine hK4 _ _ ?_;refine wp_seq_k fun K27 hK27=>?_;refine rg h9 fun ops=>?_;clear h9 a9;intro a28 h28;refine fr_pure (t:=24) (v:=.agg #[.int .i64 0,.int .i64 0]) (w':=w7) h28 rfl rfl rfl (fun K hK=>?_) ?_
  ·go_simp
   exact hK
  clear h28;intro a29 hF29;refine St.go hF29 ?_;clear hF29 a29;refine sT 0 hW7 rfl rfl infFault rfl rfl rfl ?_;clear hW7;intro w30 hW30;refine St.nil fun a31 h31=>?_;refine hK27 _ _ ?_;refine wp_ret ?_;with_reducible repeat first | refine of_then_ret ?_ | refine of_block_ret ?_
  have R:firstF G 0 l=(0,0):=firstF_zero (fun k y hy=>by rw [Nat.zero_add];exact hall k y (by have:=(List.getElem?_eq_some_iff.1 hy).1;omega) hy);exact ret_box 0 h31 hW30 rfl rfl rfl Tryz.underlying27 rfl infFault ⟨by show Ending.returned (.agg #[.int .i64 0,.int .i64 0])=_;rw [R],hW30.bel⟩
theorem ffBlock_any {n : Nat} {l : List (MBlock n)} {p : Option Addr} {c Bc : Nat} {w : World} (G : Nat → (MBlock n) → Int × Int) (hl0 : (blockL n).list.In w All l [.slice p l.length c]) (hsb : l.length ≤ 100000)
    (hcl0:∀ (i:Nat) x (z:BP) wx,l[i]?=some x→BIn wx All x z→Below w.heap.size w wx→Rd Tryz.prog 108 #[.int .i64 (i:Int),.agg #[.int .i64 x.regs,.slice z.pP x.params.length z.cP,.slice z.pC x.code.length z.cC,.int .i64 x.fin.op,.int .i64 x.fin.a,.int .i64 x.fin.yes.block,.slice z.e.pYR x.fin.yes.regs.length z.e.cYR,.slice z.e.pYA x.fin.yes.args.length z.e.cYA,.int .i64 x.fin.no.block,.slice z.e.pNR x.fin.no.regs.length z.e.cNR,.slice z.e.pNA x.fin.no.args.length z.e.cNA,.slice z.e.pA x.fin.args.length z.e.cA],.pointer (some ⟨Bc,0,none⟩)] wx (faultV (G i x))) :
    Rd Tryz.prog 107 #[.slice p l.length c,.func (.func 108) #[] #[.pointer (some ⟨Bc,0,none⟩)]] w (faultV (firstF G 0 l)):=by
  have hl:Hid _:=hl0;have hcl:Hid _:=hcl0;clear hl0 hcl0;refine fr_enter (n:=25) Tryz.func107 rfl rfl rfl ?_;intro a hF;have hW:=Wd.start w;replace hF:Fr 25 a [(0,.slice p l.length c),(1,.func (.func 108) #[] #[.pointer (some ⟨Bc,0,none⟩)])]:=hF;refine wp_seq_k fun K1 hK1=>?_;refine rg hF fun ops=>?_;clear hF a;refine sAFault hW trivial rfl ?_;clear hW;intro w2 B2 hW2 hN;clear hN;refine St.nil fun a3 h3=>?_;refine hK1 _ _ ?_;refine wp_seq_k fun K4 hK4=>?_;refine wp_seq_k fun K5 hK5=>?_;refine rg h3 fun ops=>?_;clear h3 a3;refine sm trivial rfl rfl ?_;refine slBlocks trivial rfl rfl ?_;refine sm trivial rfl rfl ?_;refine St.nil fun a6 h6=>?_;refine hK5 _ _ ?_;refine wp_block ?_;refine fr_loop (fun r a w'=>∃ q:Nat,q≤l.length∧r=l.length - q∧(∀ (j:Nat) y,j<q→l[j]?=some y→(G j y).1=0)∧Fr 25 a [(1,.func (.func 108) #[] #[.pointer (some ⟨Bc,0,none⟩)]),(0,.slice p l.length c),(4,.pointer (some ⟨B2,0,none⟩)),(8,.slice p l.length c),(9,.int .i64 (l.length:Int)),(10,.int .i64 (q:Int))]∧Wd w w' [(B2,#[.int .i64 0,.int .i64 0],27)]) (l.length) ⟨0,Nat.zero_le _,rfl,(fun j y hj=>by omega),(h6.keep (h6.keep (h6.keep (h6.keep (h6.keep (h6.keep h6.nil (t:=10) rfl) (t:=9) rfl) (t:=8) rfl) (t:=4) rfl) (t:=0) rfl) (t:=1) rfl),hW2⟩ ?_;clear h6 hW2;rintro r a7 w7 ⟨q,hq,hr,hall,hF7,hW7⟩ KL hKL;refine wp_seq_k fun K8 hK8=>?_;refine rg hF7 fun ops=>?_;clear hF7 a7;refine slt trivial rfl rfl rfl ?_;refine St.nil fun a9 h9=>?_;refine hK8 _ _ ?_;refine wp_seq_k fun K10 hK10=>?_;refine fr_cond (t:=11) h9 rfl (fun hb=>?_) (fun hb=>?_)
  ·have hlt1:q<l.length:=by have:=of_decide_eq_true hb;omega
   clear hb;obtain ⟨x,hx1⟩:∃ v9,(l)[q]?=some v9:=⟨_,List.getElem?_eq_getElem hlt1⟩;obtain ⟨g1,o1,b1,hp1,E1,In1⟩:=block_at hl.out hx1;replace In1:Hid _:=In1;replace hp1:Hid _:=hp1;replace hx1:Hid _:=hx1;replace E1:Hid _:=E1;refine wp_skip ?_;refine hK10 _ _ ?_;refine wp_seq_k fun K11 hK11=>?_;refine wp_block ?_;refine wp_seq_k fun K12 hK12=>?_;refine rg h9 fun ops=>?_;clear h9 a9;refine sm trivial rfl rfl ?_;refine siBlocks hp1.out hlt1 trivial rfl rfl rfl ?_;refine sSE Tryz.underlying52 rfl (rangeAt_bel E1.out hW7.bel) infBlock trivial rfl rfl ?_;refine sABlock hW7 trivial rfl ?_;clear hW7;intro w13 B13 hW13 hN;clear hN;refine sa trivial rfl rfl ?_;refine sT 0 hW13 rfl rfl infBlock rfl rfl rfl ?_;clear hW13;intro w14 hW14;refine St.nil fun a15 h15=>?_;refine hK12 _ _ ?_;refine wp_seq_k fun K16 hK16=>?_;refine rg h15 fun ops=>?_;clear h15 a15;refine sm trivial rfl rfl ?_;refine sm trivial rfl rfl ?_;refine sS 0 12 Tryz.underlying52 rfl infBlock hW14 trivial rfl rfl rfl rfl ?_;refine sv_21 cf108 hW14 (hcl.out q x b1 w14 hx1.out (In1.out.below hW14.bel) hW14.bel) trivial rfl rfl rfl rfl ?_;clear hW14;intro w17 hW17;refine sAFault hW17 trivial rfl ?_;clear hW17;intro w18 B18 hW18 hN;clear hN;refine sT 0 hW18 rfl rfl infFault rfl rfl rfl ?_;clear hW18;intro w19 hW19;refine St.nil fun a20 h20=>?_;refine hK16 _ _ ?_;refine wp_seq_k fun K21 hK21=>?_;refine rg h20 fun ops=>?_;clear h20 a20;refine sfFault0 trivial rfl rfl ?_;refine sbInt 0 hW19 trivial rfl rfl rfl rfl ?_;refine sne trivial rfl rfl rfl ?_;refine St.nil fun a22 h22=>?_;refine hK21 _ _ ?_;refine fr_cond (t:=21) h22 rfl (fun hb=>?_) (fun hb=>?_)
   ·have h9:¬ ((G q x).1)=0:=bne_iff_ne.1 hb
    have hne:¬ ((G q x).1)=0:=h9;clear h9;clear hb;refine wp_seq_k fun K23 hK23=>?_;refine rg h22 fun ops=>?_;clear h22 a22;refine sS 0 2 Tryz.underlying27 rfl infFault hW19 trivial rfl rfl rfl rfl ?_;refine sT 2 hW19 rfl rfl infFault rfl rfl rfl ?_;clear hW19;intro w24 hW24;refine St.nil fun a25 h25=>?_;refine hK23 _ _ ?_;refine wp_ret ?_;with_reducible repeat first | refine of_then_ret ?_ | refine of_block_ret ?_
    have R:firstF G 0 l=G q x:=by have h9:=firstF_eq (f:=G) (j:=0) hx1.out (fun k y hk hy=>by rw [Nat.zero_add];exact hall k y hk hy) (by rw [Nat.zero_add];exact hne);rwa [Nat.zero_add] at h9
    exact ret_box 2 h25 hW24 rfl rfl rfl Tryz.underlying27 rfl infFault ⟨by show Ending.returned (.agg #[.int .i64 ((G q x).1),.int .i64 ((G q x).2)])=_;rw [R],hW24.bel⟩
   have h9:((G q x).1)=0:=bne_eq_false_iff_eq.1 hb;have hne:Hid (((G q x).1)=0):=h9;clear h9;clear hb;refine wp_skip ?_;refine hK11 _ _ ?_;refine rg h22 fun ops=>?_;clear h22 a22;refine sad (by omega) trivial rfl rfl rfl ?_;refine sm trivial rfl rfl ?_;refine St.nil fun a26 h26=>?_;refine hKL _ _ (l.length - (q+1)) (by omega) ⟨q+1,by omega,rfl,?_,(h26.keep (h26.keep (h26.keep (h26.keep (h26.keep (h26.keep h26.nil (t:=10) rfl) (t:=9) rfl) (t:=8) rfl) (t:=4) rfl) (t:=0) rfl) (t:=1) rfl),hW19.tail.tail⟩
   ·intro j y hj hy
    by_cases e:j=q
    · subst e;rw [hx1.out] at hy;cases hy;exact hne.out
    · exact hall j y (by omega) hy
  have hge:q=l.length:=by have:=of_decide_eq_false hb;omega
  clear hb;refine wp_exit ?_;refine hK4 _ _ ?_;refine wp_seq_k fun K27 hK27=>?_;refine rg h9 fun ops=>?_;clear h9 a9;intro a28 h28;refine fr_pure (t:=24) (v:=.agg #[.int .i64 0,.int .i64 0]) (w':=w7) h28 rfl rfl rfl (fun K hK=>?_) ?_
  ·go_simp
   exact hK
  clear h28;intro a29 hF29;refine St.go hF29 ?_;clear hF29 a29;refine sT 0 hW7 rfl rfl infFault rfl rfl rfl ?_;clear hW7;intro w30 hW30;refine St.nil fun a31 h31=>?_;refine hK27 _ _ ?_;refine wp_ret ?_;with_reducible repeat first | refine of_then_ret ?_ | refine of_block_ret ?_
  have R:firstF G 0 l=(0,0):=firstF_zero (fun k y hy=>by rw [Nat.zero_add];exact hall k y (by have:=(List.getElem?_eq_some_iff.1 hy).1;omega) hy);exact ret_box 0 h31 hW30 rfl rfl rfl Tryz.underlying27 rfl infFault ⟨by show Ending.returned (.agg #[.int .i64 0,.int .i64 0])=_;rw [R],hW30.bel⟩
theorem ffFunc_any {n : Nat} {l : List (MFunc n)} {p : Option Addr} {c Bc : Nat} {w : World} (G : Nat → (MFunc n) → Int × Int) (hl0 : (modL n).In w All l [.slice p l.length c]) (hsb : l.length ≤ 100000)
    (hcl0:∀ (i:Nat) x (z:FP) wx,l[i]?=some x→FIn wx All x z→Below w.heap.size w wx→Rd Tryz.prog 55 #[.int .i64 (i:Int),.agg #[.int .i64 x.regs,.slice z.pP x.params.length z.cP,.slice z.pR x.results.length z.cR,.slice z.pB x.blocks.length z.cB],.pointer (some ⟨Bc,0,none⟩)] wx (faultV (G i x))) :
    Rd Tryz.prog 54 #[.slice p l.length c,.func (.func 55) #[] #[.pointer (some ⟨Bc,0,none⟩)]] w (faultV (firstF G 0 l)):=by
  have hl:Hid _:=hl0;have hcl:Hid _:=hcl0;clear hl0 hcl0;refine fr_enter (n:=25) Tryz.func54 rfl rfl rfl ?_;intro a hF;have hW:=Wd.start w;replace hF:Fr 25 a [(0,.slice p l.length c),(1,.func (.func 55) #[] #[.pointer (some ⟨Bc,0,none⟩)])]:=hF;refine wp_seq_k fun K1 hK1=>?_;refine rg hF fun ops=>?_;clear hF a;refine sAFault hW trivial rfl ?_;clear hW;intro w2 B2 hW2 hN;clear hN;refine St.nil fun a3 h3=>?_;refine hK1 _ _ ?_;refine wp_seq_k fun K4 hK4=>?_;refine wp_seq_k fun K5 hK5=>?_;refine rg h3 fun ops=>?_;clear h3 a3;refine sm trivial rfl rfl ?_;refine slFuncs trivial rfl rfl ?_;refine sm trivial rfl rfl ?_;refine St.nil fun a6 h6=>?_;refine hK5 _ _ ?_;refine wp_block ?_;refine fr_loop (fun r a w'=>∃ q:Nat,q≤l.length∧r=l.length - q∧(∀ (j:Nat) y,j<q→l[j]?=some y→(G j y).1=0)∧Fr 25 a [(1,.func (.func 55) #[] #[.pointer (some ⟨Bc,0,none⟩)]),(0,.slice p l.length c),(4,.pointer (some ⟨B2,0,none⟩)),(8,.slice p l.length c),(9,.int .i64 (l.length:Int)),(10,.int .i64 (q:Int))]∧Wd w w' [(B2,#[.int .i64 0,.int .i64 0],27)]) (l.length) ⟨0,Nat.zero_le _,rfl,(fun j y hj=>by omega),(h6.keep (h6.keep (h6.keep (h6.keep (h6.keep (h6.keep h6.nil (t:=10) rfl) (t:=9) rfl) (t:=8) rfl) (t:=4) rfl) (t:=0) rfl) (t:=1) rfl),hW2⟩ ?_;clear h6 hW2;rintro r a7 w7 ⟨q,hq,hr,hall,hF7,hW7⟩ KL hKL;refine wp_seq_k fun K8 hK8=>?_;refine rg hF7 fun ops=>?_;clear hF7 a7;refine slt trivial rfl rfl rfl ?_;refine St.nil fun a9 h9=>?_;refine hK8 _ _ ?_;refine wp_seq_k fun K10 hK10=>?_;refine fr_cond (t:=11) h9 rfl (fun hb=>?_) (fun hb=>?_)
  ·have hlt1:q<l.length:=by have:=of_decide_eq_true hb;omega
   clear hb;obtain ⟨x,hx1⟩:∃ v9,(l)[q]?=some v9:=⟨_,List.getElem?_eq_getElem hlt1⟩;obtain ⟨g1,o1,f1,hp1,E1,In1⟩:=func_at hl.out hx1;replace In1:Hid _:=In1;replace hp1:Hid _:=hp1;replace hx1:Hid _:=hx1;replace E1:Hid _:=E1;refine wp_skip ?_;refine hK10 _ _ ?_;refine wp_seq_k fun K11 hK11=>?_;refine wp_block ?_;refine wp_seq_k fun K12 hK12=>?_;refine rg h9 fun ops=>?_;clear h9 a9;refine sm trivial rfl rfl ?_;refine siFuncs hp1.out hlt1 trivial rfl rfl rfl ?_;refine sSE Tryz.underlying42 rfl (rangeAt_bel E1.out hW7.bel) infFunc trivial rfl rfl ?_;refine sAFunc hW7 trivial rfl ?_;clear hW7;intro w13 B13 hW13 hN;clear hN;refine sa trivial rfl rfl ?_;refine sT 0 hW13 rfl rfl infFunc rfl rfl rfl ?_;clear hW13;intro w14 hW14;refine St.nil fun a15 h15=>?_;refine hK12 _ _ ?_;refine wp_seq_k fun K16 hK16=>?_;refine rg h15 fun ops=>?_;clear h15 a15;refine sm trivial rfl rfl ?_;refine sm trivial rfl rfl ?_;refine sS 0 4 Tryz.underlying42 rfl infFunc hW14 trivial rfl rfl rfl rfl ?_;refine sv_21 cf55 hW14 (hcl.out q x f1 w14 hx1.out (In1.out.below hW14.bel) hW14.bel) trivial rfl rfl rfl rfl ?_;clear hW14;intro w17 hW17;refine sAFault hW17 trivial rfl ?_;clear hW17;intro w18 B18 hW18 hN;clear hN;refine sT 0 hW18 rfl rfl infFault rfl rfl rfl ?_;clear hW18;intro w19 hW19;refine St.nil fun a20 h20=>?_;refine hK16 _ _ ?_;refine wp_seq_k fun K21 hK21=>?_;refine rg h20 fun ops=>?_;clear h20 a20;refine sfFault0 trivial rfl rfl ?_;refine sbInt 0 hW19 trivial rfl rfl rfl rfl ?_;refine sne trivial rfl rfl rfl ?_;refine St.nil fun a22 h22=>?_;refine hK21 _ _ ?_;refine fr_cond (t:=21) h22 rfl (fun hb=>?_) (fun hb=>?_)
   ·have h9:¬ ((G q x).1)=0:=bne_iff_ne.1 hb
    have hne:¬ ((G q x).1)=0:=h9;clear h9;clear hb;refine wp_seq_k fun K23 hK23=>?_;refine rg h22 fun ops=>?_;clear h22 a22;refine sS 0 2 Tryz.underlying27 rfl infFault hW19 trivial rfl rfl rfl rfl ?_;refine sT 2 hW19 rfl rfl infFault rfl rfl rfl ?_;clear hW19;intro w24 hW24;refine St.nil fun a25 h25=>?_;refine hK23 _ _ ?_;refine wp_ret ?_;with_reducible repeat first | refine of_then_ret ?_ | refine of_block_ret ?_
    have R:firstF G 0 l=G q x:=by have h9:=firstF_eq (f:=G) (j:=0) hx1.out (fun k y hk hy=>by rw [Nat.zero_add];exact hall k y hk hy) (by rw [Nat.zero_add];exact hne);rwa [Nat.zero_add] at h9
    exact ret_box 2 h25 hW24 rfl rfl rfl Tryz.underlying27 rfl infFault ⟨by show Ending.returned (.agg #[.int .i64 ((G q x).1),.int .i64 ((G q x).2)])=_;rw [R],hW24.bel⟩
   have h9:((G q x).1)=0:=bne_eq_false_iff_eq.1 hb;have hne:Hid (((G q x).1)=0):=h9;clear h9;clear hb;refine wp_skip ?_;refine hK11 _ _ ?_;refine rg h22 fun ops=>?_;clear h22 a22;refine sad (by omega) trivial rfl rfl rfl ?_;refine sm trivial rfl rfl ?_;refine St.nil fun a26 h26=>?_;refine hKL _ _ (l.length - (q+1)) (by omega) ⟨q+1,by omega,rfl,?_,(h26.keep (h26.keep (h26.keep (h26.keep (h26.keep (h26.keep h26.nil (t:=10) rfl) (t:=9) rfl) (t:=8) rfl) (t:=4) rfl) (t:=0) rfl) (t:=1) rfl),hW19.tail.tail⟩
   ·intro j y hj hy
    by_cases e:j=q
    · subst e;rw [hx1.out] at hy;cases hy;exact hne.out
    · exact hall j y (by omega) hy
  have hge:q=l.length:=by have:=of_decide_eq_false hb;omega
  clear hb;refine wp_exit ?_;refine hK4 _ _ ?_;refine wp_seq_k fun K27 hK27=>?_;refine rg h9 fun ops=>?_;clear h9 a9;intro a28 h28;refine fr_pure (t:=24) (v:=.agg #[.int .i64 0,.int .i64 0]) (w':=w7) h28 rfl rfl rfl (fun K hK=>?_) ?_
  ·go_simp
   exact hK
  clear h28;intro a29 hF29;refine St.go hF29 ?_;clear hF29 a29;refine sT 0 hW7 rfl rfl infFault rfl rfl rfl ?_;clear hW7;intro w30 hW30;refine St.nil fun a31 h31=>?_;refine hK27 _ _ ?_;refine wp_ret ?_;with_reducible repeat first | refine of_then_ret ?_ | refine of_block_ret ?_
  have R:firstF G 0 l=(0,0):=firstF_zero (fun k y hy=>by rw [Nat.zero_add];exact hall k y (by have:=(List.getElem?_eq_some_iff.1 hy).1;omega) hy);exact ret_box 0 h31 hW30 rfl rfl rfl Tryz.underlying27 rfl infFault ⟨by show Ending.returned (.agg #[.int .i64 0,.int .i64 0])=_;rw [R],hW30.bel⟩
end Go.Proofs.YtalfbnllodhkiacGreatDoor
