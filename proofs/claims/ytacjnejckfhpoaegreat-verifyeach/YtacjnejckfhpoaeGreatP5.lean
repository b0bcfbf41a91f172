import Derived.Test.YtacjnejckfhpoaeGreatP4
set_option maxHeartbeats 16000000
set_option maxRecDepth 100000
namespace Go.Proofs.YtacjnejckfhpoaeGreat
open Go.ChangeShapes Go.WideShapes Go.ChangeAt Go.RowKit
set_option linter.unusedSimpArgs false
set_option linter.unusedVariables false
theorem Qbi {α:Type}{A:Lay α}{f:FuncId}{args:Array Value}{w:World}{l:List α}(h:Calls Tryz.prog f args w fun e w'=>Qc3 A w w' l e) :
 Calls Tryz.prog f args w fun e w'=>∃ v,e=.returned v∧(∃ a' c',v=.slice a' l.length c'∧A.list.In w' (Zm w.heap.size) l [.slice a' l.length c'])∧Below w.heap.size w w' :=
 h.mono fun e w' ⟨a',c',h1,h2,h3⟩=>⟨_,h1,⟨a',c',rfl,h2⟩,h3⟩
theorem EIn.keep1 {w w':World}{lo B:Nat}{x:MEnd}{e:EP}(h:EIn w (Zm lo) x e) (hk:Qde B w w') (hB:B<lo):EIn w' (Zm lo) x e :=
 h.keep (fun k hl _=>hk k (by have:lo≤k:=hl;omega)) (fun _ h _=>h)
theorem Qhf {x:Qx}(hs:x.small) (i:IP) (w:World) (h:IIn w All x i):Calls Tryz.prog 137 #[.agg #[.int .i64 x.op,.int .i64 x.a,.int .i64 x.b,.int .i64 x.c,.int .i64 x.k,.int .i64 x.n,.slice i.pR x.regs.length i.cR,.slice i.pA x.args.length i.cA]] w fun e w'=>∃ v,e=.returned v∧(∃ i':IP,v=.agg #[.int .i64 x.op,.int .i64 x.a,.int .i64 x.b,.int .i64 x.c,.int .i64 x.k,.int .i64 x.n,.slice i'.pR x.regs.length i'.cR,.slice i'.pA x.args.length i'.cA]∧IIn w' (Zm w.heap.size) x i')∧Below w.heap.size w w' :=
 (QfK x i w h (by have:=hs.1;omega) (by have:=hs.2;omega)).mono fun e w' ⟨i',h1,h2,h3⟩=>⟨_,h1,⟨i',rfl,h2⟩,h3⟩
theorem QiA {x:MEnd}(hs:x.small) (i:EP) (w:World) (h:EIn w All x i):Calls Tryz.prog 138 #[.agg #[.int .i64 x.op,.int .i64 x.a,.int .i64 x.yes.block,.slice i.pYR x.yes.regs.length i.cYR,.slice i.pYA x.yes.args.length i.cYA,.int .i64 x.no.block,.slice i.pNR x.no.regs.length i.cNR,.slice i.pNA x.no.args.length i.cNA,.slice i.pA x.args.length i.cA]] w fun e w'=>∃ v,e=.returned v∧(∃ i':EP,v=.agg #[.int .i64 x.op,.int .i64 x.a,.int .i64 x.yes.block,.slice i'.pYR x.yes.regs.length i'.cYR,.slice i'.pYA x.yes.args.length i'.cYA,.int .i64 x.no.block,.slice i'.pNR x.no.regs.length i'.cNR,.slice i'.pNA x.no.args.length i'.cNA,.slice i'.pA x.args.length i'.cA]∧EIn w' (Zm w.heap.size) x i')∧Below w.heap.size w w' :=
 (Qfj x i w h (by have:=hs.1.1;omega) (by have:=hs.1.2;omega) (by have:=hs.2.1.1;omega) (by have:=hs.2.1.2;omega) (by have:=hs.2.2;omega)).mono fun e w' ⟨i',h1,h2,h3⟩=>⟨_,h1,⟨i',rfl,h2⟩,h3⟩
def QkQ (n:Nat):Prop:=∀ (t:TT n) (i:TP) (w:World),YIn w All t i→t.count≤100000→Calls Tryz.prog 102 #[.agg #[.int .i64 t.kind,.int .i64 t.r,.slice i.p t.len i.c]] w fun e w'=>∃ v,e=.returned v∧(∃ i':TP,v=.agg #[.int .i64 t.kind,.int .i64 t.r,.slice i'.p t.len i'.c]∧YIn w' (Zm w.heap.size) t i')∧Below w.heap.size w w'
theorem cOwnType_any:∀ n,QkQ n:=by
 intro n
 induction n with
 | zero=>intro t;exact Empty.elim t
 | succ n ih =>
   intro t i w ht hc;have hco:∀ x∈t.2.2,x.count≤100000:=fun x hx=>by have:=t.count_kid hx;omega
   have hlen:t.2.2.length≤100000:=by have:=t.len_lt_count;rw[t.len_eq] at this;omega
   have hok:=ht.ok;have hk:Hid _:=Qb9 (c:=i.c) ht.tree.list hok.2;clear ht;simp only[TT.len_eq]
   refine Qs (n:=8) Tryz.func102 rfl rfl rfl ?_;intro a hF;have hW:=Wd.start w;replace hF:Fr 8 a [(0,.agg #[.int .i64 t.kind,.int .i64 t.r,.slice i.p t.2.2.length i.c])]:=hF;refine wp_seq_k fun K1 hK1=>?_;refine rg hF fun ops=>?_;clear hF a;refine sB hW trivial rfl rfl ?_;clear hW;intro w2 B2 hW2 hN;clear hN;refine QhO hW2 trivial rfl ?_;clear hW2;intro w3 B3 hW3 hN;clear hN;refine St.nil fun a4 h4=>?_;refine hK1 _ _ ?_;refine wp_seq_k fun K5 hK5=>?_;refine rg h4 fun ops=>?_;clear h4 a4;refine QhZ trivial rfl rfl ?_;refine QaD 1 hW3 trivial rfl rfl rfl rfl ?_;have hlb:max B3 B2+1≤w3.heap.size:=by have h8:=(hW3.get 0 rfl).lt;have h9:=(hW3.get 1 rfl).lt;omega
   refine QjY cf101 hW3 (Qbi (Z1 t.2.2 _ _ _ (Lay.below hk.out hW3.bel) (by omega) (fun u hu i w h=>ih u i w h (hco u hu)))) trivial rfl rfl rfl ?_;rintro v9 w7 ⟨p5,c5,rfl,hN5⟩ hb9 hW7;replace hN5:=Lay.mono hN5 (O':=Zm (max B3 B2+1)) (fun k hk _=>Nat.le_trans hlb hk);clear hlb hb9 hW3;refine QhZ trivial rfl rfl ?_;refine s1k 1 inf1Types hW7 rfl rfl rfl rfl rfl rfl ?_;intro w8 hKp hW8;replace hN5:=Lay.keep1 hN5 hKp (by omega);clear hKp hW7;refine St.nil fun a9 h9=>?_;refine hK5 _ _ ?_;refine wp_seq_k fun K10 hK10=>?_;refine rg h9 fun ops=>?_;clear h9 a9;refine sS 1 3 Tryz.underlying70 rfl infType hW8 trivial rfl rfl rfl rfl ?_;refine sTk 0 hW8 rfl rfl infType rfl rfl rfl ?_;intro w11 hKp hW11;replace hN5:=Lay.keep1 hN5 hKp (by omega);clear hKp hW8;refine St.nil fun a12 h12=>?_;refine hK10 _ _ ?_;refine wp_ret ?_;with_reducible repeat first | refine Qd ?_ | refine Qc ?_
   have hlow:w.heap.size≤max B3 B2+1:=by have h8:=hW11.new 0 _ rfl;simp only at h8;omega
   have hZ:=QL (Lay.mono hN5 (fun k hk _=>Nat.le_trans hlow hk));exact QN 0 h12 hW11 rfl rfl rfl Tryz.underlying70 rfl infType ⟨_,rfl,⟨⟨p5,c5⟩,rfl,⟨hZ.1,hok⟩⟩,hW11.bel⟩
theorem QdU {n:Nat}(x:Qe n) (i:BP) (w:World) (h:BIn w All x i) (hs0:x.small) :
 Calls Tryz.prog 104 #[.agg #[.int .i64 x.regs,.slice i.pP x.params.length i.cP,.slice i.pC x.code.length i.cC,.int .i64 x.fin.op,.int .i64 x.fin.a,.int .i64 x.fin.yes.block,.slice i.e.pYR x.fin.yes.regs.length i.e.cYR,.slice i.e.pYA x.fin.yes.args.length i.e.cYA,.int .i64 x.fin.no.block,.slice i.e.pNR x.fin.no.regs.length i.e.cNR,.slice i.e.pNA x.fin.no.args.length i.e.cNA,.slice i.e.pA x.fin.args.length i.e.cA]] w fun e w'=>∃ v,e=.returned v∧(∃ i':BP,v=.agg #[.int .i64 x.regs,.slice i'.pP x.params.length i'.cP,.slice i'.pC x.code.length i'.cC,.int .i64 x.fin.op,.int .i64 x.fin.a,.int .i64 x.fin.yes.block,.slice i'.e.pYR x.fin.yes.regs.length i'.e.cYR,.slice i'.e.pYA x.fin.yes.args.length i'.e.cYA,.int .i64 x.fin.no.block,.slice i'.e.pNR x.fin.no.regs.length i'.e.cNR,.slice i'.e.pNA x.fin.no.args.length i'.e.cNA,.slice i'.e.pA x.fin.args.length i'.e.cA]∧BIn w' (Zm w.heap.size) x i')∧Below w.heap.size w w':=by
 have hx:Hid _:=h;have hs:Hid _:=hs0;have hbd:=h.bnd;clear h hs0;refine Qs (n:=16) Tryz.func104 rfl rfl rfl ?_;intro a hF;have hW:=Wd.start w;replace hF:Fr 16 a [(0,.agg #[.int .i64 x.regs,.slice i.pP x.params.length i.cP,.slice i.pC x.code.length i.cC,.int .i64 x.fin.op,.int .i64 x.fin.a,.int .i64 x.fin.yes.block,.slice i.e.pYR x.fin.yes.regs.length i.e.cYR,.slice i.e.pYA x.fin.yes.args.length i.e.cYA,.int .i64 x.fin.no.block,.slice i.e.pNR x.fin.no.regs.length i.e.cNR,.slice i.e.pNA x.fin.no.args.length i.e.cNA,.slice i.e.pA x.fin.args.length i.e.cA])]:=hF;refine wp_seq_k fun K1 hK1=>?_;refine rg hF fun ops=>?_;clear hF a;refine sB hW trivial rfl rfl ?_;clear hW;intro w2 B2 hW2 hN;clear hN;refine QdP hW2 trivial rfl ?_;clear hW2;intro w3 B3 hW3 hN;clear hN;refine St.nil fun a4 h4=>?_;refine hK1 _ _ ?_;refine wp_seq_k fun K5 hK5=>?_;refine rg h4 fun ops=>?_;clear h4 a4;refine Qcr trivial rfl rfl ?_;refine QaD 1 hW3 trivial rfl rfl rfl rfl ?_;have hlb:max B3 B2+1≤w3.heap.size:=by have h8:=(hW3.get 0 rfl).lt;have h9:=(hW3.get 1 rfl).lt;omega
 refine QjY cf101 hW3 (Qbi (Z1 x.params _ _ _ (Lay.below hx.out.params hW3.bel) (by have:=hs.out.2.1.1;omega) (fun t ht i w h=>cOwnType_any n t i w h (hs.out.2.1.2 t ht)))) trivial rfl rfl rfl ?_;rintro v9 w7 ⟨p5,c5,rfl,hN5⟩ hb9 hW7;replace hN5:=Lay.mono hN5 (O':=Zm (max B3 B2+1)) (fun k hk _=>Nat.le_trans hlb hk);clear hlb hb9 hW3;refine Qcr trivial rfl rfl ?_;refine s1k 1 inf1Types hW7 rfl rfl rfl rfl rfl rfl ?_;intro w8 hKp hW8;replace hN5:=Lay.keep1 hN5 hKp (by omega);clear hKp hW7;refine St.nil fun a9 h9=>?_;refine hK5 _ _ ?_;refine wp_seq_k fun K10 hK10=>?_;refine rg h9 fun ops=>?_;clear h9 a9;refine ZQ trivial rfl rfl ?_;refine QfT 1 hW8 trivial rfl rfl rfl rfl ?_;have hlb:max B3 B2+1≤w8.heap.size:=by have h8:=(hW8.get 0 rfl).lt;have h9:=(hW8.get 1 rfl).lt;omega
 refine QjY cf136 hW8 (Qbi (QfE x.code _ _ _ (Lay.below hx.out.code hW8.bel) (by have:=hs.out.1;omega) (fun t ht i w h=>Qhf (hs.out.2.2.2 t ht) i w h))) trivial rfl rfl rfl ?_;rintro v9 w12 ⟨p9,c9,rfl,hN9⟩ hb9 hW12;replace hN5:=Lay.below hN5 hb9;replace hN9:=Lay.mono hN9 (O':=Zm (max B3 B2+1)) (fun k hk _=>Nat.le_trans hlb hk);clear hlb hb9 hW8;refine ZQ trivial rfl rfl ?_;refine s1k 1 inf1Inss hW12 rfl rfl rfl rfl rfl rfl ?_;intro w13 hKp hW13;replace hN5:=Lay.keep1 hN5 hKp (by omega);replace hN9:=Lay.keep1 hN9 hKp (by omega);clear hKp hW12;refine St.nil fun a14 h14=>?_;refine hK10 _ _ ?_;refine wp_seq_k fun K15 hK15=>?_;refine rg h14 fun ops=>?_;clear h14 a14;refine Qf6 trivial rfl rfl ?_;refine sS 1 9 Tryz.underlying58 rfl infEnd hW13 trivial rfl rfl rfl rfl ?_;have hlb:max B3 B2+1≤w13.heap.size:=by have h8:=(hW13.get 0 rfl).lt;have h9:=(hW13.get 1 rfl).lt;omega
 refine QlR cf138 hW13 (QiA hs.out.2.2.1 _ _ (hx.out.fin.below hW13.bel)) trivial rfl rfl ?_;rintro v9 w17 ⟨e13,rfl,hN13⟩ hb9 hW17;replace hN5:=Lay.below hN5 hb9;replace hN9:=Lay.below hN9 hb9;replace hN13:=EIn.mono hN13 (O':=Zm (max B3 B2+1)) (fun k hk _=>Nat.le_trans hlb hk);clear hlb hb9 hW13;refine Qf6 trivial rfl rfl ?_;refine sTk 1 hW17 rfl rfl infEnd rfl rfl rfl ?_;intro w18 hKp hW18;replace hN5:=Lay.keep1 hN5 hKp (by omega);replace hN9:=Lay.keep1 hN9 hKp (by omega);replace hN13:=EIn.keep1 hN13 hKp (by omega);clear hKp hW17;refine St.nil fun a19 h19=>?_;refine hK15 _ _ ?_;refine wp_seq_k fun K20 hK20=>?_;refine rg h19 fun ops=>?_;clear h19 a19;refine sS 1 12 Tryz.underlying60 rfl infBlock hW18 trivial rfl rfl rfl rfl ?_;refine sTk 0 hW18 rfl rfl infBlock rfl rfl rfl ?_;intro w21 hKp hW21;replace hN5:=Lay.keep1 hN5 hKp (by omega);replace hN9:=Lay.keep1 hN9 hKp (by omega);replace hN13:=EIn.keep1 hN13 hKp (by omega);clear hKp hW18;refine St.nil fun a22 h22=>?_;refine hK20 _ _ ?_;refine wp_ret ?_;with_reducible repeat first | refine Qd ?_ | refine Qc ?_
 have hlow:w.heap.size≤max B3 B2+1:=by have h8:=hW21.new 0 _ rfl;simp only at h8;omega
 exact QN 0 h22 hW21 rfl rfl rfl Tryz.underlying60 rfl infBlock ⟨_,rfl,⟨⟨p5,c5,p9,c9,e13⟩,rfl,⟨Lay.mono hN5 (fun k hk _=>Nat.le_trans hlow hk),Lay.mono hN9 (fun k hk _=>Nat.le_trans hlow hk),EIn.mono hN13 (fun k hk _=>Nat.le_trans hlow hk),hbd⟩⟩,hW21.bel⟩
theorem QeH {n:Nat}(x:Qf n) (i:FP) (w:World) (h:FIn w All x i) (hs0:x.small) :
 Calls Tryz.prog 59 #[.agg #[.int .i64 x.regs,.slice i.pP x.params.length i.cP,.slice i.pR x.results.length i.cR,.slice i.pB x.blocks.length i.cB]] w fun e w'=>∃ v,e=.returned v∧(∃ i':FP,v=.agg #[.int .i64 x.regs,.slice i'.pP x.params.length i'.cP,.slice i'.pR x.results.length i'.cR,.slice i'.pB x.blocks.length i'.cB]∧FIn w' (Zm w.heap.size) x i')∧Below w.heap.size w w':=by
 have hx:Hid _:=h;have hs:Hid _:=hs0;have hbd:=h.bnd;clear h hs0;refine Qs (n:=16) Tryz.func59 rfl rfl rfl ?_;intro a hF;have hW:=Wd.start w;replace hF:Fr 16 a [(0,.agg #[.int .i64 x.regs,.slice i.pP x.params.length i.cP,.slice i.pR x.results.length i.cR,.slice i.pB x.blocks.length i.cB])]:=hF;refine wp_seq_k fun K1 hK1=>?_;refine rg hF fun ops=>?_;clear hF a;refine sB hW trivial rfl rfl ?_;clear hW;intro w2 B2 hW2 hN;clear hN;refine QfP hW2 trivial rfl ?_;clear hW2;intro w3 B3 hW3 hN;clear hN;refine St.nil fun a4 h4=>?_;refine hK1 _ _ ?_;refine wp_seq_k fun K5 hK5=>?_;refine rg h4 fun ops=>?_;clear h4 a4;refine Qd9 trivial rfl rfl ?_;refine QaD 1 hW3 trivial rfl rfl rfl rfl ?_;have hlb:max B3 B2+1≤w3.heap.size:=by have h8:=(hW3.get 0 rfl).lt;have h9:=(hW3.get 1 rfl).lt;omega
 refine QjY cf101 hW3 (Qbi (Z1 x.params _ _ _ (Lay.below hx.out.params hW3.bel) (by have:=hs.out.2.1.1;omega) (fun t ht i w h=>cOwnType_any n t i w h (hs.out.2.1.2 t ht)))) trivial rfl rfl rfl ?_;rintro v9 w7 ⟨p5,c5,rfl,hN5⟩ hb9 hW7;replace hN5:=Lay.mono hN5 (O':=Zm (max B3 B2+1)) (fun k hk _=>Nat.le_trans hlb hk);clear hlb hb9 hW3;refine Qd9 trivial rfl rfl ?_;refine s1k 1 inf1Types hW7 rfl rfl rfl rfl rfl rfl ?_;intro w8 hKp hW8;replace hN5:=Lay.keep1 hN5 hKp (by omega);clear hKp hW7;refine St.nil fun a9 h9=>?_;refine hK5 _ _ ?_;refine wp_seq_k fun K10 hK10=>?_;refine rg h9 fun ops=>?_;clear h9 a9;refine Qfm trivial rfl rfl ?_;refine QaD 1 hW8 trivial rfl rfl rfl rfl ?_;have hlb:max B3 B2+1≤w8.heap.size:=by have h8:=(hW8.get 0 rfl).lt;have h9:=(hW8.get 1 rfl).lt;omega
 refine QjY cf101 hW8 (Qbi (Z1 x.results _ _ _ (Lay.below hx.out.results hW8.bel) (by have:=hs.out.2.2.1.1;omega) (fun t ht i w h=>cOwnType_any n t i w h (hs.out.2.2.1.2 t ht)))) trivial rfl rfl rfl ?_;rintro v9 w12 ⟨p9,c9,rfl,hN9⟩ hb9 hW12;replace hN5:=Lay.below hN5 hb9;replace hN9:=Lay.mono hN9 (O':=Zm (max B3 B2+1)) (fun k hk _=>Nat.le_trans hlb hk);clear hlb hb9 hW8;refine Qfm trivial rfl rfl ?_;refine s1k 1 inf1Types hW12 rfl rfl rfl rfl rfl rfl ?_;intro w13 hKp hW13;replace hN5:=Lay.keep1 hN5 hKp (by omega);replace hN9:=Lay.keep1 hN9 hKp (by omega);clear hKp hW12;refine St.nil fun a14 h14=>?_;refine hK10 _ _ ?_;refine wp_seq_k fun K15 hK15=>?_;refine rg h14 fun ops=>?_;clear h14 a14;refine Qbd trivial rfl rfl ?_;refine Qf3 1 hW13 trivial rfl rfl rfl rfl ?_;have hlb:max B3 B2+1≤w13.heap.size:=by have h8:=(hW13.get 0 rfl).lt;have h9:=(hW13.get 1 rfl).lt;omega
 refine QjY cf103 hW13 (Qbi (Qd1 x.blocks _ _ _ (Lay.below hx.out.blocks hW13.bel) (by have:=hs.out.1;omega) (fun t ht i w h=>QdU t i w h (hs.out.2.2.2 t ht)))) trivial rfl rfl rfl ?_;rintro v9 w17 ⟨p13,c13,rfl,hN13⟩ hb9 hW17;replace hN5:=Lay.below hN5 hb9;replace hN9:=Lay.below hN9 hb9;replace hN13:=Lay.mono hN13 (O':=Zm (max B3 B2+1)) (fun k hk _=>Nat.le_trans hlb hk);clear hlb hb9 hW13;refine Qbd trivial rfl rfl ?_;refine s1k 1 inf1Blocks hW17 rfl rfl rfl rfl rfl rfl ?_;intro w18 hKp hW18;replace hN5:=Lay.keep1 hN5 hKp (by omega);replace hN9:=Lay.keep1 hN9 hKp (by omega);replace hN13:=Lay.keep1 hN13 hKp (by omega);clear hKp hW17;refine St.nil fun a19 h19=>?_;refine hK15 _ _ ?_;refine wp_seq_k fun K20 hK20=>?_;refine rg h19 fun ops=>?_;clear h19 a19;refine sS 1 4 Tryz.underlying40 rfl infFunc hW18 trivial rfl rfl rfl rfl ?_;refine sTk 0 hW18 rfl rfl infFunc rfl rfl rfl ?_;intro w21 hKp hW21;replace hN5:=Lay.keep1 hN5 hKp (by omega);replace hN9:=Lay.keep1 hN9 hKp (by omega);replace hN13:=Lay.keep1 hN13 hKp (by omega);clear hKp hW18;refine St.nil fun a22 h22=>?_;refine hK20 _ _ ?_;refine wp_ret ?_;with_reducible repeat first | refine Qd ?_ | refine Qc ?_
 have hlow:w.heap.size≤max B3 B2+1:=by have h8:=hW21.new 0 _ rfl;simp only at h8;omega
 exact QN 0 h22 hW21 rfl rfl rfl Tryz.underlying40 rfl infFunc ⟨_,rfl,⟨⟨p5,c5,p9,c9,p13,c13⟩,rfl,⟨Lay.mono hN5 (fun k hk _=>Nat.le_trans hlow hk),Lay.mono hN9 (fun k hk _=>Nat.le_trans hlow hk),Lay.mono hN13 (fun k hk _=>Nat.le_trans hlow hk),hbd⟩⟩,hW21.bel⟩
theorem QjD {n:Nat}(m:List (Qf n)) (p:Option Addr) (c:Nat) (w:World) (h:(Qa5 n).In w All m [.slice p m.length c]) (hs0:Qa9 m) :
 Calls Tryz.prog 28 #[.agg #[.slice p m.length c]] w fun e w'=>∃ v,e=.returned v∧(∃ a' c',v=.agg #[.slice a' m.length c']∧(Qa5 n).In w' (Zm w.heap.size) m [.slice a' m.length c'])∧Below w.heap.size w w':=by
 have hx:Hid _:=h;have hs:Hid _:=hs0;clear h hs0;refine Qs (n:=7) Tryz.func28 rfl rfl rfl ?_;intro a hF;have hW:=Wd.start w;replace hF:Fr 7 a [(0,.agg #[.slice p m.length c])]:=hF;refine wp_seq_k fun K1 hK1=>?_;refine rg hF fun ops=>?_;clear hF a;refine sB hW trivial rfl rfl ?_;clear hW;intro w2 B2 hW2 hN;clear hN;refine Qcs hW2 trivial rfl ?_;clear hW2;intro w3 B3 hW3 hN;clear hN;refine St.nil fun a4 h4=>?_;refine hK1 _ _ ?_;refine wp_seq_k fun K5 hK5=>?_;refine rg h4 fun ops=>?_;clear h4 a4;refine ZF trivial rfl rfl ?_;refine QcI 1 hW3 trivial rfl rfl rfl rfl ?_;have hlb:max B3 B2+1≤w3.heap.size:=by have h8:=(hW3.get 0 rfl).lt;have h9:=(hW3.get 1 rfl).lt;omega
 refine QjY cf58 hW3 (Qbi (Qe1 m _ _ _ (Lay.below hx.out hW3.bel) (by have:=hs.out.1;omega) (fun t ht i w h=>QeH t i w h (hs.out.2 t ht)))) trivial rfl rfl rfl ?_;rintro v9 w7 ⟨p5,c5,rfl,hN5⟩ hb9 hW7;replace hN5:=Lay.mono hN5 (O':=Zm (max B3 B2+1)) (fun k hk _=>Nat.le_trans hlb hk);clear hlb hb9 hW3;intro a8 h8;refine Q2 (t:=6) (v:=.agg #[.slice p5 m.length c5]) (w':=w7) h8 rfl rfl rfl (fun K hK=>?_) ?_
 ·have k0:a8.tmps[5]?.getD undef=.slice p5 m.length c5:=h8.sl2 5 _ rfl
  go_simp;exact hK
 clear h8;intro a9 hF9;refine St.go hF9 ?_;clear hF9 a9;refine sTk 0 hW7 rfl rfl infModule rfl rfl rfl ?_;intro w10 hKp hW10;replace hN5:=Lay.keep1 hN5 hKp (by omega);clear hKp hW7;refine St.nil fun a11 h11=>?_;refine hK5 _ _ ?_;refine wp_ret ?_;with_reducible repeat first | refine Qd ?_ | refine Qc ?_
 have hlow:w.heap.size≤max B3 B2+1:=by have h8:=hW10.new 0 _ rfl;simp only at h8;omega
 exact QN 0 h11 hW10 rfl rfl rfl Tryz.underlying24 rfl infModule ⟨_,rfl,⟨p5,c5,rfl,Lay.mono hN5 (fun k hk _=>Nat.le_trans hlow hk)⟩,hW10.bel⟩
def Qf7 (m:List (Qf 6)) (f b:Int):Bool:=decide (0≤f)&&(match m[f.toNat]? with | none=>false | some g=>decide (0≤b)&&decide (b<(g.blocks.length:Int)))
theorem Qiy {m:List (Qf 6)}{f b:Int}(h:Qf7 m f b=true):∃ (i j:Nat) (fn:Qf 6) (g:Qe 6),f=(i:Int)∧b=(j:Int)∧m[i]?=some fn∧fn.blocks[j]?=some g:=by
 unfold Qf7 at h;simp only[Bool.and_eq_true,decide_eq_true_eq] at h
 obtain⟨h1,h2⟩:=h
 obtain⟨i,rfl⟩:=Int.eq_ofNat_of_zero_le h1
 rw[Int.toNat_natCast] at h2
 cases e:m[i]? with
 | none=>rw[e] at h2;cases h2
 | some fn =>
   rw[e] at h2
   simp only[Bool.and_eq_true,decide_eq_true_eq] at h2
   obtain⟨j,rfl⟩:=Int.eq_ofNat_of_zero_le h2.1
   exact⟨i,j,fn,_,rfl,rfl,e,List.getElem?_eq_getElem (by omega)⟩
theorem Qjb {w:World}{m:List (Qf 6)}{p:Option Addr}{c:Nat}(f b:Int) (hm8:m.length≤100000) (hm:(Qa5 6).In w All m [.slice p m.length c]) :
 Calls Tryz.prog 27 #[.agg #[.slice p m.length c],.int .i64 f,.int .i64 b] w fun e w'=>e=.returned (.bool (Qf7 m f b))∧Below w.heap.size w w':=by
 have b1:=QQ w (.cells #[.slice p m.length c] 24);have HB:=Qa b1;have x0:=Qb (Qu w #[.slice p m.length c] 24) 0 _ rfl;by_cases h0:0≤f
 rotate_left
 ·have E:Hid (Qf7 m f b=false):=by show _=_;unfold Qf7;rw[decide_eq_false h0];rfl
  have h0':decide (f≥0)=false:=decide_eq_false h0;clear hm b1;generalize m.length=nm at x0 HB;go_enter Tryz.func27,Tryz.ntmps27
  go_wp2
  go_ret;exact⟨by rw[E.out];rfl,HB.out⟩
 obtain⟨i,rfl⟩:=Int.eq_ofNat_of_zero_le h0
 by_cases h1:i<m.length
 rotate_left
 ·have E:Hid (Qf7 m (i:Int) b=false):=by show _=_;unfold Qf7;rw[Int.toNat_natCast,List.getElem?_eq_none (by omega)];simp
  have h1':¬ (i:Int)<m.length:=by omega
  clear hm b1;generalize m.length=nm at x0 HB h1 h1' hm8;go_enter Tryz.func27,Tryz.ntmps27
  go_wp2
  go_ret;exact⟨by rw[E.out];rfl,HB.out⟩
 have hg:m[i]?=some m[i]:=List.getElem?_eq_getElem h1;generalize m[i]=g at hg;obtain⟨mg,mo,a1,c1,a2,c2,a3,c3,rfl,f0,f1,f2,f3,-,-⟩:=Qdj hm hg
 have hmgl:mg<w.heap.size:=World.block_lt_of_cell? w ⟨mg,mo+i*4,none⟩ f0;have E:Hid (Qf7 m (i:Int) b=(decide (0≤b)&&decide (b<(g.blocks.length:Int)))):=by show _=_;unfold Qf7;rw[Int.toNat_natCast,hg];simp
 have h1':(i:Int)<m.length:=by omega
 clear hm b1 f0 f1 f2 hg;generalize m.length=nm at x0 HB h1 h1' hm8;generalize g.blocks.length=nb at f3 E;by_cases hb0:0≤b
 rotate_left
 ·have hb0':decide (b≥0)=false:=decide_eq_false hb0;rw[show (decide (0≤b)&&decide (b<(nb:Int)))=false by rw[decide_eq_false hb0];rfl] at E
  go_enter Tryz.func27,Tryz.ntmps27
  go_wp2
  go_ret;exact⟨by rw[E.out];rfl,HB.out⟩
 ·have hb0':decide (b≥0)=true:=decide_eq_true hb0;rw[show (decide (0≤b)&&decide (b<(nb:Int)))=decide (b<(nb:Int)) by rw[decide_eq_true hb0];rfl] at E
  by_cases hbn:b<(nb:Int)
  ·rw[decide_eq_true hbn] at E
   go_enter Tryz.func27,Tryz.ntmps27
   go_wp2
   go_ret;exact⟨by rw[E.out];rfl,HB.out⟩
  ·rw[decide_eq_false hbn] at E
   go_enter Tryz.func27,Tryz.ntmps27
   go_wp2
   go_ret;exact⟨by rw[E.out];rfl,HB.out⟩
theorem Qlm {w1:World}{cs:List Value}(hl:cs.length=12) :
 Blk ((w1.alloc (.cells #[.int .i64 0,.slice none 0 0,.slice none 0 0,.int .i64 0,.int .i64 0,.int .i64 0,.slice none 0 0,.slice none 0 0,.int .i64 0,.slice none 0 0,.slice none 0 0,.slice none 0 0] 60)).setCells w1.heap.size 0 cs.toArray.toList) w1.heap.size cs.toArray 60∧Below w1.heap.size w1 ((w1.alloc (.cells #[.int .i64 0,.slice none 0 0,.slice none 0 0,.int .i64 0,.int .i64 0,.int .i64 0,.slice none 0 0,.slice none 0 0,.int .i64 0,.slice none 0 0,.slice none 0 0,.slice none 0 0] 60)).setCells w1.heap.size 0 cs.toArray.toList)∧(w1.alloc (.cells #[.int .i64 0,.slice none 0 0,.slice none 0 0,.int .i64 0,.int .i64 0,.int .i64 0,.slice none 0 0,.slice none 0 0,.int .i64 0,.slice none 0 0,.slice none 0 0,.slice none 0 0] 60)).there w1.heap.size 0 cs.toArray.size:=by
 have hB:=Qu w1 #[.int .i64 0,.slice none 0 0,.slice none 0 0,.int .i64 0,.int .i64 0,.int .i64 0,.slice none 0 0,.slice none 0 0,.int .i64 0,.slice none 0 0,.slice none 0 0,.slice none 0 0] 60;refine⟨?_,?_,?_⟩
 ·have h0:Blk (w1.alloc (.cells #[.int .i64 0,.slice none 0 0,.slice none 0 0,.int .i64 0,.int .i64 0,.int .i64 0,.slice none 0 0,.slice none 0 0,.int .i64 0,.slice none 0 0,.slice none 0 0,.slice none 0 0] 60)) w1.heap.size ([]++(#[.int .i64 0,.slice none 0 0,.slice none 0 0,.int .i64 0,.int .i64 0,.int .i64 0,.slice none 0 0,.slice none 0 0,.int .i64 0,.slice none 0 0,.slice none 0 0,.slice none 0 0]:Array Value).toList).toArray 60:=hB;exact Blk.sets cs [] (#[.int .i64 0,.slice none 0 0,.slice none 0 0,.int .i64 0,.int .i64 0,.int .i64 0,.slice none 0 0,.slice none 0 0,.int .i64 0,.slice none 0 0,.slice none 0 0,.slice none 0 0]:Array Value).toList _ (by rw[hl];rfl) h0
 ·have:=Zj.setCells (O:=fun k=>k=w1.heap.size) (O':=fun k=>k=w1.heap.size) (b:=w1.heap.size) rfl cs.toArray.toList 0 _ (Zj.refl _ (w1.alloc (.cells #[.int .i64 0,.slice none 0 0,.slice none 0 0,.int .i64 0,.int .i64 0,.int .i64 0,.slice none 0 0,.slice none 0 0,.int .i64 0,.slice none 0 0,.slice none 0 0,.slice none 0 0] 60)))
  exact(QQ w1 _).trans (this.below (by simp) (fun k hk=>by omega))
 ·intro j hj;rw[List.size_toArray,hl] at hj
  rw[Nat.zero_add]
  refine⟨?_,Qo hB j⟩
  rw[Qb hB j ((#[.int .i64 0,.slice none 0 0,.slice none 0 0,.int .i64 0,.int .i64 0,.int .i64 0,.slice none 0 0,.slice none 0 0,.int .i64 0,.slice none 0 0,.slice none 0 0,.slice none 0 0]:Array Value)[j]'hj) (by simp)];rfl
theorem ZU {w w':World}{e:TypeId}{s n:Nat}{v:Value}{xs:List Value}(h:w.ownsRow 0 e s v n xs) (hb:Below w.heap.size w w'):w'.ownsRow 0 e s v n xs:=by
 obtain⟨h1,h2⟩:=h
 refine⟨h1,?_⟩
 rcases h2 with h4 | ⟨g,cap,cur,e',hg,hh,r⟩
 ·exact .inl h4
 ·exact .inr ⟨g,cap,cur,e',hg,(hb.block g (lt_of_block hh)).trans hh,r⟩
theorem QhL {w:World}{e:TypeId}{s n:Nat}{v:Value}{xs:List Value}(h:w.ownsRow 0 e s v n xs):∃ a c,v=.slice a n c:=by
 obtain⟨h1,h2⟩:=h
 rcases h2 with ⟨h4,h5⟩|⟨g,cap,cur,e',hg,hh,r⟩
 ·exact⟨none,0,by rw[h4,h5]⟩
 ·exact⟨_,_,e'⟩
def Qlz (w7:World) (M9 F10 B11 nm cm n1 d1 n2 d2 n3 d3 np cp:Nat) (fr br:Int) (pm p1 p2 p3 pp:Option Addr) (ps:List (TT 6)) (QP:Nat→Prop) (t:Tmp) (v:Value) (w:World):Prop :=
 match ([(39,fun v w=>∃ hh,v=.pointer (some ⟨hh,0,none⟩)∧w7.heap.size≤hh∧Qq w hh (QdF br)),(43,fun v w=>∃ a c ds,v=.slice a np c∧w.ownsRow 0 70 3 (.slice a np c) np ds∧(∀ g,(Value.slice a np c).ownBlock=some g→w7.heap.size≤g)∧(∀ i x,ps[i]?=some x→(Lay.tt 6).In w7 QP x ((ds.drop (i*3)).take 3))),(44,fun v w=>∃ hh a c ds,v=.agg #[.slice pm nm cm,.pointer (some ⟨hh,0,none⟩),.int .i64 fr,.slice p1 n1 d1,.slice p2 n2 d2,.slice p3 n3 d3,.slice a np c]∧w7.heap.size≤hh∧Qq w hh (QdF br)∧w.ownsRow 0 70 3 (.slice a np c) np ds∧(∀ g,(Value.slice a np c).ownBlock=some g→w7.heap.size≤g)∧(∀ i x,ps[i]?=some x→(Lay.tt 6).In w7 QP x ((ds.drop (i*3)).take 3))),(45,fun v w=>∃ B hh a c ds,v=.pointer (some ⟨B,0,none⟩)∧w7.heap.size≤B∧w.heap[B]?=some (.cells #[.slice pm nm cm,.pointer (some ⟨hh,0,none⟩),.int .i64 fr,.slice p1 n1 d1,.slice p2 n2 d2,.slice p3 n3 d3,.slice a np c] 42 (0,0))∧w7.heap.size≤hh∧Qq w hh (QdF br)∧w.ownsRow 0 70 3 (.slice a np c) np ds∧(∀ g,(Value.slice a np c).ownBlock=some g→w7.heap.size≤g)∧(∀ i x,ps[i]?=some x→(Lay.tt 6).In w7 QP x ((ds.drop (i*3)).take 3))),(6,fun v w=>∃ B hh a c ds,v=.pointer (some ⟨B,0,none⟩)∧w7.heap.size≤B∧w.heap[B]?=some (.cells #[.slice pm nm cm,.pointer (some ⟨hh,0,none⟩),.int .i64 fr,.slice p1 n1 d1,.slice p2 n2 d2,.slice p3 n3 d3,.slice a np c] 42 (0,0))∧w7.heap.size≤hh∧Qq w hh (QdF br)∧w.ownsRow 0 70 3 (.slice a np c) np ds∧(∀ g,(Value.slice a np c).ownBlock=some g→w7.heap.size≤g)∧(∀ i x,ps[i]?=some x→(Lay.tt 6).In w7 QP x ((ds.drop (i*3)).take 3)))]:List (Tmp × (Value→World→Prop))).lookup t with
 | some p=>p v w
 | none=>v=(([(9,.pointer (some ⟨M9,0,none⟩)),(10,.pointer (some ⟨F10,0,none⟩)),(11,.pointer (some ⟨B11,0,none⟩)),(36,.agg #[.slice pm nm cm]),(37,.pointer (some ⟨B11,0,none⟩)),(38,.int .i64 br),(40,.agg #[.int .i64 fr,.slice p1 n1 d1,.slice p2 n2 d2,.slice p3 n3 d3]),(41,.pointer (some ⟨B11,1,none⟩)),(42,.slice pp np cp),(46,.agg #[.int .i64 0,.int .i64 0])]:List (Tmp × Value)).lookup t).getD undef
theorem jn9 {w7:World}{M9 F10 B11 nm cm n1 d1 n2 d2 n3 d3 np cp:Nat}{fr br:Int}{pm p1 p2 p3 pp:Option Addr}{ps:List (TT 6)}{QP:Nat→Prop}(m0:w7.cell? ⟨M9,0,none⟩=some (.slice pm nm cm)) (f0:w7.cell? ⟨F10,0,none⟩=some (.int .i64 fr)) (f1:w7.cell? ⟨F10,1,none⟩=some (.slice p1 n1 d1)) (f2:w7.cell? ⟨F10,2,none⟩=some (.slice p2 n2 d2)) (f3:w7.cell? ⟨F10,3,none⟩=some (.slice p3 n3 d3)) (y0:w7.cell? ⟨B11,0,none⟩=some (.int .i64 br)) (y1:w7.cell? ⟨B11,1,none⟩=some (.slice pp np cp)) (hbr:-9223372036854775808≤br∧br≤9223372036854775807) (HNP:Hid (ps.length=np)) (hnp:np≤5000) (HP:Hid ((Qh 6).In w7 QP ps [.slice pp np cp])) (HPB:Hid (∀ (i:Nat) (x:TT 6) (cs:List Value){w:World},ps[i]?=some x→(Lay.tt 6).In w QP x cs→Below w7.heap.size w7 w→(Lay.tt 6).In w7 QP x cs)){Q:Exit→Act→World→Prop}
 (a:Act) (m:Nat) (hn:a.tmps.size=m) (hn':47≤m) (h9:a.tmps.getD 9 undef=.pointer (some ⟨M9,0,none⟩)) (h10:a.tmps.getD 10 undef=.pointer (some ⟨F10,0,none⟩)) (h11:a.tmps.getD 11 undef=.pointer (some ⟨B11,0,none⟩))
 (hend:∀ ops vs w',vs 46=.agg #[.int .i64 0,.int .i64 0]→(fun v w=>∃ B hh a c ds,v=.pointer (some ⟨B,0,none⟩)∧w7.heap.size≤B∧w.heap[B]?=some (.cells #[.slice pm nm cm,.pointer (some ⟨hh,0,none⟩),.int .i64 fr,.slice p1 n1 d1,.slice p2 n2 d2,.slice p3 n3 d3,.slice a np c] 42 (0,0))∧w7.heap.size≤hh∧Qq w hh (QdF br)∧w.ownsRow 0 70 3 (.slice a np c) np ds∧(∀ g,(Value.slice a np c).ownBlock=some g→w7.heap.size≤g)∧(∀ i x,ps[i]?=some x→(Lay.tt 6).In w7 QP x ((ds.drop (i*3)).take 3))) (vs 6) w'→Below w7.heap.size w7 w'→wpList Tryz.prog ops Q (Qid 12 ((Tryz.f8.body.bind (QF 9)).getD .skip)) (Z3 a vs [36,37,38,39,40,41,42,43,44,45,46,6]) w') :
 Code.wp Tryz.prog ((Tryz.f8.body.bind (QF 9)).getD .skip) Q a w7:=by
 conv=>arg 2;whnf
 refine QZ 12 (Qlz w7 M9 F10 B11 nm cm n1 d1 n2 d2 n3 d3 np cp fr br pm p1 p2 p3 pp ps QP) (fun w=>Below w7.heap.size w7 w) (fun w w'=>Below w.heap.size w w') (outs:=[9,10,11]) (gs:=[]) (bs:=[true,true,true,true,true,true,true,true,true,true,true,true]) (by kernel_rfl) (n:=47) hn hn' (by kernel_rfl) (by kernel_rfl) ?hR ?hG (ZW (Below.refl _ _) 1) ⟨h9,h10,h11,trivial⟩ ?hA ?hend
 case hR =>
  intro t v w w' hr h;unfold Qlz at h ⊢;split at h
  ·rename_i p hp
   simp only[List.lookup_cons,List.lookup_nil] at hp
   split at hp
   ·cases hp;exact(by obtain⟨hh,e,h1,h2⟩:=h;exact⟨hh,e,h1,h2.below hr⟩)
   ·split at hp
    ·cases hp;exact(by obtain⟨a,c,ds,e,h1,h2,h3⟩:=h;exact⟨a,c,ds,e,ZU h1 hr,h2,h3⟩)
    ·split at hp
     ·cases hp;exact(by obtain⟨hh,a,c,ds,e,h1,h2,h3,h4,h5⟩:=h;exact⟨hh,a,c,ds,e,h1,h2.below hr,ZU h3 hr,h4,h5⟩)
     ·split at hp
      ·cases hp;exact(by obtain⟨B,hh,a,c,ds,e,g1,g2,h1,h2,h3,h4,h5⟩:=h;exact⟨B,hh,a,c,ds,e,g1,(hr.block B (lt_of_block g2)).trans g2,h1,h2.below hr,ZU h3 hr,h4,h5⟩)
      ·split at hp
       ·cases hp;exact(by obtain⟨B,hh,a,c,ds,e,g1,g2,h1,h2,h3,h4,h5⟩:=h;exact⟨B,hh,a,c,ds,e,g1,(hr.block B (lt_of_block g2)).trans g2,h1,h2.below hr,ZU h3 hr,h4,h5⟩)
       ·cases hp
  ·exact h
 case hG=>exact trivial
 case hend=>exact fun ops vs w' hW hk=>hend ops vs w' (hk 46 (by kernel_rfl)) (hk 6 (by kernel_rfl)) hW
 case hA =>
  refine⟨fun a w hW hk K hK=>?_,?_⟩
  ·obtain⟨k0,-⟩:=hk
   have k0:a.tmps.getD 9 undef=.pointer (some ⟨M9,0,none⟩):=k0;have c0:=QY m0 hW;go_simp;exact hK _ _ (Below.refl _ _) hW rfl
  refine⟨fun a w hW hk K hK=>?_,?_⟩
  ·obtain⟨k0,-⟩:=hk
   have k0:a.tmps.getD 11 undef=.pointer (some ⟨B11,0,none⟩):=k0;go_simp;exact hK _ _ (Below.refl _ _) hW rfl
  refine⟨fun a w hW hk K hK=>?_,?_⟩
  ·obtain⟨k0,-⟩:=hk
   have k0:a.tmps.getD 37 undef=.pointer (some ⟨B11,0,none⟩):=k0;have c0:=QY y0 hW;go_simp;exact hK _ _ (Below.refl _ _) hW rfl
  refine⟨fun a w hW hk K hK=>?_,?_⟩
  ·obtain⟨k0,-⟩:=hk
   have k0:a.tmps.getD 38 undef=.int .i64 br:=k0;go_simp;refine Calls.mono (Qjc _ br hbr) ?_;rintro r7 w8 ⟨rfl,hh8,b8⟩;go_simp;exact hK _ _ b8 (hW.trans (b8.mono hW.size)) ⟨_,rfl,hW.size,hh8⟩
  refine⟨fun a w hW hk K hK=>?_,?_⟩
  ·obtain⟨k0,-⟩:=hk
   have k0:a.tmps.getD 10 undef=.pointer (some ⟨F10,0,none⟩):=k0;have c0:=QY f0 hW;have c1:=QY f1 hW;have c2:=QY f2 hW;have c3:=QY f3 hW;go_simp;exact hK _ _ (Below.refl _ _) hW rfl
  refine⟨fun a w hW hk K hK=>?_,?_⟩
  ·obtain⟨k0,-⟩:=hk
   have k0:a.tmps.getD 11 undef=.pointer (some ⟨B11,0,none⟩):=k0;go_simp;exact hK _ _ (Below.refl _ _) hW rfl
  refine⟨fun a w hW hk K hK=>?_,?_⟩
  ·obtain⟨k0,-⟩:=hk
   have k0:a.tmps.getD 41 undef=.pointer (some ⟨B11,1,none⟩):=k0;have c0:=QY y1 hW;go_simp;exact hK _ _ (Below.refl _ _) hW rfl
  refine⟨fun a w hW hk K hK=>?_,?_⟩
  ·obtain⟨k0,-⟩:=hk
   have k0:a.tmps.getD 42 undef=.slice pp np cp:=k0;go_simp;refine Calls.mono (Qdh HNP.out hnp (Lay.below HP.out hW)) ?_;rintro r7 w8 ⟨v8,ds8,rfl,o1,o2,o3,b8⟩;rw[HNP.out] at o1
   obtain⟨a8,c8,rfl⟩:=QhL o1
   go_simp;exact hK _ _ b8 (hW.trans (b8.mono hW.size)) ⟨a8,c8,ds8,rfl,o1,fun g hg=>Nat.le_trans hW.size (o2 g hg),fun i x hx=>HPB.out i x _ hx (o3 i x hx) hW⟩
  refine⟨fun a w hW hk K hK=>?_,?_⟩
  ·obtain⟨k0,k1,k2,k3,-⟩:=hk
   have k0:a.tmps.getD 36 undef=.agg #[.slice pm nm cm]:=k0;have k1:(fun v w=>∃ hh,v=.pointer (some ⟨hh,0,none⟩)∧w7.heap.size≤hh∧Qq w hh (QdF br)) (a.tmps.getD 39 undef) w:=k1;generalize k1e:a.tmps.getD 39 undef=uk1 at k1;have k2:a.tmps.getD 40 undef=.agg #[.int .i64 fr,.slice p1 n1 d1,.slice p2 n2 d2,.slice p3 n3 d3]:=k2;have k3:(fun v w=>∃ a c ds,v=.slice a np c∧w.ownsRow 0 70 3 (.slice a np c) np ds∧(∀ g,(Value.slice a np c).ownBlock=some g→w7.heap.size≤g)∧(∀ i x,ps[i]?=some x→(Lay.tt 6).In w7 QP x ((ds.drop (i*3)).take 3))) (a.tmps.getD 43 undef) w:=k3;generalize k3e:a.tmps.getD 43 undef=uk3 at k3;obtain⟨hh,rfl,g1,g2⟩:=k1
   obtain⟨a3,c3,ds3,rfl,h1,h2,h3⟩:=k3
   have j0:a.tmps[36]?.getD undef=.agg #[.slice pm nm cm]:=by simpa using k0
   have j1:a.tmps[39]?.getD undef=.pointer (some ⟨hh,0,none⟩):=by simpa using k1e
   have j2:a.tmps[40]?.getD undef=.agg #[.int .i64 fr,.slice p1 n1 d1,.slice p2 n2 d2,.slice p3 n3 d3]:=by simpa using k2
   have j3:a.tmps[43]?.getD undef=.slice a3 np c3:=by simpa using k3e
   go_simp;exact hK _ _ (Below.refl _ _) hW ⟨hh,a3,c3,ds3,rfl,g1,g2,h1,h2,h3⟩
  refine⟨fun a w hW hk K hK=>?_,?_⟩
  ·obtain⟨k0,-⟩:=hk
   have k0:(fun v w=>∃ hh a c ds,v=.agg #[.slice pm nm cm,.pointer (some ⟨hh,0,none⟩),.int .i64 fr,.slice p1 n1 d1,.slice p2 n2 d2,.slice p3 n3 d3,.slice a np c]∧w7.heap.size≤hh∧Qq w hh (QdF br)∧w.ownsRow 0 70 3 (.slice a np c) np ds∧(∀ g,(Value.slice a np c).ownBlock=some g→w7.heap.size≤g)∧(∀ i x,ps[i]?=some x→(Lay.tt 6).In w7 QP x ((ds.drop (i*3)).take 3))) (a.tmps.getD 44 undef) w:=k0;generalize k0e:a.tmps.getD 44 undef=uk0 at k0;obtain⟨hh,a3,c3,ds3,rfl,g1,g2,h1,h2,h3⟩:=k0
   go_simp;have b8:=QQ w (.cells #[.slice pm nm cm,.pointer (some ⟨hh,0,none⟩),.int .i64 fr,.slice p1 n1 d1,.slice p2 n2 d2,.slice p3 n3 d3,.slice a3 np c3] 42);exact hK _ _ b8 (hW.trans (b8.mono hW.size)) ⟨w.heap.size,hh,a3,c3,ds3,rfl,hW.size,Qu _ _ _,g1,g2.below b8,ZU h1 b8,h2,h3⟩
  refine⟨fun a w hW hk K hK=>?_,?_⟩
  ·clear hk;go_simp;exact hK _ _ (Below.refl _ _) hW rfl
  refine⟨fun a w hW hk K hK=>?_,?_⟩
  ·obtain⟨k0,-⟩:=hk
   have k0:(fun v w=>∃ B hh a c ds,v=.pointer (some ⟨B,0,none⟩)∧w7.heap.size≤B∧w.heap[B]?=some (.cells #[.slice pm nm cm,.pointer (some ⟨hh,0,none⟩),.int .i64 fr,.slice p1 n1 d1,.slice p2 n2 d2,.slice p3 n3 d3,.slice a np c] 42 (0,0))∧w7.heap.size≤hh∧Qq w hh (QdF br)∧w.ownsRow 0 70 3 (.slice a np c) np ds∧(∀ g,(Value.slice a np c).ownBlock=some g→w7.heap.size≤g)∧(∀ i x,ps[i]?=some x→(Lay.tt 6).In w7 QP x ((ds.drop (i*3)).take 3))) (a.tmps.getD 45 undef) w:=k0;generalize k0e:a.tmps.getD 45 undef=uk0 at k0;obtain⟨B,hh,a3,c3,ds3,rfl,g1,g2,h0,h1,h2,h3,h4⟩:=k0
   go_simp;exact hK _ _ (Below.refl _ _) hW ⟨B,hh,a3,c3,ds3,rfl,g1,g2,h0,h1,h2,h3,h4⟩
  trivial
def Qla (w:World) (m:List (Qf 6)) (f b:Int) (e:Ending) (w':World):Prop :=
 Below w.heap.size w w'∧(((Qg m).1≠0∧e=.returned (.tuple #[.pointer none,QD (Qg m)])) ∨
  ((Qg m).1=0∧Qf7 m f b=false∧e=.returned (.tuple #[.pointer none,.agg #[.int .i64 1,.int .i64 (-1)]])) ∨
  ((Qg m).1=0∧Qf7 m f b=true∧∃ (i j:Nat) (fn:Qf 6) (g:Qe 6) (B:Nat) (O A:Nat→Prop),f=(i:Int)∧b=(j:Int)∧m[i]?=some fn∧fn.blocks[j]?=some g∧e=.returned (.tuple #[.pointer (some ⟨B,0,none⟩),.agg #[.int .i64 0,.int .i64 0]])∧SAt w' B O A (JSt.start m fn g)∧∀ k,A k→w.heap.size≤k∧k<w'.heap.size))
theorem Qi9 {w:World}{m:List (Qf 6)}{p:Option Addr}{c:Nat}(f b:Int) (hng:¬ QG m) (hm:(Qa5 6).In w All m [.slice p m.length c]) :
 Calls Tryz.prog 8 #[.agg #[.slice p m.length c],.int .i64 f,.int .i64 b] w fun e w'=>Qla w m f b e w':=by
 have hms:Qa9 m:=Qae hng;have HMS:=Qa hms;have b1:=QQ w (.cells #[.slice p m.length c] 24);have b2:=QQ (w.alloc (.cells #[.slice p m.length c] 24)) (.cells #[.int .i64 0,.int .i64 0] 30);have bb:=b1.trans (b2.mono b1.size);have HB:=Qa bb;have hX:Blk ((w.alloc (.cells #[.slice p m.length c] 24)).alloc (.cells #[.int .i64 0,.int .i64 0] 30)) w.heap.size #[.slice p m.length c] 24:=(Blk.new _ _ _:Blk (w.alloc (.cells #[.slice p m.length c] 24)) w.heap.size _ _).below b2
 have hR:Blk ((w.alloc (.cells #[.slice p m.length c] 24)).alloc (.cells #[.int .i64 0,.int .i64 0] 30)) (w.heap.size+1) #[.int .i64 0,.int .i64 0] 30:=by
  have:=Blk.new (w.alloc (.cells #[.slice p m.length c] 24)) #[.int .i64 0,.int .i64 0] 30
  simpa using this
 have HX:=Qa hX;have HR:=Qa hR;have HM:=Qa hm;have HM1:Hid ((Qa5 6).In _ All m [.slice p m.length c]):=Lay.below hm bb;have hm8:m.length≤100000:=hms.1;clear hX hR b1 b2 bb hm hms hng;go_enter Tryz.func8,Tryz.ntmps8
 go_upto_region 1 with fail
 generalize (w.alloc (.cells #[.slice p m.length c] 24)).alloc (.cells #[.int .i64 0,.int .i64 0] 30)=w1 at HB HX HR HM1 ⊢;obtain⟨X,hX⟩:∃ X,X=w.heap.size:=⟨_,rfl⟩
 obtain⟨R,hR⟩:∃ R,R=X+1:=⟨_,rfl⟩
 rw[← hX] at HX HR ⊢
 rw[← hR] at HR ⊢
 have HXE:=Qa hX;have HRE:Hid (w.heap.size≤R):=by show _≤_;omega
 have HXR:¬ X=R:=by omega
 clear hX hR;have x0:=Qb HX.out 0 _ rfl;have CC:=Qa (Qb8 HM1.out HMS.out);unfold Rd at CC;go_wp2_with fail
 refine CC.out.mono ?_;rintro e2 w2 ⟨rfl,b2⟩;have HB2:=Qa (HB.out.trans (b2.mono HB.out.size));have HX2:=Qa (HX.out.below b2);have HR2:=Qa (HR.out.below b2);clear b2 CC x0 HX HR HB HM1;have b3:=QQ w2 (.cells #[.int .i64 (Qg m).1,.int .i64 (Qg m).2] 30);have HB3:=Qa (HB2.out.trans (b3.mono HB2.out.size));have HX3:=Qa (HX2.out.below b3);have HR3:=Qa (HR2.out.below b3);have hF3:=Blk.new w2 #[.int .i64 (Qg m).1,.int .i64 (Qg m).2] 30;have HF3:=Qa hF3;have hRF:¬ w2.heap.size=R:=by have:=HR2.out.lt;omega
 clear b3 hF3 HB2 HX2 HR2;go_upto_region 2 with fail
 generalize w2.alloc (.cells #[.int .i64 (Qg m).1,.int .i64 (Qg m).2] 30)=w3 at HB3 HX3 HR3 HF3 ⊢;generalize w2.heap.size=F8 at HF3 hRF ⊢;obtain⟨c0,a0,hcf⟩:∃ c0 a0,Qg m=(c0,a0):=⟨_,_,rfl⟩
 rw[hcf] at HF3 ⊢
 have HCF:=Qa hcf;clear hcf;simp only at HF3 ⊢
 have y0:=Qb HF3.out 0 _ rfl;have y1:=Qb HF3.out 1 _ rfl;by_cases hc0:c0=0
 rotate_left
 ·have hc0':(c0 != 0)=true:=by simpa using hc0
  have r0:=Qb HR3.out 0 _ rfl;have r1:=Qb HR3.out 1 _ rfl;have z0:=Qo HR3.out 0;have z1:=Qo HR3.out 1;have HC0:=Qa hc0;clear hc0;go_upto_region 3 with fail
  go_region
  all_goals
   have D2:Blk ((w3.setCell ⟨R,0,none⟩ (.int .i64 c0)).setCell ⟨R,1,none⟩ (.int .i64 a0)).drew R #[.int .i64 c0,.int .i64 a0] 30:=by
    have h9:Blk ((w3.setCell ⟨R,0,none⟩ (.int .i64 c0)).setCell ⟨R,1,none⟩ (.int .i64 a0)) R #[.int .i64 c0,.int .i64 a0] 30:=by
     have:=Qk (Qk HR3.out 0 (.int .i64 c0)) 1 (.int .i64 a0)
     simpa using this
    exact h9
   have D3:Below w.heap.size w ((w3.setCell ⟨R,0,none⟩ (.int .i64 c0)).setCell ⟨R,1,none⟩ (.int .i64 a0)).drew:=Qb2 ((HB3.out.setCell (p:=⟨R,0,none⟩) HRE.out _).setCell (p:=⟨R,1,none⟩) HRE.out _);clear y0 y1 r0 r1 z0 z1;generalize ((w3.setCell ⟨R,0,none⟩ (.int .i64 c0)).setCell ⟨R,1,none⟩ (.int .i64 a0)).drew=w9 at D2 D3 ⊢;have q0:=Qb D2 0 _ rfl;have q1:=Qb D2 1 _ rfl;go_wp2
   exact bodyPost_ret (v:=.tuple #[.pointer none,.agg #[.int .i64 c0,.int .i64 a0]]) (by simp[results,Tryz.results8,go_sem,q0,q1]) rfl ⟨D3,.inl ⟨by rw[HCF.out];exact HC0.out,by rw[HCF.out]⟩⟩
 subst hc0;have x3:=Qb HX3.out 0 _ rfl;have CH:=Qa (Qjb f b hm8 (Lay.below HM.out HB3.out));have HZ:Hid ((Qg m).1=0):=by show _=_;rw[HCF.out]
 clear y1;go_wp2_with fail
 refine CH.out.mono ?_;rintro e4 w4 ⟨rfl,b4⟩;have HB4:=Qa (HB3.out.trans (b4.mono HB3.out.size));have HX4:=Qa (HX3.out.below b4);have HR4:=Qa (HR3.out.below b4);clear b4 CH x3 y0 HX3 HR3 HB3 HF3
 cases hhb:Qf7 m f b with
 | false =>
   have r0:=Qb HR4.out 0 _ rfl;have r1:=Qb HR4.out 1 _ rfl;have z0:=Qo HR4.out 0;have z1:=Qo HR4.out 1;have HHB:=Qa hhb;clear hhb;go_wp2_with fail
   have D2:Blk ((w4.setCell ⟨R,0,none⟩ (.int .i64 1)).setCell ⟨R,1,none⟩ (.int .i64 (-1))) R #[.int .i64 1,.int .i64 (-1)] 30:=by
    have:=Qk (Qk HR4.out 0 (.int .i64 1)) 1 (.int .i64 (-1))
    simpa using this
   have D3:Below w.heap.size w ((w4.setCell ⟨R,0,none⟩ (.int .i64 1)).setCell ⟨R,1,none⟩ (.int .i64 (-1))):=(HB4.out.setCell (p:=⟨R,0,none⟩) HRE.out _).setCell (p:=⟨R,1,none⟩) HRE.out _;clear r0 r1 z0 z1;generalize (w4.setCell ⟨R,0,none⟩ (.int .i64 1)).setCell ⟨R,1,none⟩ (.int .i64 (-1))=w9 at D2 D3 ⊢;have q0:=Qb D2 0 _ rfl;have q1:=Qb D2 1 _ rfl;exact bodyPost_ret (v:=.tuple #[.pointer none,.agg #[.int .i64 1,.int .i64 (-1)]]) (by simp[results,Tryz.results8,go_sem,q0,q1]) rfl ⟨D3,.inr (.inl ⟨HZ.out,HHB.out,rfl⟩)⟩
 | true =>
   obtain⟨i,j,fn,g,rfl,rfl,hfi,hgj⟩:=Qiy hhb
   have HHB:=Qa hhb;have x4:=Qb HX4.out 0 _ rfl;have CO:=Qa (QjD m p c w4 (Lay.below HM.out HB4.out) HMS.out);have hfl:i<m.length:=(List.getElem?_eq_some_iff.1 hfi).1;have hfi':(i:Int)<m.length:=by omega
   have hgl:j<fn.blocks.length:=(List.getElem?_eq_some_iff.1 hgj).1;have hgj':(j:Int)<fn.blocks.length:=by omega
   clear hhb;go_wp2_with fail
   refine CO.out.mono ?_;rintro e5 w5 ⟨v5,rfl,⟨pm,cm,rfl,hown⟩,b5⟩;have HB5:=Qa (HB4.out.trans (b5.mono HB4.out.size));have HR5:=Qa (HR4.out.below b5);have HOW5:=Qa hown;have hR5:=HR5.out.lt;clear b5 CO x4 HX4 HR4 HB4;obtain⟨mg,mo,ds,e1,e2,e3,hcs,hfn⟩:=Lay.list_at hown hfi
   subst e1;obtain⟨p1,d1,p2,d2,p3,d3,rfl,hpa,hre,hbs,hrr⟩:=Qac hfn
   obtain⟨eg,eo,pp,cp,es,rfl,hrange,hes,hpar,hone⟩:=Qbf hbs hgj
   have v0:w5.cell? ⟨mg,mo+i*4,none⟩=some (.int .i64 fn.regs):=hcs 0 (by decide);have v1:w5.cell? ⟨mg,mo+i*4+1,none⟩=some (.slice p1 fn.params.length d1):=hcs 1 (by decide);have v2:w5.cell? ⟨mg,mo+i*4+2,none⟩=some (.slice p2 fn.results.length d2):=hcs 2 (by decide);have v3:w5.cell? ⟨mg,mo+i*4+3,none⟩=some (.slice (some ⟨eg,eo,none⟩) fn.blocks.length d3):=hcs 3 (by decide);have HFN:Hid ((ZC 6).In w5 (Zm w4.heap.size) fn [.int .i64 fn.regs,.slice p1 fn.params.length d1,.slice p2 fn.results.length d2,.slice (some ⟨eg,eo,none⟩) fn.blocks.length d3]):=hfn;have HPR:Hid ((Qh 6).In w5 (Zm w4.heap.size) g.params [.slice pp g.params.length cp]):=hpar;have HRG:=Qa hrange;have HONE:=Qa hone;have hl12:(Value.int .i64 g.regs::Value.slice pp g.params.length cp::es).length=12:=by simp[hes]
   have hmr:=Qbv HZ.out;have hfr:=hmr.2 fn (List.mem_of_getElem? hfi);have hgr:=hfr.blocks g (List.mem_of_getElem? hgj);have HGR:=Qa (And.intro hfr hgr);have HIJ:=Qa (And.intro hfi hgj);have hmgl:mg<w5.heap.size:=World.block_lt_of_cell? w5 ⟨mg,mo+i*4,none⟩ v0;clear hcs hfn hbs hrange hpar hone hown hpa hre hrr e2 e3 hes hmr hfr hgr hfi hgj;have b6:=QQ w5 (.cells #[.slice (some ⟨mg,mo,none⟩) m.length cm] 24);have b7:=QQ (w5.alloc (.cells #[.slice (some ⟨mg,mo,none⟩) m.length cm] 24)) (.cells #[.int .i64 fn.regs,.slice p1 fn.params.length d1,.slice p2 fn.results.length d2,.slice (some ⟨eg,eo,none⟩) fn.blocks.length d3] 40);have b67:=b6.trans (b7.mono b6.size);have HB6:=Qa b67;have hM6:Blk ((w5.alloc (.cells #[.slice (some ⟨mg,mo,none⟩) m.length cm] 24)).alloc (.cells #[.int .i64 fn.regs,.slice p1 fn.params.length d1,.slice p2 fn.results.length d2,.slice (some ⟨eg,eo,none⟩) fn.blocks.length d3] 40)) w5.heap.size #[.slice (some ⟨mg,mo,none⟩) m.length cm] 24:=(Blk.new _ _ _:Blk (w5.alloc (.cells #[.slice (some ⟨mg,mo,none⟩) m.length cm] 24)) w5.heap.size _ _).below b7
   have hF6:Blk ((w5.alloc (.cells #[.slice (some ⟨mg,mo,none⟩) m.length cm] 24)).alloc (.cells #[.int .i64 fn.regs,.slice p1 fn.params.length d1,.slice p2 fn.results.length d2,.slice (some ⟨eg,eo,none⟩) fn.blocks.length d3] 40)) (w5.heap.size+1) #[.int .i64 fn.regs,.slice p1 fn.params.length d1,.slice p2 fn.results.length d2,.slice (some ⟨eg,eo,none⟩) fn.blocks.length d3] 40:=by
    have:=Blk.new (w5.alloc (.cells #[.slice (some ⟨mg,mo,none⟩) m.length cm] 24)) #[.int .i64 fn.regs,.slice p1 fn.params.length d1,.slice p2 fn.results.length d2,.slice (some ⟨eg,eo,none⟩) fn.blocks.length d3] 40
    simpa using this
   have HM6:=Qa hM6;have HF6:=Qa hF6;clear b6 b7 b67 hM6 hF6;generalize hnm:m.length=nm at HM6 HF6 HB6 hfi' HOW5;have HNM:=Qa hnm;generalize hnb:fn.blocks.length=nb at v3 HF6 HB6 HM6 hgj';have HNB:=Qa hnb;go_upto_region 8 with fail
   generalize (w5.alloc (.cells #[.slice (some ⟨mg,mo,none⟩) nm cm] 24)).alloc (.cells #[.int .i64 fn.regs,.slice p1 fn.params.length d1,.slice p2 fn.results.length d2,.slice (some ⟨eg,eo,none⟩) nb d3] 40)=w6 at HB6 HM6 HF6 ⊢;obtain⟨M9,hM9⟩:∃ M9,M9=w5.heap.size:=⟨_,rfl⟩
   obtain⟨F10,hF10⟩:∃ F10,F10=M9+1:=⟨_,rfl⟩
   rw[← hM9] at HM6 HF6 ⊢
   rw[← hF10] at HF6 ⊢
   clear hM9 hF10 v0 v1 v2 v3 hmgl;have f0:=Qb HF6.out 0 _ rfl;have f1:=Qb HF6.out 1 _ rfl;have f2:=Qb HF6.out 2 _ rfl;have f3:=Qb HF6.out 3 _ rfl;have m0:=Qb HM6.out 0 _ rfl;have HRG6:=Qa (ZX HRG.out HB6.out);generalize hds:(Value.int .i64 g.regs::Value.slice pp g.params.length cp::es)=cs at HRG6 hl12;have HDS:=Qa hds;obtain⟨d1',d2',d3'⟩:=Qlm (w1:=w6) hl12
   have HK7:=Qa d1';have HB7:=Qa d2';have TH:=Qa d3';have TS:Hid ((Tryz.prog.info? 60).map (·.size)=some cs.length):=by show _=_;rw[hl12];exact sizeBk
   have TS2:Hid ((Tryz.prog.info? 60).map (·.size)=some cs.toArray.size):=by show _=_;rw[List.size_toArray];exact TS.out
   have TO:Hid (cs.toArray.all (·.oneCell')=true):=by
    refine all_oneCell_toArray fun v hv=>?_;rw[← hds] at hv
    simp only[List.mem_cons] at hv
    rcases hv with rfl | rfl | hv
    ·rfl
    ·rfl
    ·exact HONE.out v hv
   clear d1' d2' d3' hds hl12;go_upto_region 9 with (first | (refine wpList_load_mid rfl 60 (.tmp 34) rfl eg (eo+j*12) rfl cs _ HRG6.out Tryz.underlying60 rfl TS.out ?_) | (refine wpList_store_mid rfl 60 (.tmp 11) (.tmp 35) rfl w6.heap.size 0 cs.toArray rfl rfl TH.out TS2.out TO.out ?_))
   clear TH TS TS2 TO HRG6;generalize (w6.alloc (.cells #[.int .i64 0,.slice none 0 0,.slice none 0 0,.int .i64 0,.int .i64 0,.int .i64 0,.slice none 0 0,.slice none 0 0,.int .i64 0,.slice none 0 0,.slice none 0 0,.slice none 0 0] 60)).setCells w6.heap.size 0 cs.toArray.toList=w7 at HK7 HB7 ⊢;generalize w6.heap.size=B11 at HK7 ⊢;have HK7':Hid (Blk w7 B11 (Value.int .i64 g.regs::Value.slice pp g.params.length cp::es).toArray 60):=by rw[HDS.out];exact HK7.out
   have y0:=Qb HK7'.out 0 _ rfl;have y1:=Qb HK7'.out 1 _ rfl;have f0:=QY f0 HB7.out;have f1:=QY f1 HB7.out;have f2:=QY f2 HB7.out;have f3:=QY f3 HB7.out;have m0:=QY m0 HB7.out;have B57:=Qa (HB6.out.trans (HB7.out.mono HB6.out.size));have BW7:=Qa (HB5.out.trans (B57.out.mono HB5.out.size));have HR7:=Qa (HR5.out.below B57.out);have HPQ:Hid ((Qh 6).In w7 (fun k=>k<w7.heap.size) g.params [.slice pp g.params.length cp]):=Lay.mono (Lay.below HPR.out B57.out) (fun k _ hl=>hl);have HPB:Hid (∀ (i:Nat) (x:TT 6) (cs:List Value) {w:World},g.params[i]?=some x→(Lay.tt 6).In w (fun k=>k<w7.heap.size) x cs→Below w7.heap.size w7 w→(Lay.tt 6).In w7 (fun k=>k<w7.heap.size) x cs):=fun i x cs w _ h hb=>(Lay.tt 6).keep (fun k hk _=>(hb.block k hk).symm) (fun _ h _=>h) h;have hbr:-9223372036854775808≤g.regs∧g.regs≤9223372036854775807:=by have h1:=HGR.out.2.regs;have h2:=HGR.out.1.regs;omega
   have hnp:g.params.length≤5000:=by have:=HGR.out.2.params.1;omega
   clear HK7 HK7' HDS HB6 HB7 HM6 HF6 HONE;refine jn9 m0 f0 f1 f2 f3 y0 y1 hbr (show Hid (g.params.length=g.params.length) from rfl) hnp HPQ HPB _ _ rfl (Nat.le_of_ble_eq_true (by kernel_rfl)) rfl rfl rfl ?_;rintro ops vs w8 hv46 ⟨B,hh,aa,ca,ds,hv6,hB1,hB2,hh1,hh2,ow1,ow2,ow3⟩ b8;show wpList _ ops _ [_] (Z3 _ vs [36,37,38,39,40,41,42,43,44,45,46,6]) w8;simp only[Z3,Act.put,List.setIfInBounds_toArray,List.set_cons_zero,List.set_cons_succ,hv46,hv6]
   have HR8:=Qa (HR7.out.below b8);have BW8:=Qa (BW7.out.trans (b8.mono BW7.out.size));have hRl:=HR7.out.lt;have Z:Hid (∀ w9,Below w7.heap.size w8 w9∨(∀ k,k≠R→w9.heap[k]?=w8.heap[k]?)→True):=fun _ _=>trivial
   have ST:Hid (SAt w8 B (fun k=>w7.heap.size≤k∧k<w8.heap.size) (fun k=>w7.heap.size≤k∧k<w8.heap.size) (JSt.start m fn g)):=by
    have B58:=B57.out.trans (b8.mono B57.out.size);have hs5:=B57.out.size;have hs8:=b8.size;refine⟨some ⟨mg,mo,none⟩,cm,hh,p1,d1,p2,d2,some ⟨eg,eo,none⟩,d3,.slice aa g.params.length ca,?_,?_,?_,⟨hh2,hh1,hh2.lt⟩,?_,⟨hB1,lt_of_block hB2⟩,fun k hk=>hk⟩
    ·rw[hB2]
     show _=some (Obj.cells #[.slice (some ⟨mg,mo,none⟩) m.length cm,_,_,_,_,.slice (some ⟨eg,eo,none⟩) fn.blocks.length d3,_] _ _);rw[HNM.out,HNB.out];rfl
    ·show (Qa5 6).In w8 _ m [.slice (some ⟨mg,mo,none⟩) m.length cm];have h0:=HOW5.out;rw[← HNM.out] at h0
     exact(Qa5 6).keep (fun k _ hl=>B58.block k hl) (fun k _ hl e=>by omega) h0
    ·exact(ZC 6).keep (fun k _ hl=>B58.block k hl) (fun k _ hl e=>by omega) HFN.out
    ·refine⟨ds,ow1,fun k hk=>⟨ow2 k hk,?_⟩,fun i x hx=>(Lay.tt 6).keep (fun k hk _=>b8.block k hk) (fun k hk _ e=>by omega) (ow3 i x hx)⟩
     obtain⟨-,q⟩:=id ow1
     rcases q with ⟨e,-⟩|⟨g',cap',cur,e,-,hq,-⟩
     ·rw[e] at hk;simp[Value.ownBlock] at hk
     ·rw[e] at hk;simp[Value.ownBlock] at hk;subst hk;exact lt_of_block hq
   have r0:=Qb HR8.out 0 _ rfl;have r1:=Qb HR8.out 1 _ rfl;have z0:=Qo HR8.out 0;have z1:=Qo HR8.out 1;clear hv46 hv6 hB1 hB2 hh1 hh2 ow1 ow2 ow3 b8 f0 f1 f2 f3 y0 y1 m0 Z;go_wp2_with fail
   have D2:Blk ((w8.setCell ⟨R,0,none⟩ (.int .i64 0)).setCell ⟨R,1,none⟩ (.int .i64 0)) R #[.int .i64 0,.int .i64 0] 30:=by
    have:=Qk (Qk HR8.out 0 (.int .i64 0)) 1 (.int .i64 0)
    simpa using this
   have D3:Below w.heap.size w ((w8.setCell ⟨R,0,none⟩ (.int .i64 0)).setCell ⟨R,1,none⟩ (.int .i64 0)):=(BW8.out.setCell (p:=⟨R,0,none⟩) HRE.out _).setCell (p:=⟨R,1,none⟩) HRE.out _
   have D4:SAt ((w8.setCell ⟨R,0,none⟩ (.int .i64 0)).setCell ⟨R,1,none⟩ (.int .i64 0)) B (fun k=>w7.heap.size≤k∧k<w8.heap.size) (fun k=>w7.heap.size≤k∧k<w8.heap.size) (JSt.start m fn g):=by
    have same:∀ k,((w8.setCell ⟨R,0,none⟩ (.int .i64 0)).setCell ⟨R,1,none⟩ (.int .i64 0)).heap[k]?=w8.heap[k]?:=fun k=>by
     by_cases hk:k=R
     ·subst hk;exact D2.trans HR8.out.symm
     ·rw[Below.heap_setCell _ _ _ _ hk,Below.heap_setCell _ _ _ _ hk]
    exact ST.out.keep (fun k _ _=>same k) (fun _ h _=>h) (fun _ h _=>h) (fun _ h=>h)
   have D5:∀ k,(w7.heap.size≤k∧k<w8.heap.size)→w.heap.size≤k∧k<((w8.setCell ⟨R,0,none⟩ (.int .i64 0)).setCell ⟨R,1,none⟩ (.int .i64 0)).heap.size:=fun k hk=>by
    have:=BW7.out.size
    simp
    omega
   clear r0 r1 z0 z1;generalize (w8.setCell ⟨R,0,none⟩ (.int .i64 0)).setCell ⟨R,1,none⟩ (.int .i64 0)=w9 at D2 D3 D4 D5 ⊢;have q0:=Qb D2 0 _ rfl;have q1:=Qb D2 1 _ rfl;exact bodyPost_ret (v:=.tuple #[.pointer (some ⟨B,0,none⟩),.agg #[.int .i64 0,.int .i64 0]]) (by simp[results,Tryz.results8,go_sem,q0,q1]) rfl ⟨D3,.inr (.inr ⟨HZ.out,HHB.out,i,j,fn,g,B,_,_,rfl,rfl,HIJ.out.1,HIJ.out.2,rfl,D4,D5⟩)⟩
def SOk (w:World) (b B0:Nat) (s:JSt):Prop:=∃ O A,SAt w b O A s∧(∀ k,A k→B0≤k∧k<w.heap.size)∧JOk s
section
variable {w w':World}{b B0:Nat}{s:JSt}
theorem SOk.below (h:SOk w b B0 s) (k:Below w.heap.size w w'):SOk w' b B0 s:=by
 obtain⟨O,A,h1,h2,h3⟩:=h
 exact⟨O,A,h1.below k,fun k' hk=>⟨(h2 k' hk).1,Nat.lt_of_lt_of_le (h2 k' hk).2 k.size⟩,h3⟩
theorem SOk.ok (h:SOk w b B0 s):JOk s:=by obtain⟨O,A,h1,h2,h3⟩:=h;exact h3
theorem SOk.lt (h:SOk w b B0 s):b<w.heap.size:=by obtain⟨O,A,h1,h2,h3⟩:=h;exact h1.lt
theorem STo.ok {O A:Nat→Prop}{s':JSt}(h:STo w w' b O A s') (hA:∀ k,A k→B0≤k∧k<w.heap.size) (hO:∀ k,O k→A k) (hB:B0≤w.heap.size) (hJ:JOk s'):SOk w' b B0 s'∧Below B0 w w':=by
 obtain⟨N,h1,h2,h3⟩:=h
 have e:=h3.size;refine⟨⟨_,_,h2,fun k hk=>?_,hJ⟩,⟨h3.os,h3.tape,h3.output,h3.size,fun k hk=>h3.block k (by omega) (fun e=>by have:=hA k (hO k e);omega)⟩⟩
 rcases hk with hk | hk
 ·have:=hA k hk;omega
 ·have:=h1 k hk;omega
theorem SOk.ins (h:SOk w b B0 s) (hB:B0≤w.heap.size){Q:Nat→Prop}{x:Qx}{rg ag:Option Addr}{rc ac:Nat}(hregs:intsL.In w Q x.regs [.slice rg x.regs.length rc]) (hargs:intsL.In w Q x.args [.slice ag x.args.length ac]) (hrc:x.regs.length≤rc) (hrng:ZA x) :
 Calls Tryz.prog 12 #[.pointer (some ⟨b,0,none⟩),Qdt x rg ag rc ac] w fun e w'=>e=.returned (.int .i64 (s.code x))∧SOk w' b B0 (s.ins x)∧Below B0 w w':=by
 obtain⟨O,A,h1,h2,h3⟩:=h
 refine(QfW (fun k hk=>(h2 k hk).2) h3 h1 hregs hargs hrc hrng).mono ?_
 rintro e w' ⟨rfl,hS⟩;exact⟨rfl,hS.ok h2 h1.sub hB (h3.ins x)⟩
theorem SOk.end_ (h:SOk w b B0 s){Q:Nat→Prop}{x:MEnd}{e:EP}(hx:QcP w Q x e) (hra:-9223372036854775808≤x.a∧x.a≤9223372036854775807) (hs:x.yes.regs.length<2305843009213693952∧x.yes.args.length<2305843009213693952∧x.no.regs.length<2305843009213693952∧x.no.args.length<2305843009213693952) :
 Calls Tryz.prog 24 #[.pointer (some ⟨b,0,none⟩),.agg (Qck x e)] w fun r w'=>r=.returned (.int .i64 (s.fin x))∧Below w.heap.size w w':=by
 obtain⟨O,A,h1,h2,h3⟩:=h
 exact Qjw (fun k hk=>(h2 k hk).2) h3 h1 hx hra hs
theorem SOk.types (h:SOk w b B0 s):Calls Tryz.prog 9 #[.pointer (some ⟨b,0,none⟩)] w fun e w'=>Qbp w w' s.L e:=by
 obtain⟨O,A,h1,h2,h3⟩:=h
 exact Qgy h3.vals (fun x hx=>Nat.le_trans (ZH (h3.types x hx)) (by omega)) h1
theorem SOk.held (h:SOk w b B0 s):∃ hh,w.cell? ⟨b,1,none⟩=some (.pointer (some ⟨hh,0,none⟩))∧Qq w hh s.H:=by
 obtain⟨O,A,h1,h2,h3⟩:=h
 obtain⟨pm,cm,hh,a1,c1,a2,c2,a3,c3,aL,cL,R⟩:=h1.read
 exact⟨hh,R.cells.2.1,R.held⟩
end
def QiR (w:World) (b B0 T T2:Nat) (s:JSt):Prop:=∃ O A,SAt w b O A s∧(∀ k,A k→B0≤k∧(k<T∨T2≤k)∧k<w.heap.size)∧T2≤w.heap.size∧JOk s
section
variable {w w':World}{b B0 T T2:Nat}{s:JSt}
theorem QiR.below (h:QiR w b B0 T T2 s) (k:Below w.heap.size w w'):QiR w' b B0 T T2 s:=by
 obtain⟨O,A,h1,h2,h3,h4⟩:=h
 exact⟨O,A,h1.below k,fun j hj=>⟨(h2 j hj).1,(h2 j hj).2.1,Nat.lt_of_lt_of_le (h2 j hj).2.2 k.size⟩,Nat.le_trans h3 k.size,h4⟩
theorem QiR.more (h:QiR w b B0 T w.heap.size s) (k:Below w.heap.size w w'):QiR w' b B0 T w'.heap.size s:=by
 obtain⟨O,A,h1,h2,h3,h4⟩:=h
 exact⟨O,A,h1.below k,fun j hj=>⟨(h2 j hj).1,.inl (by have:=h2 j hj;omega),Nat.lt_of_lt_of_le (h2 j hj).2.2 k.size⟩,Nat.le_refl _,h4⟩
structure QlT (w w':World) (B0 T T2:Nat):Prop where
 bel:Below B0 w w'
 top:∀ k,T≤k→k<T2→w'.heap[k]?=w.heap[k]?
theorem QiR.ins (h:QiR w b B0 T T2 s) (hB:B0≤w.heap.size){Q:Nat→Prop}{x:Qx}{rg ag:Option Addr}{rc ac:Nat}(hregs:intsL.In w Q x.regs [.slice rg x.regs.length rc]) (hargs:intsL.In w Q x.args [.slice ag x.args.length ac]) (hrc:x.regs.length≤rc) (hrng:ZA x) :
 Calls Tryz.prog 12 #[.pointer (some ⟨b,0,none⟩),Qdt x rg ag rc ac] w fun e w'=>e=.returned (.int .i64 (s.code x))∧QiR w' b B0 T T2 (s.ins x)∧QlT w w' B0 T T2:=by
 obtain⟨O,A,h1,h2,h3,h4⟩:=h
 refine(QfW (fun k hk=>(h2 k hk).2.2) h4 h1 hregs hargs hrc hrng).mono ?_
 rintro e w' ⟨rfl,hS⟩;obtain⟨N,g1,g2,g3⟩:=id hS
 obtain⟨-,q2⟩:=hS.ok (B0:=B0) (fun k hk=>⟨(h2 k hk).1,(h2 k hk).2.2⟩) h1.sub hB (h4.ins x)
 have e:=g3.size;refine⟨rfl,⟨_,_,g2,fun k hk=>?_,Nat.le_trans h3 e,h4.ins x⟩,q2,fun k hk hl=>g3.block k (by omega) (fun e=>by have:=(h2 k (h1.sub k e)).2.1;omega)⟩
 rcases hk with hk | hk
 ·have:=h2 k hk;omega
 ·have:=g1 k hk;omega
end
abbrev Qai (g:Qe 6) (p1 p2:Option Addr) (d1 d2:Nat) (e:EP):Array Value:=#[.int .i64 g.regs,.slice p1 g.params.length d1,.slice p2 g.code.length d2,.int .i64 g.fin.op,.int .i64 g.fin.a,.int .i64 g.fin.yes.block,.slice e.pYR g.fin.yes.regs.length e.cYR,.slice e.pYA g.fin.yes.args.length e.cYA,.int .i64 g.fin.no.block,.slice e.pNR g.fin.no.regs.length e.cNR,.slice e.pNA g.fin.no.args.length e.cNA,.slice e.pA g.fin.args.length e.cA]
theorem Qkr {m:List (Qf 6)}{f b:Nat}{fn:Qf 6}{g:Qe 6}(h1:m[f]?=some fn) (h2:fn.blocks[b]?=some g):Qf7 m (f:Int) (b:Int)=true:=by
 have:=(List.getElem?_eq_some_iff.1 h2).1
 simp[Qf7,h1,this]
theorem Zo {w:World}{R:Nat}(h:Blk w R #[.int .i64 0,.int .i64 0] 30) (c a:Int):Blk ((w.setCell ⟨R,0,none⟩ (.int .i64 c)).setCell ⟨R,1,none⟩ (.int .i64 a)) R #[.int .i64 c,.int .i64 a] 30:=by
 have:=Qk (Qk h 0 (.int .i64 c)) 1 (.int .i64 a)
 simpa using this
theorem vsizeEnd:(Tryz.prog.info? 58).map (·.size)=some 9:=by kernel_rfl
theorem QgO {w:World}{m:List (Qf 6)}{p:Option Addr}{c f b:Nat}{fn:Qf 6}{g:Qe 6}{p1 p2:Option Addr}{d1 d2:Nat}{e:EP}(hf0:(Qg m).1=0) (hng:¬ QG m) (hom:(Qa5 6).In w All (outl m) [.slice p m.length c]) (hfn:m[f]?=some fn) (hgb:fn.blocks[b]?=some g) (hcode:insC.list.In w All g.code [.slice p2 g.code.length d2]) (hend:QcP w All g.fin e) (hra:-9223372036854775808≤g.fin.a∧g.fin.a≤9223372036854775807) :
 Calls Tryz.prog 41 #[.agg #[.slice p m.length c],.int .i64 (f:Int),.int .i64 (b:Int),.agg (Qai g p1 p2 d1 d2 e)] w fun r w'=>r=.returned (QD (Qj (10000*(f:Int)+100*(b:Int)) g.fin (JSt.start m fn g) 0 g.code))∧Below w.heap.size w w':=by
 have HF0:=Qa hf0;have HNG:=Qa hng;have HOM:=Qa hom;have HFN:=Qa hfn;have HGB:=Qa hgb;have HCODE:=Qa hcode;have HEND:=Qa hend;have HRA:=Qa hra;have hfm:fn∈m:=List.mem_of_getElem? hfn;have hgm:g∈fn.blocks:=List.mem_of_getElem? hgb;have HNGB:Hid (¬ g.great):=fun h=>hng (.inr ⟨fn,hfm,.inr (.inr (.inr ⟨g,hgm,h⟩))⟩)
 have HJ0:Hid (JOk (JSt.start m fn g).outl):=by
  have:=JOk.start (Qgo hf0) (QdE hng) (f:=fn.outl) (b:=g.outl) (List.mem_map_of_mem hfm) (List.mem_map_of_mem hgm)
  rw[QbX] at this
  exact this
 have hgc:g.code.length≤200:=Nat.le_of_not_lt fun h=>HNGB.out (.inl h);have hfl:f<1000:=by have h1:=(List.getElem?_eq_some_iff.1 hfn).1;have h2:m.length≤20:=Nat.le_of_not_lt fun x=>hng (.inl x);omega
 have hbl:b<1000:=by have h1:=(List.getElem?_eq_some_iff.1 hgb).1;have h2:fn.blocks.length≤30:=Nat.le_of_not_lt fun x=>hng (.inr ⟨fn,hfm,.inl x⟩);omega
 have b1:=QQ w (.cells #[.slice p m.length c] 24);have b2:=QQ (w.alloc (.cells #[.slice p m.length c] 24)) (.cells (Qai g p1 p2 d1 d2 e) 60);have b3:=QQ ((w.alloc (.cells #[.slice p m.length c] 24)).alloc (.cells (Qai g p1 p2 d1 d2 e) 60)) (.cells #[.int .i64 0,.int .i64 0] 30)
 have B0:Hid (Below w.heap.size w (((w.alloc (.cells #[.slice p m.length c] 24)).alloc (.cells (Qai g p1 p2 d1 d2 e) 60)).alloc (.cells #[.int .i64 0,.int .i64 0] 30))):=by
  have h:=b2.trans (b3.mono b2.size);exact b1.trans (h.mono b1.size)
 have s1:(w.alloc (.cells #[.slice p m.length c] 24)).heap.size=w.heap.size+1:=World.size_alloc ..;have s2:((w.alloc (.cells #[.slice p m.length c] 24)).alloc (.cells (Qai g p1 p2 d1 d2 e) 60)).heap.size=w.heap.size+1+1:=(World.size_alloc ..).trans (by rw[s1])
 have BM:Hid (Blk (((w.alloc (.cells #[.slice p m.length c] 24)).alloc (.cells (Qai g p1 p2 d1 d2 e) 60)).alloc (.cells #[.int .i64 0,.int .i64 0] 30)) w.heap.size #[.slice p m.length c] 24) :=
  Blk.below (Blk.below (Blk.new w #[.slice p m.length c] 24) b2) b3
 have BX:Hid (Blk (((w.alloc (.cells #[.slice p m.length c] 24)).alloc (.cells (Qai g p1 p2 d1 d2 e) 60)).alloc (.cells #[.int .i64 0,.int .i64 0] 30)) (w.heap.size+1) (Qai g p1 p2 d1 d2 e) 60):=by
  have:=Blk.below (Blk.new (w.alloc (.cells #[.slice p m.length c] 24)) (Qai g p1 p2 d1 d2 e) 60) b3
  rw[s1] at this
  exact this
 have BR:Hid (Blk (((w.alloc (.cells #[.slice p m.length c] 24)).alloc (.cells (Qai g p1 p2 d1 d2 e) 60)).alloc (.cells #[.int .i64 0,.int .i64 0] 30)) (w.heap.size+1+1) #[.int .i64 0,.int .i64 0] 30):=by
  have:=Blk.new ((w.alloc (.cells #[.slice p m.length c] 24)).alloc (.cells (Qai g p1 p2 d1 d2 e) 60)) #[.int .i64 0,.int .i64 0] 30
  rw[s2] at this
  exact this
 clear b1 b2 b3 s1 s2 hfm hgm hf0 hng hom hfn hgb hcode hend hra;go_enter Tryz.func41,Tryz.ntmps41
 go_upto_region 1 with fail
 generalize ((w.alloc (.cells #[.slice p m.length c] 24)).alloc (.cells (Qai g p1 p2 d1 d2 e) 60)).alloc (.cells #[.int .i64 0,.int .i64 0] 30)=w1 at B0 BM BX BR ⊢;obtain⟨X,hX⟩:∃ X,X=w.heap.size:=⟨_,rfl⟩
 obtain⟨X2,hX2⟩:∃ X2,X2=X+1:=⟨_,rfl⟩
 obtain⟨R,hR⟩:∃ R,R=X2+1:=⟨_,rfl⟩
 have HRE:Hid (w.heap.size≤R):=by show _≤_;omega
 rw[← hX] at BM BX BR ⊢
 rw[← hX2] at BX BR ⊢
 rw[← hR] at BR ⊢
 clear hX hX2 hR;have x0:=Qb BM.out 0 _ rfl;have CN:=Qa (Qi9 (w:=w1) (m:=outl m) (p:=p) (c:=c) (f:Int) (b:Int) (QdE HNG.out) (by rw[Qa1];exact Lay.below HOM.out B0.out));rw[Qa1] at CN
 go_wp2_with fail
 refine CN.out.mono ?_;rintro e2 w2 ⟨b2,hN2⟩;have hs1:Hid (w1.heap.size≤w2.heap.size):=b2.size;rcases hN2 with ⟨hf,rfl⟩|⟨-,hno,rfl⟩|⟨-,-,i,j,fn',g',B,O,A,hi,hj,hfn',hgb',rfl,hS,hA⟩
 ·exact absurd (Qgo HF0.out) hf
 ·rw[Qkr (fn:=fn.outl) (g:=g.outl) (by rw[Qd3,HFN.out];rfl) (by rw[Qjo,HGB.out];rfl)] at hno
  cases hno
 have hi':f=i:=by omega
 have hj':b=j:=by omega
 subst hi' hj';rw[Qd3,HFN.out] at hfn'
 cases hfn'
 rw[Qjo,HGB.out] at hgb'
 cases hgb'
 have b3:=QQ w2 (.cells #[.int .i64 0,.int .i64 0] 30)
 have S3:Hid (SOk (w2.alloc (.cells #[.int .i64 0,.int .i64 0] 30)) B w1.heap.size ((JSt.start m fn g).upto (g.code.take 0)).outl) :=
  SOk.below ⟨O,A,hS,hA,HJ0.out⟩ b3
 have B3:Hid (Below w1.heap.size w1 (w2.alloc (.cells #[.int .i64 0,.int .i64 0] 30))):=b2.trans (b3.mono b2.size);have F3:Hid (Blk (w2.alloc (.cells #[.int .i64 0,.int .i64 0] 30)) w2.heap.size #[.int .i64 0,.int .i64 0] 30):=Blk.new _ _ _;clear b2 b3 hS hA CN hs1 hi hj;go_upto_region 2 with fail
 generalize w2.alloc (.cells #[.int .i64 0,.int .i64 0] 30)=w3 at S3 B3 F3 ⊢;generalize w2.heap.size=F9 at F3 ⊢;have f0:=Qb F3.out 0 _ rfl;have y2:w3.cell? ⟨X2,2,none⟩=some (.slice p2 g.code.length d2):=QY (Qb BX.out 2 _ rfl) B3.out;clear x0;go_wp2_with fail
 clear f0 y2;go_loopw [29] (fun i wr=>∃ z:Nat,z≤g.code.length∧i=.int .i64 z∧SOk wr B w1.heap.size ((JSt.start m fn g).upto (g.code.take z)).outl∧Below w1.heap.size w1 wr∧∀ j y,j<z→g.code[j]?=some y→((JSt.start m fn g).upto (g.code.take j)).code y=0) (fun i _=>g.code.length - (intOf i).toNat)
 case atStart=>exact⟨0,Nat.zero_le _,rfl,S3.out,B3.out,fun j y hj=>absurd hj (Nat.not_lt_zero _)⟩
 case round =>
  obtain⟨z,hz,rfl,hs,hb,hall⟩:=hrel
  have SR:=Qa hs;have BR1:=Qa hb;have HALL:=Qa hall;clear hs hb hall S3 B3 F3;obtain⟨wi,hwi⟩:∃ wi,wi=wr:=⟨_,rfl⟩
  subst hwi;by_cases hzt:z<g.code.length
  rotate_left
  ·have hzt':¬ (z:Int)<g.code.length:=by omega
   have hz2:g.code.take z=g.code:=List.take_of_length_le (by omega);rw[hz2] at SR
   have RE:Hid (wi.rangeAt X2 3 (Qck g.fin e).toList):=fun j v hj=>by
    have:(Qai g p1 p2 d1 d2 e)[3+j]?=some v:=by
     rw[← Array.getElem?_toList,Nat.add_comm]
     exact hj
    exact QY (Qb BX.out (3+j) v this) BR1.out
   have HB3:Hid (300≥g.fin.yes.regs.length∧300≥g.fin.yes.args.length∧300≥g.fin.no.regs.length∧300≥g.fin.no.args.length):=by
    have h:=HNGB.out;unfold Qe.great at h;simp only[not_or,Nat.not_lt] at h
    exact⟨h.2.2.2.1,h.2.2.2.2.1,h.2.2.2.2.2.1,h.2.2.2.2.2.2.1⟩
   have CE:Hid (Calls Tryz.prog 24 #[.pointer (some ⟨B,0,none⟩),.agg (Qck g.fin e).toList.toArray] wi fun r w'=>r=.returned (.int .i64 (((JSt.start m fn g).upto g.code).fin g.fin))∧Below wi.heap.size wi w'):=by
    have:=SR.out.end_ ((HEND.out.below B0.out).below BR1.out) HRA.out (by have:=HB3.out;omega)
    rw[Qgk] at this
    exact this
   have BE:Hid (Qj (10000*(f:Int)+100*(b:Int)) g.fin (JSt.start m fn g) 0 g.code=if ((JSt.start m fn g).upto g.code).fin g.fin≠0 then (((JSt.start m fn g).upto g.code).fin g.fin,10000*(f:Int)+100*(b:Int)+91) else (0,0)):=QeN fun j y hj hy=>HALL.out j y (by omega) hy;clear HB3 hz2;generalize ((JSt.start m fn g).upto g.code).fin g.fin=ce at CE BE;go_wp2_with (refine wpList_load_mid rfl 58 (.tmp 47) rfl X2 3 rfl (Qck g.fin e).toList _ RE.out Tryz.underlying58 rfl vsizeEnd ?_)
   refine CE.out.mono ?_;rintro e9 w9 ⟨rfl,b9⟩;have B9:Hid (Below w1.heap.size w1 w9):=BR1.out.trans (b9.mono BR1.out.size);clear b9 BR1 CE RE SR;by_cases hce:ce=0
   ·subst hce;have E:Hid (Qj (10000*(f:Int)+100*(b:Int)) g.fin (JSt.start m fn g) 0 g.code=(0,0)):=by show _=_;rw[BE.out];rfl
    clear BE;have BQ:Hid (Blk w9 R #[.int .i64 0,.int .i64 0] 30):=Blk.below BR.out B9.out;have r0:=Qb BQ.out 0 _ rfl;have r1:=Qb BQ.out 1 _ rfl;have z0:=Qo BQ.out 0;have z1:=Qo BQ.out 1;have RB:Hid (Blk ((w9.setCell ⟨R,0,none⟩ (.int .i64 0)).setCell ⟨R,1,none⟩ (.int .i64 0)) R #[.int .i64 0,.int .i64 0] 30):=Zo BQ.out _ _;have BL:Hid (Below w.heap.size w ((w9.setCell ⟨R,0,none⟩ (.int .i64 0)).setCell ⟨R,1,none⟩ (.int .i64 0))):=((B0.out.trans (B9.out.mono B0.out.size)).setCell HRE.out _).setCell HRE.out _;go_wp2_with fail
    generalize (w9.setCell ⟨R,0,none⟩ (.int .i64 0)).setCell ⟨R,1,none⟩ (.int .i64 0)=w99 at RB BL ⊢;have e0:=Qb RB.out 0 _ rfl;have e1:=Qb RB.out 1 _ rfl;exact bodyPost_ret (v:=.agg #[.int .i64 0,.int .i64 0]) (by simp[results,Tryz.results41,go_sem,e0,e1]) rfl ⟨by rw[E.out],BL.out⟩
   ·have hce':(ce != 0)=true:=by simpa using hce
    have E:Hid (Qj (10000*(f:Int)+100*(b:Int)) g.fin (JSt.start m fn g) 0 g.code=(ce,10000*(f:Int)+100*(b:Int)+91)):=by
     show _=_;rw[BE.out,if_pos hce]
    have CA:=Qa (Qdz (f:=f) (b:=b) (w:=w9) ⟨by omega,by omega⟩);unfold Rd at CA;clear BE;go_wp2_with fail
    refine CA.out.mono ?_;rintro e10 w10 ⟨rfl,b10⟩;have B10:Hid (Below w1.heap.size w1 w10):=B9.out.trans (b10.mono B9.out.size);clear b10 B9 CA;generalize 10000*(f:Int)+100*(b:Int)+91=pl at E ⊢;have BQ:Hid (Blk w10 R #[.int .i64 0,.int .i64 0] 30):=Blk.below BR.out B10.out;have r0:=Qb BQ.out 0 _ rfl;have r1:=Qb BQ.out 1 _ rfl;have z0:=Qo BQ.out 0;have z1:=Qo BQ.out 1;have RB:Hid (Blk ((w10.setCell ⟨R,0,none⟩ (.int .i64 ce)).setCell ⟨R,1,none⟩ (.int .i64 pl)) R #[.int .i64 ce,.int .i64 pl] 30):=Zo BQ.out _ _;have BL:Hid (Below w.heap.size w ((w10.setCell ⟨R,0,none⟩ (.int .i64 ce)).setCell ⟨R,1,none⟩ (.int .i64 pl))):=((B0.out.trans (B10.out.mono B0.out.size)).setCell HRE.out _).setCell HRE.out _;go_wp2_with fail
    generalize (w10.setCell ⟨R,0,none⟩ (.int .i64 ce)).setCell ⟨R,1,none⟩ (.int .i64 pl)=w99 at RB BL ⊢;have e0:=Qb RB.out 0 _ rfl;have e1:=Qb RB.out 1 _ rfl;exact bodyPost_ret (v:=.agg #[.int .i64 ce,.int .i64 pl]) (by simp[results,Tryz.results41,go_sem,e0,e1]) rfl ⟨by rw[E.out],BL.out⟩
  have hzt':(z:Int)<g.code.length:=by omega
  have hxk:g.code[z]?=some g.code[z]:=List.getElem?_eq_getElem hzt;generalize g.code[z]=x at hxk;have HXK:=Qa hxk;obtain⟨cg,co,ds,rfl,-,-,hcs,hins⟩:=Lay.list_at (Lay.below (Lay.below HCODE.out B0.out) BR1.out) hxk
  have hrng:=Qjj hins;obtain⟨xa,xc,xb,xd,rfl,hregs,hargs,hrc,-⟩:=Qhb hins
  have u0:wi.cell? ⟨cg,co+z*8,none⟩=some (.int .i64 x.op):=hcs 0 (by decide);have u1:wi.cell? ⟨cg,co+z*8+1,none⟩=some (.int .i64 x.a):=hcs 1 (by decide);have u2:wi.cell? ⟨cg,co+z*8+2,none⟩=some (.int .i64 x.b):=hcs 2 (by decide);have u3:wi.cell? ⟨cg,co+z*8+3,none⟩=some (.int .i64 x.c):=hcs 3 (by decide);have u4:wi.cell? ⟨cg,co+z*8+4,none⟩=some (.int .i64 x.k):=hcs 4 (by decide);have u5:wi.cell? ⟨cg,co+z*8+5,none⟩=some (.int .i64 x.n):=hcs 5 (by decide);have u6:wi.cell? ⟨cg,co+z*8+6,none⟩=some (.slice xa x.regs.length xc):=hcs 6 (by decide);have u7:wi.cell? ⟨cg,co+z*8+7,none⟩=some (.slice xb x.args.length xd):=hcs 7 (by decide);have b4:=QQ wi (.cells #[.int .i64 x.op,.int .i64 x.a,.int .i64 x.b,.int .i64 x.c,.int .i64 x.k,.int .i64 x.n,.slice xa x.regs.length xc,.slice xb x.args.length xd] 46);have I4:Hid (Blk (wi.alloc (.cells #[.int .i64 x.op,.int .i64 x.a,.int .i64 x.b,.int .i64 x.c,.int .i64 x.k,.int .i64 x.n,.slice xa x.regs.length xc,.slice xb x.args.length xd] 46)) wi.heap.size #[.int .i64 x.op,.int .i64 x.a,.int .i64 x.b,.int .i64 x.c,.int .i64 x.k,.int .i64 x.n,.slice xa x.regs.length xc,.slice xb x.args.length xd] 46):=Blk.new _ _ _;have B4:Hid (Below w1.heap.size w1 (wi.alloc (.cells #[.int .i64 x.op,.int .i64 x.a,.int .i64 x.b,.int .i64 x.c,.int .i64 x.k,.int .i64 x.n,.slice xa x.regs.length xc,.slice xb x.args.length xd] 46))):=BR1.out.trans (b4.mono BR1.out.size)
  have CI:Hid (Calls Tryz.prog 12 #[.pointer (some ⟨B,0,none⟩),Qdt x xa xb xc xd] (wi.alloc (.cells #[.int .i64 x.op,.int .i64 x.a,.int .i64 x.b,.int .i64 x.c,.int .i64 x.k,.int .i64 x.n,.slice xa x.regs.length xc,.slice xb x.args.length xd] 46)) fun r w'=>r=.returned (.int .i64 (((JSt.start m fn g).upto (g.code.take z)).code x))∧SOk w' B w1.heap.size (((JSt.start m fn g).upto (g.code.take z)).ins x).outl∧Below w1.heap.size (wi.alloc (.cells #[.int .i64 x.op,.int .i64 x.a,.int .i64 x.b,.int .i64 x.c,.int .i64 x.k,.int .i64 x.n,.slice xa x.regs.length xc,.slice xb x.args.length xd] 46)) w'):=by
   have:=(SR.out.below b4).ins B4.out.size (Lay.below hregs b4) (Lay.below hargs b4) hrc hrng
   rw[QcW,Qju] at this
   exact this
  clear hcs hins hregs hargs hrc hxk hrng b4 BR1 SR;go_upto_region 7 with fail
  generalize wi.alloc (.cells #[.int .i64 x.op,.int .i64 x.a,.int .i64 x.b,.int .i64 x.c,.int .i64 x.k,.int .i64 x.n,.slice xa x.regs.length xc,.slice xb x.args.length xd] 46)=w4 at I4 B4 CI ⊢;generalize wi.heap.size=X12 at I4 ⊢;clear u0 u1 u2 u3 u4 u5 u6 u7;have t0:=Qb I4.out 0 _ rfl;have t1:=Qb I4.out 1 _ rfl;have t2:=Qb I4.out 2 _ rfl;have t3:=Qb I4.out 3 _ rfl;have t4:=Qb I4.out 4 _ rfl;have t5:=Qb I4.out 5 _ rfl;have t6:=Qb I4.out 6 _ rfl;have t7:=Qb I4.out 7 _ rfl;go_wp2_with fail
  refine CI.out.mono ?_;rintro e9 w9 ⟨rfl,hs9,b9⟩;have S9:=Qa hs9;have B9:Hid (Below w1.heap.size w1 w9):=B4.out.trans b9;clear t0 t1 t2 t3 t4 t5 t6 t7 CI I4 B4 hs9 b9;by_cases hci:((JSt.start m fn g).upto (g.code.take z)).code x=0
  ·have E:Hid (((JSt.start m fn g).upto (g.code.take z)).ins x=(JSt.start m fn g).upto (g.code.take (z+1))):=by
    show _=_;rw[List.take_add_one,HXK.out]
    show _=(JSt.start m fn g).upto (g.code.take z++[x]);rw[JSt.upto_snoc]
    unfold JSt.ins;rw[if_pos hci]
   have HCI:=Qa hci;rw[hci]
   clear hci;go_wp2_with fail
   go_roundw
   case rel =>
    refine⟨z+1,by omega,by go_num,by rw[← E.out];exact S9.out,B9.out,fun j y hj hy=>?_⟩
    by_cases hjk:j<z
    ·exact HALL.out j y hjk hy
    ·have:j=z:=by omega
     subst this;rw[HXK.out] at hy
     cases hy
     exact HCI.out
   case measure=>simp[intOf];omega
  ·have E:Hid (Qj (10000*(f:Int)+100*(b:Int)) g.fin (JSt.start m fn g) 0 g.code=(((JSt.start m fn g).upto (g.code.take z)).code x,10000*(f:Int)+100*(b:Int)+(z:Int))):=Qcf HXK.out HALL.out hci;clear S9;generalize ((JSt.start m fn g).upto (g.code.take z)).code x=ce at E hci ⊢;have hce':(ce != 0)=true:=by simpa using hci
   have CA:=Qa (Qdw (f:=f) (b:=b) (i:=z) (w:=w9) ⟨by omega,by omega,by omega⟩);unfold Rd at CA;go_wp2_with fail
   refine CA.out.mono ?_;rintro e10 w10 ⟨rfl,b10⟩;have B10:Hid (Below w1.heap.size w1 w10):=B9.out.trans (b10.mono B9.out.size);clear b10 B9 CA;generalize 10000*(f:Int)+100*(b:Int)+(z:Int)=pl at E ⊢;have BQ:Hid (Blk w10 R #[.int .i64 0,.int .i64 0] 30):=Blk.below BR.out B10.out;have r0:=Qb BQ.out 0 _ rfl;have r1:=Qb BQ.out 1 _ rfl;have z0:=Qo BQ.out 0;have z1:=Qo BQ.out 1;have RB:Hid (Blk ((w10.setCell ⟨R,0,none⟩ (.int .i64 ce)).setCell ⟨R,1,none⟩ (.int .i64 pl)) R #[.int .i64 ce,.int .i64 pl] 30):=Zo BQ.out _ _;have BL:Hid (Below w.heap.size w ((w10.setCell ⟨R,0,none⟩ (.int .i64 ce)).setCell ⟨R,1,none⟩ (.int .i64 pl))):=((B0.out.trans (B10.out.mono B0.out.size)).setCell HRE.out _).setCell HRE.out _;go_wp2_with fail
   generalize (w10.setCell ⟨R,0,none⟩ (.int .i64 ce)).setCell ⟨R,1,none⟩ (.int .i64 pl)=w99 at RB BL ⊢;have e0:=Qb RB.out 0 _ rfl;have e1:=Qb RB.out 1 _ rfl;exact bodyPost_ret (v:=.agg #[.int .i64 ce,.int .i64 pl]) (by simp[results,Tryz.results41,go_sem,e0,e1]) rfl ⟨by rw[E.out],BL.out⟩
structure Qbl {α:Type}(A:Lay α) (e:TypeId) (w:World) (a0 lo:Nat) (v:Value) (l:List α) (xs:List Value):Prop where
 own:w.ownsRow lo e A.size v l.length xs
 kids:∀ (i:Nat) (x:α),l[i]?=some x→A.In w (fun g=>(g<a0∨lo≤g)∧v.ownBlock≠some g) x ((xs.drop (i*A.size)).take A.size)
section
variable {α:Type}{A:Lay α}{e:TypeId}{w w':World}{a0 lo:Nat}{v:Value}{l:List α}{xs:List Value}
theorem Qbl.nil (A:Lay α) (e:TypeId) (w:World) (a0 lo:Nat):Qbl A e w a0 lo (.slice none 0 0) [] []:=⟨⟨by simp,Or.inl ⟨rfl,rfl⟩⟩,fun i x h=>by simp at h⟩
theorem Qbl.lo_le (h:Qbl A e w a0 lo v l xs){g:Nat}(hg:v.ownBlock=some g):lo≤g∧g<w.heap.size:=by
 obtain⟨⟨h1,h2⟩,h3⟩:=h
 rcases h2 with ⟨rfl,h4⟩|⟨g',cap,cur,rfl,hg',hh,r⟩
 ·simp[Value.ownBlock] at hg
 ·simp[Value.ownBlock] at hg;subst hg;exact⟨hg',lt_of_block hh⟩
theorem Qbl.form (h:Qbl A e w a0 lo v l xs):∃ a c,v=.slice a l.length c:=by
 obtain⟨⟨h1,h2⟩,h3⟩:=h
 rcases h2 with ⟨rfl,h4⟩|⟨g,cap,cur,rfl,r⟩
 ·exact⟨none,0,by rw[h4]⟩
 ·exact⟨_,_,rfl⟩
theorem Qbl.keep (h:Qbl A e w a0 lo v l xs) (hk:∀ k,k<w.heap.size→(k<a0∨lo≤k)→w'.heap[k]?=w.heap[k]?):Qbl A e w' a0 lo v l xs:=by
 obtain⟨⟨h1,h2⟩,h3⟩:=h
 refine⟨⟨h1,?_⟩,fun i x hx=>A.keep (fun k ho hl=>hk k hl ho.1) (fun _ h _=>h) (h3 i x hx)⟩
 rcases h2 with h4 | ⟨g,cap,cur,e,hg,hh,r⟩
 ·exact Or.inl h4
 ·exact Or.inr ⟨g,cap,cur,e,hg,(hk g (lt_of_block hh) (.inr hg)).trans hh,r⟩
theorem Qbl.below (h:Qbl A e w a0 lo v l xs) (b:Below w.heap.size w w'):Qbl A e w' a0 lo v l xs:=h.keep fun k hk _=>b.block k hk
theorem Qbl.setOther (h:Qbl A e w a0 lo v l xs){p:Addr}(hp:a0≤p.block∧p.block<lo) (y:Value):Qbl A e (w.setCell p y) a0 lo v l xs :=
 h.keep fun k hk ho=>Below.heap_setCell _ _ _ _ (by omega)
theorem Qbl.lay (h:Qbl A e w a0 lo v l xs):A.list.In w (fun g=>g<a0∨lo≤g) l [v]:=by
 obtain⟨⟨h1,h2⟩,h3⟩:=h
 rcases h2 with ⟨rfl,h4⟩|⟨g,cap,cur,rfl,hg,hh,hn,hm,hs,ht⟩
 ·have:l=[]:=List.length_eq_zero_iff.1 h4
  subst this;exact Lay.list_nil A _ _ _ _
 ·refine⟨some ⟨g,0,none⟩,cap,rfl,fun i x hx=>⟨g,0,_,rfl,.inr hg,lt_of_block hh,fun j hj=>?_,Lay.mono (h3 i x hx) (fun k hk _=>hk.1)⟩⟩
  have hi:i<l.length:=(List.getElem?_eq_some_iff.1 hx).1
  have hij:i*A.size+j<l.length*A.size:=by
   have:(i+1)*A.size≤l.length*A.size:=Nat.mul_le_mul_right _ hi
   rw[Nat.add_mul] at this
   omega
  rw[List.getElem?_take,if_pos hj,List.getElem?_drop,← ht,List.getElem?_take,if_pos hij,Nat.zero_add]
  have hcs:i*A.size+j<cur.size:=by
   have:l.length*A.size≤cap*A.size:=Nat.mul_le_mul_right _ hn
   omega
  rw[Array.getElem?_toList]
  exact(Qb hh _ cur[i*A.size+j] (Array.getElem?_eq_getElem hcs)).trans (Array.getElem?_eq_getElem hcs).symm
theorem Qbl.push (h:Qbl A e w a0 lo v l xs) (ha:a0≤w.heap.size){x:α}{ds:List Value}(hx:A.In w (fun g=>(g<a0∨lo≤g)∧v.ownBlock≠some g) x ds)
 {g cap:Nat} (hg:w.grownBy w' v.ownBlock) (hat:v.ownBlock=some g∨g=w.heap.size)
 (ho:w'.ownsRow lo e A.size (.slice (some ⟨g,0,none⟩) (l.length+1) cap) (l.length+1) (xs++ds)) :
 Qbl A e w' a0 lo (.slice (some ⟨g,0,none⟩) (l.length+1) cap) (l++[x]) (xs++ds):=by
 obtain⟨h1,h3⟩:=h
 have hxl:=h1.1;have hdl:=A.len hx
 have keep:∀ {y:α} {es:List Value},A.In w (fun g=>(g<a0∨lo≤g)∧v.ownBlock≠some g) y es→A.In w' (fun g'=>(g'<a0∨lo≤g')∧(Value.slice (some ⟨g,0,none⟩) (l.length+1) cap).ownBlock≠some g') y es:=fun hy=>by
  refine A.keep (fun k hk hl=>?_) (fun k hk hl=>⟨hk.1,?_⟩) hy
  ·exact hg.block k hl (fun e=>hk.2 e.symm)
  ·simp only[Value.ownBlock,ne_eq,Option.some.injEq]
   intro e;subst e;rcases hat with h' | h'
   ·exact hk.2 h'
   ·omega
 refine⟨by rw[List.length_append];exact ho,fun i y hy=>?_⟩
 rw[List.getElem?_append] at hy
 split at hy
 ·rename_i hi
  have hm:(i+1)*A.size≤l.length*A.size:=Nat.mul_le_mul_right _ hi;rw[Nat.add_mul] at hm
  have:=h3 i y hy
  rw[List.drop_append_of_le_length (by omega),List.take_append_of_le_length (by simp;omega)]
  exact keep this
 ·rename_i hi
  have hi2:i=l.length:=by
   have:=(List.getElem?_eq_some_iff.1 hy).1
   simp at this
   omega
  subst hi2;simp at hy
  subst hy;rw[List.drop_append,List.drop_of_length_le (by omega),← hxl,Nat.sub_self,List.drop_zero,List.nil_append,List.take_of_length_le (by omega)]
  exact keep hx
end
theorem Qlo {b:List Value}(h:b.all (·.oneCell')=true):∀ u∈b,u.oneCell'=true:=List.all_eq_true.1 h
theorem QjZ {w:World}{O:Nat→Prop}:endL.In w O retE [.int .i64 3,.int .i64 0,.int .i64 0,.slice none 0 0,.slice none 0 0,.int .i64 0,.slice none 0 0,.slice none 0 0,.slice none 0 0]:=by
 have n0:intsL.In w O ([]:List Int) [.slice none 0 0]:=Lay.list_nil _ _ _ _ _;have t0:toL.In w O (⟨0,[],[]⟩:MTo) [.int .i64 0,.slice none 0 0,.slice none 0 0]:=⟨[_],_,rfl,⟨rfl,by decide⟩,[_],_,rfl,n0,n0⟩;exact⟨[_],_,rfl,⟨rfl,by simp[retE]⟩,[_],_,rfl,⟨rfl,by simp[retE]⟩,[_,_,_],_,rfl,t0,[_,_,_],_,rfl,t0,n0⟩
theorem Qhh {w:World}{O:Nat→Prop}{g:Qe 6}{a1:Option Addr}{c1:Nat}(h:(Qh 6).In w O g.params [.slice a1 g.params.length c1]) (hr:-9223372036854775808≤g.regs∧g.regs≤9223372036854775807):(Zc 6).In w O g.outl [.int .i64 g.regs,.slice a1 g.params.length c1,.slice none 0 0,.int .i64 3,.int .i64 0,.int .i64 0,.slice none 0 0,.slice none 0 0,.int .i64 0,.slice none 0 0,.slice none 0 0,.slice none 0 0] :=
 Qgl (x:=g.outl) (a:=a1) (c:=c1) (b:=none) (d:=0) h (Lay.list_nil _ _ _ _ _) QjZ hr
theorem QhW {w:World}{Q:Nat→Prop}{m:List (Qe 6)}{p:Option Addr}{n c:Nat}(h:(Zc 6).list.In w Q m [.slice p n c]){k:Nat}{g:Qe 6}(hg:m[k]?=some g):-9223372036854775808≤g.regs∧g.regs≤9223372036854775807:=by
 obtain⟨mg,mo,ds,e1,e2,e3,hc,hd⟩:=Lay.list_at h hg
 obtain⟨a1,c1,a2,c2,es,rfl,h1,h2,h3,h4⟩:=QbY hd
 exact h4
theorem QfU {α β:Type}{f:α→β}{l:List α}{k:Nat}{x:α}(h:l[k]?=some x):(l.take (k+1)).map f=(l.take k).map f++[f x]:=by
 rw[List.take_add_one,h];simp
theorem QiJ {w:World}{m:List (Qf 6)}{p:Option Addr}{c:Nat}(hm:(Qa5 6).In w All m [.slice p m.length c]) (hms:Qa9 m) :
 Calls Tryz.prog 40 #[.agg #[.slice p m.length c]] w fun e w'=>∃ a c',e=.returned (.agg #[.slice a m.length c'])∧(Qa5 6).In w' All (outl m) [.slice a m.length c']∧Below w.heap.size w w':=by
 have HM:=Qa hm;have HMS:=Qa hms;have hml:m.length≤100000:=hms.1;obtain⟨iB,hiB,hzB0,hzB1,hzB2⟩:=pInfoB
 obtain⟨iF,hiF,hzF0,hzF1,hzF2⟩:=pInfoF
 have b1:=QQ w (.cells #[.slice p m.length c] 24);have b2:=QQ (w.alloc (.cells #[.slice p m.length c] 24)) (.cells #[.slice none 0 0] 24);have b3:=QQ ((w.alloc (.cells #[.slice p m.length c] 24)).alloc (.cells #[.slice none 0 0] 24)) (.cells #[.slice none 0 0] 24)
 have B0:Hid (Below w.heap.size w (((w.alloc (.cells #[.slice p m.length c] 24)).alloc (.cells #[.slice none 0 0] 24)).alloc (.cells #[.slice none 0 0] 24))):=by
  have h:=b2.trans (b3.mono b2.size);exact b1.trans (h.mono b1.size)
 have s1:(w.alloc (.cells #[.slice p m.length c] 24)).heap.size=w.heap.size+1:=World.size_alloc ..;have s2:((w.alloc (.cells #[.slice p m.length c] 24)).alloc (.cells #[.slice none 0 0] 24)).heap.size=w.heap.size+1+1:=(World.size_alloc ..).trans (by rw[s1]);have s3:(((w.alloc (.cells #[.slice p m.length c] 24)).alloc (.cells #[.slice none 0 0] 24)).alloc (.cells #[.slice none 0 0] 24)).heap.size=w.heap.size+1+1+1:=(World.size_alloc ..).trans (by rw[s2])
 have BM:Hid (Blk (((w.alloc (.cells #[.slice p m.length c] 24)).alloc (.cells #[.slice none 0 0] 24)).alloc (.cells #[.slice none 0 0] 24)) w.heap.size #[.slice p m.length c] 24) :=
  Blk.below (Blk.below (Blk.new w #[.slice p m.length c] 24) b2) b3
 have BR:Hid (Blk (((w.alloc (.cells #[.slice p m.length c] 24)).alloc (.cells #[.slice none 0 0] 24)).alloc (.cells #[.slice none 0 0] 24)) (w.heap.size+1) #[.slice none 0 0] 24):=by
  have:=Blk.below (Blk.new (w.alloc (.cells #[.slice p m.length c] 24)) #[.slice none 0 0] 24) b3
  rw[s1] at this
  exact this
 have BO:Hid (Blk (((w.alloc (.cells #[.slice p m.length c] 24)).alloc (.cells #[.slice none 0 0] 24)).alloc (.cells #[.slice none 0 0] 24)) (w.heap.size+1+1) #[.slice none 0 0] 24):=by
  have:=Blk.new ((w.alloc (.cells #[.slice p m.length c] 24)).alloc (.cells #[.slice none 0 0] 24)) #[.slice none 0 0] 24
  rw[s2] at this
  exact this
 have HSZ:=Qa s3;clear b1 b2 b3 s1 s2 s3 hm hms;go_enter Tryz.func40,Tryz.ntmps40
 go_upto_region 2 with fail
 generalize ((w.alloc (.cells #[.slice p m.length c] 24)).alloc (.cells #[.slice none 0 0] 24)).alloc (.cells #[.slice none 0 0] 24)=w1 at B0 BM BR BO HSZ ⊢;obtain⟨X,hX⟩:∃ X,X=w.heap.size:=⟨_,rfl⟩
 obtain⟨R,hR⟩:∃ R,R=X+1:=⟨_,rfl⟩
 obtain⟨Mb,hMb⟩:∃ Mb,Mb=R+1:=⟨_,rfl⟩
 have HRE:Hid (w.heap.size≤R∧R<Mb∧Mb<w1.heap.size):=by have:=HSZ.out;exact⟨by omega,by omega,by omega⟩
 rw[← hX] at BM BR BO ⊢
 rw[← hR] at BR BO ⊢
 rw[← hMb] at BO ⊢
 clear hX hR hMb HSZ;have x0:=Qb BM.out 0 _ rfl;go_wp2_with fail
 clear x0;go_loopw [13] (fun i wr=>∃ (k:Nat) (v:Value) (cs:List Value),k≤m.length∧i=.int .i64 k∧Blk wr Mb #[v] 24∧Qbl (ZC 6) 40 wr w.heap.size w1.heap.size v ((m.take k).map Qf.outl) cs∧Chg Mb w1 wr) (fun i _=>m.length - (intOf i).toNat)
 case atStart=>exact⟨0,_,[],Nat.zero_le _,rfl,BO.out,Qbl.nil _ _ _ _ _,Chg.refl _ _⟩
 case round =>
  obtain⟨k,vF,cF,hk,rfl,hbo,hrow,hch⟩:=hrel
  obtain⟨wf,hwf⟩:∃ wf,wf=wr:=⟨_,rfl⟩
  subst hwf;have HBO:=Qa hbo;have HCH:=Qa hch;have HROW:=Qa hrow;have HBW:Hid (Below w.heap.size w wf):=Chg.last B0.out hch (by have:=HRE.out;omega) B0.out.size;obtain⟨aF,ccF,hvF⟩:=hrow.form
  have hlF:((m.take k).map Qf.outl).length=k:=by simp;omega
  rw[hlF] at hvF
  subst hvF;clear hbo hrow hch BO;by_cases hlt:k<m.length
  rotate_left
  ·have hlt':¬ (k:Int)<m.length:=by omega
   have hkm:k=m.length:=by omega
   have y0:=Qb HBO.out 0 _ rfl;have BRw:Hid (Blk wf R #[.slice none 0 0] 24):=BR.out.chg HCH.out (by have:=HRE.out;omega);have r0:=Qb BRw.out 0 _ rfl;have z0:=Qo BRw.out 0
   have RB:Hid (Blk (wf.setCell ⟨R,0,none⟩ (.slice aF k ccF)) R #[.slice aF k ccF] 24):=by
    have h9:Blk (wf.setCell ⟨R,0,none⟩ (.slice aF k ccF)) R #[.slice aF k ccF] 24:=by
     have:=Qk BRw.out 0 (.slice aF k ccF)
     simpa using this
    exact h9
   have BL:Hid (Below w.heap.size w (wf.setCell ⟨R,0,none⟩ (.slice aF k ccF))):=HBW.out.setCell HRE.out.1 _
   have LY:Hid ((Qa5 6).In (wf.setCell ⟨R,0,none⟩ (.slice aF k ccF)) All (outl m) [.slice aF k ccF]):=by
    have h:=(HROW.out.setOther (p:=⟨R,0,none⟩) (by have:=HRE.out;exact⟨this.1,by show R<_;omega⟩) (.slice aF k ccF)).lay;rw[List.take_of_length_le (by omega)] at h
    exact Lay.mono h (fun _ _ _=>trivial)
   have HKM:=Qa hkm;clear hkm hlF;go_wp2_with fail
   generalize wf.setCell ⟨R,0,none⟩ (.slice aF k ccF)=w99 at RB BL LY ⊢;have e0:=Qb RB.out 0 _ rfl;exact bodyPost_ret (v:=.agg #[.slice aF k ccF]) (by simp[results,Tryz.results40,go_sem,e0]) rfl ⟨aF,ccF,by rw[HKM.out],by rw[← HKM.out];exact LY.out,BL.out⟩
  have hlt':(k:Int)<m.length:=by omega
  have hfk:m[k]?=some m[k]:=List.getElem?_eq_getElem hlt;generalize m[k]=f at hfk;have HFK:=Qa hfk;obtain⟨mg,mo,ds,rfl,-,-,hcs,hfn⟩:=Lay.list_at HM.out hfk
  obtain⟨p1,d1,p2,d2,p3,d3,rfl,hpar,hres,hbs,hrr⟩:=Qac hfn
  have v0:wf.cell? ⟨mg,mo+k*4,none⟩=some (.int .i64 f.regs):=QY (show w.cell? ⟨mg,mo+k*4,none⟩=_ from hcs 0 (by decide)) HBW.out;have v1:wf.cell? ⟨mg,mo+k*4+1,none⟩=some (.slice p1 f.params.length d1):=QY (show w.cell? ⟨mg,mo+k*4+1,none⟩=_ from hcs 1 (by decide)) HBW.out;have v2:wf.cell? ⟨mg,mo+k*4+2,none⟩=some (.slice p2 f.results.length d2):=QY (show w.cell? ⟨mg,mo+k*4+2,none⟩=_ from hcs 2 (by decide)) HBW.out;have v3:wf.cell? ⟨mg,mo+k*4+3,none⟩=some (.slice p3 f.blocks.length d3):=QY (show w.cell? ⟨mg,mo+k*4+3,none⟩=_ from hcs 3 (by decide)) HBW.out;have HPAR:Hid ((Qh 6).In w (fun g=>g<w.heap.size) f.params [.slice p1 f.params.length d1]):=Lay.mono hpar (fun k _ hl=>hl);have HRES:Hid ((Qh 6).In w (fun g=>g<w.heap.size) f.results [.slice p2 f.results.length d2]):=Lay.mono hres (fun k _ hl=>hl);have HBS:Hid ((Zc 6).list.In w (fun g=>g<w.heap.size) f.blocks [.slice p3 f.blocks.length d3]):=Lay.mono hbs (fun k _ hl=>hl);have HRR:=Qa hrr;have hfb:f.blocks.length≤100000:=(HMS.out.2 f (List.mem_of_getElem? hfk)).1;have b5:=QQ wf (.cells #[.int .i64 f.regs,.slice p1 f.params.length d1,.slice p2 f.results.length d2,.slice p3 f.blocks.length d3] 40);have BF:Hid (Blk (wf.alloc (.cells #[.int .i64 f.regs,.slice p1 f.params.length d1,.slice p2 f.results.length d2,.slice p3 f.blocks.length d3] 40)) wf.heap.size #[.int .i64 f.regs,.slice p1 f.params.length d1,.slice p2 f.results.length d2,.slice p3 f.blocks.length d3] 40):=Blk.new _ _ _;have BO5:Hid (Blk (wf.alloc (.cells #[.int .i64 f.regs,.slice p1 f.params.length d1,.slice p2 f.results.length d2,.slice p3 f.blocks.length d3] 40)) Mb #[.slice aF k ccF] 24):=HBO.out.below b5;have RW5:Hid (Qbl (ZC 6) 40 (wf.alloc (.cells #[.int .i64 f.regs,.slice p1 f.params.length d1,.slice p2 f.results.length d2,.slice p3 f.blocks.length d3] 40)) w.heap.size w1.heap.size (.slice aF k ccF) ((m.take k).map Qf.outl) cF):=HROW.out.below b5;have CH5:Hid (Chg Mb w1 (wf.alloc (.cells #[.int .i64 f.regs,.slice p1 f.params.length d1,.slice p2 f.results.length d2,.slice p3 f.blocks.length d3] 40))):=HCH.out.allocP _;have BW5:Hid (Below w.heap.size w (wf.alloc (.cells #[.int .i64 f.regs,.slice p1 f.params.length d1,.slice p2 f.results.length d2,.slice p3 f.blocks.length d3] 40))):=HBW.out.trans (b5.mono HBW.out.size);have OWN:Hid (∀ g,(Value.slice aF k ccF).ownBlock=some g→w1.heap.size≤g∧g<wf.heap.size):=fun g hg=>HROW.out.lo_le hg;have S5:Hid (wf.heap.size<(wf.alloc (.cells #[.int .i64 f.regs,.slice p1 f.params.length d1,.slice p2 f.results.length d2,.slice p3 f.blocks.length d3] 40)).heap.size):=BF.out.lt;have S1:Hid (w1.heap.size≤wf.heap.size):=HCH.out.size;clear hcs hfn hpar hres hbs hrr b5 HBO HROW HCH HBW hfk;go_upto_region 5 with fail
  generalize wf.alloc (.cells #[.int .i64 f.regs,.slice p1 f.params.length d1,.slice p2 f.results.length d2,.slice p3 f.blocks.length d3] 40)=w5 at BF BO5 RW5 CH5 BW5 S5 ⊢;generalize wf.heap.size=XF at BF S5 OWN S1 ⊢;clear v0 v1 v2 v3;have t3:=Qb BF.out 3 _ rfl;go_wp2_with fail
  clear t3;go_loopw [6,20] (fun v u wq=>∃ (q:Nat) (cs:List Value),q≤f.blocks.length∧u=.int .i64 q∧Qbl (Zc 6) 60 wq w.heap.size w5.heap.size v ((f.blocks.take q).map Qe.outl) cs∧Below w5.heap.size w5 wq) (fun _ u _=>f.blocks.length - (intOf u).toNat)
  case atStart=>exact⟨0,[],Nat.zero_le _,rfl,Qbl.nil _ _ _ _ _,Below.refl _ _⟩
  case round =>
   obtain⟨q,cB,hq,rfl,hrow,hbq⟩:=hrel
   obtain⟨wq,hwq⟩:∃ wq,wq=wr:=⟨_,rfl⟩
   subst hwq;have RWB:=Qa hrow;have BQ:=Qa hbq;obtain⟨ba,bc,hvB⟩:=hrow.form
   have hlB:((f.blocks.take q).map Qe.outl).length=q:=by simp;omega
   rw[hlB] at hvB
   subst hvB;clear hrow hbq;by_cases hqt:q<f.blocks.length
   rotate_left
   ·have hqt':¬ (q:Int)<f.blocks.length:=by omega
    have hqm:q=f.blocks.length:=by omega
    subst hqm;have BOq:Hid (Blk wq Mb #[.slice aF k ccF] 24):=BO5.out.below BQ.out;have BFq:Hid (Blk wq XF #[.int .i64 f.regs,.slice p1 f.params.length d1,.slice p2 f.results.length d2,.slice p3 f.blocks.length d3] 40):=BF.out.below BQ.out;have RWq:Hid (Qbl (ZC 6) 40 wq w.heap.size w1.heap.size (.slice aF k ccF) ((m.take k).map Qf.outl) cF):=RW5.out.below BQ.out;have CHq:Hid (Chg Mb w1 wq):=CH5.out.trans (Chg.below BQ.out);have BWq:Hid (Below w.heap.size w wq):=BW5.out.trans (BQ.out.mono BW5.out.size)
    have FN:Hid ((ZC 6).In wq (fun g=>(g<w.heap.size∨w1.heap.size≤g)∧(Value.slice aF k ccF).ownBlock≠some g) f.outl [.int .i64 f.regs,.slice p1 f.params.length d1,.slice p2 f.results.length d2,.slice ba f.blocks.length bc]):=by
     have o1:=OWN.out;have o2:=S5.out;have o3:=HRE.out;have o4:=S1.out;have hfo:f.outl.blocks.length=f.blocks.length:=Qgj f;have hb:=RWB.out.lay;rw[List.take_of_length_le (Nat.le_refl _)] at hb
     have hb2:(Zc 6).list.In wq (fun g=>(g<w.heap.size∨w1.heap.size≤g)∧(Value.slice aF k ccF).ownBlock≠some g) f.outl.blocks [.slice ba f.outl.blocks.length bc]:=by
      rw[hfo]
      exact Lay.mono hb (fun j hj hl=>⟨by rcases hj with hj | hj;exact .inl hj;exact .inr (by omega),fun e=>by have:=o1 j e;rcases hj with hj | hj<;>omega⟩)
     have:=QhA (x:=f.outl) (Lay.mono (Lay.below HPAR.out BWq.out) (fun j hj hl=>⟨.inl hj,fun e=>by have:=o1 j e;omega⟩)) (Lay.mono (Lay.below HRES.out BWq.out) (fun j hj hl=>⟨.inl hj,fun e=>by have:=o1 j e;omega⟩)) hb2 HRR.out
     rw[hfo] at this
     exact this
    have hown:Hid (wq.ownsRow w1.heap.size 40 4 (.slice aF k ccF) k cF):=by
     have:=RWq.out.own
     rw[hlF] at this
     exact this
    have PU:Hid (∀ g cap w9,w9.ownsRow w1.heap.size 40 4 (.slice (some ⟨g,0,none⟩) (k+1) cap) (k+1) (cF++[.int .i64 f.regs,.slice p1 f.params.length d1,.slice p2 f.results.length d2,.slice ba f.blocks.length bc])→(wq.alloc (.cells #[.int .i64 f.regs,.slice p1 f.params.length d1,.slice p2 f.results.length d2,.slice ba f.blocks.length bc] 40)).grownBy w9 (Value.slice aF k ccF).ownBlock→((Value.slice aF k ccF).ownBlock=some g∨g=wq.heap.size+1) →
     Qbl (ZC 6) 40 (w9.setCell ⟨Mb,0,none⟩ (.slice (some ⟨g,0,none⟩) (k+1) cap)) w.heap.size w1.heap.size (.slice (some ⟨g,0,none⟩) (k+1) cap) ((m.take (k+1)).map Qf.outl) (cF++[.int .i64 f.regs,.slice p1 f.params.length d1,.slice p2 f.results.length d2,.slice ba f.blocks.length bc])∧Blk w9 Mb #[.slice aF k ccF] 24∧Chg Mb w1 (w9.setCell ⟨Mb,0,none⟩ (.slice (some ⟨g,0,none⟩) (k+1) cap))∧Blk (w9.setCell ⟨Mb,0,none⟩ (.slice (some ⟨g,0,none⟩) (k+1) cap)) Mb #[.slice (some ⟨g,0,none⟩) (k+1) cap] 24):=by
     intro g cap w9 h1 h2 h3;have b6:Below wq.heap.size wq (wq.alloc (.cells #[.int .i64 f.regs,.slice p1 f.params.length d1,.slice p2 f.results.length d2,.slice ba f.blocks.length bc] 40)):=QQ _ _;have A5:=RWq.out.below b6;have T5:=Lay.below FN.out b6;have o3:=HRE.out;have A9:=Qbl.push A5 (by have:=(BWq.out.trans (b6.mono BWq.out.size)).size;exact this) T5 h2 (by simpa using h3) (by rw[hlF];exact h1);rw[hlF,← QfU HFK.out] at A9
     have C9:Chg Mb w1 w9:=Chg.grownP (CHq.out.trans (Chg.below b6)) h2 (fun k hk=>(A5.lo_le hk).1);have K9:Blk w9 Mb #[.slice aF k ccF] 24:=((h2.block Mb (Nat.lt_of_lt_of_le BOq.out.lt b6.size) (fun e=>by have:=(A5.lo_le e.symm).1;omega)).trans (BOq.out.below b6));refine⟨A9.setOther ⟨by show w.heap.size≤Mb;omega,by show Mb<_;omega⟩ _,K9,C9.trans (Chg.set _ _ _ K9.lt),?_⟩
     have:=Qk K9 0 (.slice (some ⟨g,0,none⟩) (k+1) cap)
     simpa using this
    have hsz:w1.heap.size≤wq.heap.size:=CHq.out.size;have y0:=Qb BOq.out 0 _ rfl;have f0:=Qb BFq.out 0 _ rfl;have f1:=Qb BFq.out 1 _ rfl;have f2:=Qb BFq.out 2 _ rfl;clear BOq BFq RWq CHq BWq FN RWB BQ;generalize f.params.length=lp at PU f1 ⊢;generalize f.results.length=lr at PU f2 ⊢;generalize f.blocks.length=lb at PU hqt' f0 f1 f2 ⊢;generalize f.regs=rr at PU f0 ⊢;go_wp2_with (at_builtin;refine wpList_append_lies _ rfl (.tmp 35) (.tmp 44) 22 rfl w1.heap.size 40 iF (.agg #[.int .i64 0,.slice none 0 0,.slice none 0 0,.slice none 0 0]) 4 80 pUnderF hiF hzF0 hzF1 hzF2 rfl (by decide) _ _ _ rfl (hown.out.alloc _) ⟨wq.heap.size,0,none⟩ 1 1 [.int .i64 rr,.slice p1 lp d1,.slice p2 lr d2,.slice ba lb bc] rfl rfl (Qib _ [_,_,_,_] _) (Qlo rfl) (by decide) (by unfold maxLen;omega) (by omega) (by simp;omega) (wq.heap.size+1) (by simp) ?_)
    intro g2 cap2 w9 h1 hgrow hat hlt1;obtain⟨q1,q2,q3,q4⟩:=PU.out g2 cap2 w9 h1 hgrow hat
    have A9:=Qa q1;have K9:=Qa q2;have C9:=Qa q3;have N9:=Qa q4;have y9:=Qb q2 0 _ rfl;have z9:=Qo q2 0;clear h1 hgrow hat hlt1 hown PU q1 q2 q3 q4 y0 f0 f1 f2;go_wp2
    go_roundw
    case rel=>exact⟨k+1,_,_,hlt,by go_num,N9.out,A9.out,C9.out⟩
    case measure=>simp[intOf];omega
   have hqt':(q:Int)<f.blocks.length:=by omega
   have hgk:f.blocks[q]?=some f.blocks[q]:=List.getElem?_eq_getElem hqt;generalize f.blocks[q]=g at hgk;have HGK:=Qa hgk;have HGR:=Qa (QhW HBS.out hgk);obtain⟨eg,eo,a1,c1,es,rfl,hrange,hes,hgp,hone⟩:=Qbf HBS.out hgk
   have HGP:=Qa hgp;have BWq:Hid (Below w.heap.size w wq):=BW5.out.trans (BQ.out.mono BW5.out.size);have HRG:Hid (wq.rangeAt eg (eo+q*12) (Value.int .i64 g.regs::Value.slice a1 g.params.length c1::es)):=ZX hrange BWq.out;generalize hds:(Value.int .i64 g.regs::Value.slice a1 g.params.length c1::es)=cs at HRG;have hl:cs.length=12:=by rw[← hds];simp[hes]
   have TS:Hid ((Tryz.prog.info? 60).map (·.size)=some cs.length):=by show _=_;rw[hl];exact pSizeB
   have TH:Hid ((wq.alloc (.cells #[.int .i64 0,.slice none 0 0,.slice none 0 0,.int .i64 0,.int .i64 0,.int .i64 0,.slice none 0 0,.slice none 0 0,.int .i64 0,.slice none 0 0,.slice none 0 0,.slice none 0 0] 60)).there wq.heap.size 0 cs.toArray.size):=by
    intro j hj;rw[List.size_toArray,hl] at hj
    rw[Nat.zero_add]
    have hB:=Qu wq #[.int .i64 0,.slice none 0 0,.slice none 0 0,.int .i64 0,.int .i64 0,.int .i64 0,.slice none 0 0,.slice none 0 0,.int .i64 0,.slice none 0 0,.slice none 0 0,.slice none 0 0] 60;refine⟨?_,Qo hB j⟩
    rw[Qb hB j ((#[.int .i64 0,.slice none 0 0,.slice none 0 0,.int .i64 0,.int .i64 0,.int .i64 0,.slice none 0 0,.slice none 0 0,.int .i64 0,.slice none 0 0,.slice none 0 0,.slice none 0 0]:Array Value)[j]'hj) (by simp)];rfl
   have TS2:Hid ((Tryz.prog.info? 60).map (·.size)=some cs.toArray.size):=by show _=_;rw[List.size_toArray];exact TS.out
   have TO:Hid (cs.toArray.all (·.oneCell')=true):=by
    refine all_oneCell_toArray fun v hv=>?_;rw[← hds] at hv
    rcases List.mem_cons.1 hv with rfl | hv
    ·rfl
    rcases List.mem_cons.1 hv with rfl | hv
    ·rfl
    exact hone v hv
   have B6:Hid (Blk ((wq.alloc (.cells #[.int .i64 0,.slice none 0 0,.slice none 0 0,.int .i64 0,.int .i64 0,.int .i64 0,.slice none 0 0,.slice none 0 0,.int .i64 0,.slice none 0 0,.slice none 0 0,.slice none 0 0] 60)).setCells wq.heap.size 0 cs.toArray.toList) wq.heap.size (Value.int .i64 g.regs::Value.slice a1 g.params.length c1::es).toArray 60):=by
    have h0:Blk (wq.alloc (.cells #[.int .i64 0,.slice none 0 0,.slice none 0 0,.int .i64 0,.int .i64 0,.int .i64 0,.slice none 0 0,.slice none 0 0,.int .i64 0,.slice none 0 0,.slice none 0 0,.slice none 0 0] 60)) wq.heap.size ([]++(#[.int .i64 0,.slice none 0 0,.slice none 0 0,.int .i64 0,.int .i64 0,.int .i64 0,.slice none 0 0,.slice none 0 0,.int .i64 0,.slice none 0 0,.slice none 0 0,.slice none 0 0]:Array Value).toList).toArray 60:=Qu wq _ _;rw[hds]
    exact Blk.sets cs [] (#[.int .i64 0,.slice none 0 0,.slice none 0 0,.int .i64 0,.int .i64 0,.int .i64 0,.slice none 0 0,.slice none 0 0,.int .i64 0,.slice none 0 0,.slice none 0 0,.slice none 0 0]:Array Value).toList _ (by rw[hl];rfl) h0
   have b6:Hid (Below wq.heap.size wq ((wq.alloc (.cells #[.int .i64 0,.slice none 0 0,.slice none 0 0,.int .i64 0,.int .i64 0,.int .i64 0,.slice none 0 0,.slice none 0 0,.int .i64 0,.slice none 0 0,.slice none 0 0,.slice none 0 0] 60)).setCells wq.heap.size 0 cs.toArray.toList)):=by
    have:=Zj.setCells (O:=fun k=>k=wq.heap.size) (O':=fun k=>k=wq.heap.size) (b:=wq.heap.size) rfl cs.toArray.toList 0 _ (Zj.refl _ (wq.alloc (.cells #[.int .i64 0,.slice none 0 0,.slice none 0 0,.int .i64 0,.int .i64 0,.int .i64 0,.slice none 0 0,.slice none 0 0,.int .i64 0,.slice none 0 0,.slice none 0 0,.slice none 0 0] 60)))
    exact(QQ wq _).trans (this.below (by simp) (fun k hk=>by omega))
   clear hl hds hrange hes hgp hone hgk;go_upto_region 9 with (first | (refine wpList_load_mid rfl 60 (.tmp 22) rfl eg (eo+q*12) rfl cs _ HRG.out Tryz.underlying60 rfl TS.out ?_) | (refine wpList_store_mid rfl 60 (.tmp 8) (.tmp 23) rfl wq.heap.size 0 cs.toArray rfl rfl TH.out TS2.out TO.out ?_))
   have B7:Hid (Blk ((wq.alloc (.cells #[.int .i64 0,.slice none 0 0,.slice none 0 0,.int .i64 0,.int .i64 0,.int .i64 0,.slice none 0 0,.slice none 0 0,.int .i64 0,.slice none 0 0,.slice none 0 0,.slice none 0 0] 60)).setCells wq.heap.size 0 cs) wq.heap.size (Value.int .i64 g.regs::Value.slice a1 g.params.length c1::es).toArray 60):=B6.out;have b7:Hid (Below wq.heap.size wq ((wq.alloc (.cells #[.int .i64 0,.slice none 0 0,.slice none 0 0,.int .i64 0,.int .i64 0,.int .i64 0,.slice none 0 0,.slice none 0 0,.int .i64 0,.slice none 0 0,.slice none 0 0,.slice none 0 0] 60)).setCells wq.heap.size 0 cs)):=b6.out;clear B6 b6 TH TS TS2 TO HRG;generalize (wq.alloc (.cells #[.int .i64 0,.slice none 0 0,.slice none 0 0,.int .i64 0,.int .i64 0,.int .i64 0,.slice none 0 0,.slice none 0 0,.int .i64 0,.slice none 0 0,.slice none 0 0,.slice none 0 0] 60)).setCells wq.heap.size 0 cs=w6 at B7 b7 ⊢;have RW6:Hid (Qbl (Zc 6) 60 w6 w.heap.size w5.heap.size (.slice ba q bc) ((f.blocks.take q).map Qe.outl) cB):=RWB.out.below b7.out;have BQ6:Hid (Below w5.heap.size w5 w6):=BQ.out.trans (b7.out.mono BQ.out.size);generalize wq.heap.size=Bx at B7 b7 ⊢;have g0:w6.cell? ⟨Bx,0,none⟩=some (.int .i64 g.regs):=Qb B7.out 0 _ rfl;have g1:w6.cell? ⟨Bx,1,none⟩=some (.slice a1 g.params.length c1):=Qb B7.out 1 _ rfl
   have hown:Hid (w6.ownsRow w5.heap.size 60 12 (.slice ba q bc) q cB):=by
    have:=RW6.out.own
    rw[hlB] at this
    exact this
   have PU:Hid (∀ gg cap w9,w9.ownsRow w5.heap.size 60 12 (.slice (some ⟨gg,0,none⟩) (q+1) cap) (q+1) (cB++[.int .i64 g.regs,.slice a1 g.params.length c1,.slice none 0 0,.int .i64 3,.int .i64 0,.int .i64 0,.slice none 0 0,.slice none 0 0,.int .i64 0,.slice none 0 0,.slice none 0 0,.slice none 0 0])→(w6.alloc (.cells #[.int .i64 g.regs,.slice a1 g.params.length c1,.slice none 0 0,.int .i64 3,.int .i64 0,.int .i64 0,.slice none 0 0,.slice none 0 0,.int .i64 0,.slice none 0 0,.slice none 0 0,.slice none 0 0] 60)).grownBy w9 (Value.slice ba q bc).ownBlock→((Value.slice ba q bc).ownBlock=some gg∨gg=w6.heap.size+1) →
    Qbl (Zc 6) 60 w9 w.heap.size w5.heap.size (.slice (some ⟨gg,0,none⟩) (q+1) cap) ((f.blocks.take (q+1)).map Qe.outl) (cB++[.int .i64 g.regs,.slice a1 g.params.length c1,.slice none 0 0,.int .i64 3,.int .i64 0,.int .i64 0,.slice none 0 0,.slice none 0 0,.int .i64 0,.slice none 0 0,.slice none 0 0,.slice none 0 0])∧Below w5.heap.size w5 w9):=by
    intro gg cap w9 h1 h2 h3;have b8:Below w6.heap.size w6 (w6.alloc (.cells #[.int .i64 g.regs,.slice a1 g.params.length c1,.slice none 0 0,.int .i64 3,.int .i64 0,.int .i64 0,.slice none 0 0,.slice none 0 0,.int .i64 0,.slice none 0 0,.slice none 0 0,.slice none 0 0] 60)):=QQ _ _;have A5:=RW6.out.below b8;have BW6:Below w.heap.size w w6:=BW5.out.trans (BQ6.out.mono BW5.out.size);have o5:=BW5.out.size
    have T5:(Zc 6).In (w6.alloc (.cells #[.int .i64 g.regs,.slice a1 g.params.length c1,.slice none 0 0,.int .i64 3,.int .i64 0,.int .i64 0,.slice none 0 0,.slice none 0 0,.int .i64 0,.slice none 0 0,.slice none 0 0,.slice none 0 0] 60)) (fun k=>(k<w.heap.size∨w5.heap.size≤k)∧(Value.slice ba q bc).ownBlock≠some k) g.outl [.int .i64 g.regs,.slice a1 g.params.length c1,.slice none 0 0,.int .i64 3,.int .i64 0,.int .i64 0,.slice none 0 0,.slice none 0 0,.int .i64 0,.slice none 0 0,.slice none 0 0,.slice none 0 0] :=
     Lay.below (Qhh (Lay.mono (Lay.below HGP.out BW6) (fun j hj hl=>⟨.inl hj,fun e=>by have:=(RW6.out.lo_le e).1;omega⟩)) HGR.out) b8
    have A9:=Qbl.push A5 ((BW6.trans (b8.mono BW6.size)).size) T5 h2 (by simpa using h3) (by rw[hlB];exact h1);rw[hlB,← QfU HGK.out] at A9
    exact⟨A9,(BQ6.out.trans (b8.mono BQ6.out.size)).grown h2 (Nat.le_trans BQ6.out.size b8.size) (fun k hk=>(A5.lo_le hk).1)⟩
   have hsz:w5.heap.size≤w6.heap.size:=BQ6.out.size;clear B7 b7 RW6 BQ6 RWB BQ BWq HGP HGR;generalize g.params.length=lp at PU g1 ⊢;generalize g.regs=rr at PU g0 ⊢;go_wp2_with (at_builtin;refine wpList_append_lies _ rfl (.tmp 24) (.tmp 31) 38 rfl w5.heap.size 60 iB (.agg #[.int .i64 0,.slice none 0 0,.slice none 0 0,.int .i64 0,.int .i64 0,.int .i64 0,.slice none 0 0,.slice none 0 0,.int .i64 0,.slice none 0 0,.slice none 0 0,.slice none 0 0]) 12 208 pUnderB hiB hzB0 hzB1 hzB2 rfl (by decide) _ _ _ rfl (hown.out.alloc _) ⟨w6.heap.size,0,none⟩ 1 1 [.int .i64 rr,.slice a1 lp c1,.slice none 0 0,.int .i64 3,.int .i64 0,.int .i64 0,.slice none 0 0,.slice none 0 0,.int .i64 0,.slice none 0 0,.slice none 0 0,.slice none 0 0] rfl rfl (Qib _ [_,_,_,_,_,_,_,_,_,_,_,_] _) (Qlo rfl) (by decide) (by unfold maxLen;omega) (by omega) (by simp;omega) (w6.heap.size+1) (by simp) ?_)
   intro g2 cap2 w9 h1 hgrow hat hlt1;obtain⟨q1,q2⟩:=PU.out g2 cap2 w9 h1 hgrow hat
   have A9:=Qa q1;have C9:=Qa q2;clear h1 hgrow hat hlt1 hown PU q1 q2 g0 g1;go_wp2
   go_roundw
   case rel=>exact⟨q+1,_,hqt,by go_num,A9.out,C9.out⟩
   case measure=>simp[intOf];omega
theorem Wd.join {w0 w1 w2:World}{Bs Bs':List (Nat × Array Value × TypeId)}(h1:Wd w0 w1 Bs) (h2:Wd w1 w2 Bs'):Wd w0 w2 (Bs'++Bs):=by
 have sp:∀ (i:Nat) x,(Bs'++Bs)[i]?=some x→(Bs'[i]?=some x∧i<Bs'.length)∨(Bs[i - Bs'.length]?=some x∧Bs'.length≤i):=fun i x hx=>by
  rcases Nat.lt_or_ge i Bs'.length with h | h
  ·rw[List.getElem?_append_left h] at hx;exact .inl ⟨hx,h⟩
  ·rw[List.getElem?_append_right h] at hx;exact .inr ⟨hx,h⟩
 refine⟨Below.andThen h1.bel h2.bel,fun i x hx=>?_,fun i x hx=>?_,fun i j x y hx hy e=>?_⟩
 ·rcases sp i x hx with ⟨h,_⟩|⟨h,_⟩
  ·exact h2.blk i x h
  ·exact(h1.blk _ x h).below h2.bel
 ·rcases sp i x hx with ⟨h,_⟩|⟨h,_⟩
  ·exact Nat.le_trans h1.bel.size (h2.new i x h)
  ·exact h1.new _ x h
 ·rcases sp i x hx with ⟨h,hi⟩|⟨h,hi⟩<;>rcases sp j y hy with ⟨h',hj⟩|⟨h',hj⟩
  ·exact h2.nd i j x y h h' e
  ·have:=h2.new i x h;have:=(h1.blk _ y h').lt;omega
  ·have:=h2.new j y h';have:=(h1.blk _ x h).lt;omega
  ·have:=h1.nd _ _ x y h h' e;omega
def QV (lo B:Nat) (w w':World):Prop:=∀ k,k<lo→k≠B→w'.heap[k]?=w.heap[k]?
section
variable {lo B s:Nat}{w w1 w2:World}
theorem QV.refl (lo B:Nat) (w:World):QV lo B w w:=fun _ _ _=>rfl
theorem QV.below (h:QV lo B w w1) (b:Below s w1 w2) (hs:lo≤s):QV lo B w w2:=fun k hk hne=>(b.block k (by omega)).trans (h k hk hne)
theorem QV.grown {row:Option Nat}(h:QV lo B w w1) (b:w1.grownBy w2 row) (hs:lo≤w1.heap.size) (hr:∀ k,row=some k→lo≤k):QV lo B w w2:=fun k hk hne=>(b.block k (by omega) (fun e=>by have:=hr k e.symm;omega)).trans (h k hk hne)
theorem QV.keep1 (h:QV lo B w w1) (b:Qde B w1 w2):QV lo B w w2:=fun k hk hne=>(b k hne).trans (h k hk hne)
theorem Lay.keepBut {α:Type}{A:Lay α}{O O':Nat→Prop}{x:α}{cs:List Value}(h:A.In w O x cs) (hk:QV lo B w w1) (ho:∀ k,O k→k<w.heap.size→k<lo∧k≠B) (ho':∀ k,O k→k<w.heap.size→O' k):A.In w1 O' x cs :=
 A.keep (fun k hO hl=>hk k (ho k hO hl).1 (ho k hO hl).2) ho' h
end
section
variable {α:Type}{A:Lay α}{e:TypeId}{w w':World}{lo B:Nat}{v:Value}{l:List α}{xs:List Value}
theorem ZB.keep1 (h:ZB A e w lo v l xs) (hk:Qde B w w') (hB:B<lo):ZB A e w' lo v l xs:=by
 obtain⟨⟨h1,h2⟩,h3⟩:=h
 refine⟨⟨h1,?_⟩,fun i x hx=>A.keep (fun k hO _=>hk k (by have:=hO.1;omega)) (fun _ h _=>h) (h3 i x hx)⟩
 rcases h2 with h4 | ⟨g,cap,cur,e,hg,hh,r⟩
 ·exact Or.inl h4
 ·exact Or.inr ⟨g,cap,cur,e,hg,(hk g (by omega)).trans hh,r⟩
theorem ZB.form (h:ZB A e w lo v l xs):∃ a c,v=.slice a l.length c:=by
 rcases h.own.2 with ⟨rfl,h4⟩|⟨g,cap,cur,rfl,_⟩
 ·exact⟨none,0,by rw[h4]⟩
 ·exact⟨_,_,rfl⟩
theorem ZB.nil' (A:Lay α) (e:TypeId) (w:World) (lo:Nat):ZB A e w lo (.slice none 0 0) (l.take 0) []:=ZB.nil A e w lo
end
theorem QV.keep1t {lo B:Nat}{w w1 w2:World}(h:QV lo B w w1) (b:Qde B w1 w2) (hB:B<lo):QV lo B w w2:=h.keep1 b
theorem Lay.keepNe {α:Type}{A:Lay α}{O:Nat→Prop}{w w1:World}{B:Nat}{x:α}{cs:List Value}(h:A.In w O x cs) (hk:Qde B w w1) (ho:∀ k,O k→k≠B):A.In w1 O x cs :=
 A.keep (fun k hO _=>hk k (ho k hO)) (fun _ h _=>h) h
theorem Qlu {x1 x2:Nat × Array Value × TypeId}{lo:Nat}(h1:x1.1<lo) (h2:x2.1<lo):∀ (i:Nat) x,[x1,x2][i]?=some x→x.1<lo:=fun i x h=>by
 match i,h with
 | 0,h=>cases h;exact h1
 | 1,h=>cases h;exact h2
 | i+2,h=>simp at h
theorem QlW {x1 x2 x3:Nat × Array Value × TypeId}{lo:Nat}(h1:x1.1<lo) (h2:x2.1<lo) (h3:x3.1<lo):∀ (i:Nat) x,[x1,x2,x3][i]?=some x→x.1<lo:=fun i x h=>by
 match i,h with
 | 0,h=>cases h;exact h1
 | 1,h=>cases h;exact h2
 | 2,h=>cases h;exact h3
 | i+3,h=>simp at h
theorem QaB {n:Nat}{l:List (TT n)}{p:Option Addr}{c:Nat}{w:World}(h:(Qh n).In w All l [.slice p l.length c]) (hs:Qbo l):Calls Tryz.prog 37 #[.slice p l.length c] w fun e w'=>Qc3 (Lay.tt n) w w' l e :=
 (Qgn n (own_any n) l p c w (QL h).1 (by have:=hs.1;omega) hs.2).mono fun e w' ⟨a',c',h1,h2,h3⟩=>⟨a',c',h1,Qb9 h2 (QL h).2,h3⟩
theorem ZB.next {α:Type}{A:Lay α}{e:TypeId}{w:World}{lo q:Nat}{v:Value}{l:List α}{xs:List Value}{x:α}(h:ZB A e w lo v (l.take q++[x]) xs) (hx:l[q]?=some x):ZB A e w lo v (l.take (q+1)) xs:=by
 rw[List.take_add_one,hx];exact h
theorem ZB.full {α:Type}{A:Lay α}{e:TypeId}{w:World}{lo q:Nat}{v:Value}{l:List α}{xs:List Value}(h:ZB A e w lo v (l.take q) xs) (hq:q=l.length):ZB A e w lo v l xs:=by
 rwa [List.take_of_length_le (by omega)] at h
theorem Zb {w w':World}{lo lo':Nat}{e:TypeId}{s n:Nat}{v:Value}{xs:List Value}(h:w.ownsRow lo e s v n xs) (hk:∀ g,v.ownBlock=some g→lo≤g→g<w.heap.size→w'.heap[g]?=w.heap[g]?∧lo'≤g):w'.ownsRow lo' e s v n xs:=by
 obtain⟨h1,h2⟩:=h
 refine⟨h1,?_⟩
 rcases h2 with h4 | ⟨g,cap,cur,e,hg,hh,r⟩
 ·exact Or.inl h4
 ·subst e;obtain⟨q1,q2⟩:=hk g rfl hg (lt_of_block hh)
  exact Or.inr ⟨g,cap,cur,rfl,q2,q1.trans hh,r⟩
def Lay.apart {α:Type}(A:Lay α) (e:TypeId):Lay (List α) where
 size:=1
 In:=fun w O l cs=>∃ (v:Value) (xs:List Value) (S:Nat→Nat→Prop),cs=[v]∧w.ownsRow 0 e A.size v l.length xs∧(∀ g,v.ownBlock=some g→O g)∧(∀ i j g,S i g→S j g→i=j)∧∀ (i:Nat) (x:α),l[i]?=some x→A.In w (fun g=>O g∧v.ownBlock≠some g∧S i g) x ((xs.drop (i*A.size)).take A.size)
 len:=fun h=>by obtain⟨v,xs,S,rfl,_⟩:=h;rfl
 keep:=fun hb hl h=>by
  obtain⟨v,xs,S,e1,h1,h2,h3,h4⟩:=h
  have hlt:∀ g,v.ownBlock=some g→g<_:=fun g hg=>by
   rcases h1.2 with ⟨rfl,h4⟩|⟨g',cap,cur,rfl,hg',hh,r⟩
   ·simp[Value.ownBlock] at hg
   ·simp[Value.ownBlock] at hg;subst hg;exact lt_of_block hh
  exact⟨v,xs,S,e1,Zb h1 (fun g hg _ hgl=>⟨hb g (h2 g hg) hgl,Nat.zero_le _⟩),fun g hg=>hl g (h2 g hg) (hlt g hg),h3,fun i x hx=>A.keep (fun k hk hkl=>hb k hk.1 hkl) (fun k hk hkl=>⟨hl k hk.1 hkl,hk.2⟩) (h4 i x hx)⟩
def Lay.apair {α β:Type}(A:Lay α) (B:Lay β):Lay (α × β) where
 size:=A.size+B.size
 In:=fun w O x cs=>∃ (S:Nat→Prop) (c1 c2:List Value),cs=c1++c2∧A.In w (fun g=>O g∧S g) x.1 c1∧B.In w (fun g=>O g∧¬ S g) x.2 c2
 len:=fun h=>by obtain⟨S,c1,c2,rfl,h1,h2⟩:=h;simp[A.len h1,B.len h2]
 keep:=fun hb hl h=>by
  obtain⟨S,c1,c2,e,h1,h2⟩:=h
  exact⟨S,c1,c2,e,A.keep (fun k hk hkl=>hb k hk.1 hkl) (fun k hk hkl=>⟨hl k hk.1 hkl,hk.2⟩) h1,B.keep (fun k hk hkl=>hb k hk.1 hkl) (fun k hk hkl=>⟨hl k hk.1 hkl,hk.2⟩) h2⟩
theorem Lay.Sub.apair {α β:Type}{A A':Lay α}{B B':Lay β}(h:Lay.Sub A A') (k:Lay.Sub B B'):Lay.Sub (A.apair B) (A'.pair B') :=
 ⟨by show A.size+B.size=A'.size+B'.size;rw[h.1,k.1],fun ⟨S,c1,c2,e,h1,h2⟩=>⟨c1,c2,e,Lay.mono (h.2 h1) (fun _ h _=>h.1),Lay.mono (k.2 h2) (fun _ h _=>h.1)⟩⟩
theorem Qao {w:World}{e:TypeId}{s n g cap:Nat}{xs:List Value}(h:w.ownsRow 0 e s (.slice (some ⟨g,0,none⟩) n cap) n xs){i j:Nat}(hi:i<n) (hj:j<s):w.cell? ⟨g,i*s+j,none⟩=((xs.drop (i*s)).take s)[j]?:=by
 obtain⟨h1,h2⟩:=h
 rcases h2 with ⟨e1,_⟩|⟨g',cap',cur,e1,_,hh,hn,hm,hs,ht⟩
 ·cases e1
 ·cases e1
  have hij:i*s+j<n*s:=by
   have:(i+1)*s≤n*s:=Nat.mul_le_mul_right _ hi
   rw[Nat.add_mul] at this
   omega
  rw[List.getElem?_take,if_pos hj,List.getElem?_drop,← ht,List.getElem?_take,if_pos hij]
  have hcs:i*s+j<cur.size:=by
   have:n*s≤cap*s:=Nat.mul_le_mul_right _ hn
   omega
  rw[Array.getElem?_toList]
  exact(Qb hh _ cur[i*s+j] (Array.getElem?_eq_getElem hcs)).trans (Array.getElem?_eq_getElem hcs).symm
theorem Qcm {w:World}{e:TypeId}{s n:Nat}{v:Value}{xs:List Value}(h:w.ownsRow 0 e s v n xs) (h0:0<n):∃ g cap,v=.slice (some ⟨g,0,none⟩) n cap∧g<w.heap.size∧n≤cap:=by
 rcases h.2 with ⟨rfl,h4⟩|⟨g,cap,cur,rfl,hg,hh,hn,r⟩
 ·omega
 ·exact⟨g,cap,rfl,lt_of_block hh,hn⟩
theorem Lay.Sub.apart {α:Type}{A A':Lay α}(h:Lay.Sub A A') (e:TypeId):Lay.Sub (A.apart e) A'.list :=
 ⟨rfl,fun {w O l cs} ⟨v,xs,S,e1,h1,h2,h3,h4⟩=>by
  subst e1;by_cases h0:0<l.length
  ·obtain⟨g,cap,rfl,hg,hn⟩:=Qcm h1 h0
   refine⟨some ⟨g,0,none⟩,cap,rfl,fun i x hx=>⟨g,0,_,rfl,h2 g rfl,hg,fun j hj=>?_,Lay.mono (h.2 (h4 i x hx)) (fun _ h _=>h.1)⟩⟩
   rw[Nat.zero_add,← h.1]
   exact Qao h1 (List.getElem?_eq_some_iff.1 hx).1 (by rw[h.1];exact hj)
  ·have e0:l=[]:=List.length_eq_zero_iff.1 (by omega);subst e0;rcases h1.2 with ⟨rfl,_⟩|⟨g,cap,cur,rfl,_⟩
   ·exact Lay.list_nil _ _ _ _ _
   ·exact Lay.list_nil _ _ _ _ _⟩
structure QaR {α:Type}(A:Lay α) (e:TypeId) (w:World) (lo:Nat) (v:Value) (l:List α) (xs:List Value):Prop where
 own:w.ownsRow lo e A.size v l.length xs
 kids:∃ a:Nat→Nat,a 0=0∧(∀ i j,i≤j→a i≤a j)∧a l.length≤w.heap.size∧∀ (i:Nat) (x:α),l[i]?=some x→A.In w (fun g=>lo≤g∧v.ownBlock≠some g∧a i≤g∧g<a (i+1)) x ((xs.drop (i*A.size)).take A.size)
section
variable {α:Type}{A:Lay α}{e:TypeId}{w w':World}{lo B q:Nat}{v:Value}{l:List α}{xs:List Value}
theorem QaR.nil' (A:Lay α) (e:TypeId) (w:World) (lo:Nat):QaR A e w lo (.slice none 0 0) (l.take 0) []:=⟨⟨by simp,Or.inl ⟨rfl,by simp⟩⟩,fun _=>0,rfl,fun _ _ _=>Nat.le_refl _,Nat.zero_le _,fun i x h=>by simp at h⟩
theorem QaR.lo_le (h:QaR A e w lo v l xs){g:Nat}(hg:v.ownBlock=some g):lo≤g∧g<w.heap.size:=by
 obtain⟨⟨h1,h2⟩,h3⟩:=h
 rcases h2 with ⟨rfl,h4⟩|⟨g',cap,cur,rfl,hg',hh,r⟩
 ·simp[Value.ownBlock] at hg
 ·simp[Value.ownBlock] at hg;subst hg;exact⟨hg',lt_of_block hh⟩
theorem QaR.form (h:QaR A e w lo v l xs):∃ a c,v=.slice a l.length c:=by
 rcases h.own.2 with ⟨rfl,h4⟩|⟨g,cap,cur,rfl,_⟩
 ·exact⟨none,0,by rw[h4]⟩
 ·exact⟨_,_,rfl⟩
theorem QaR.below (h:QaR A e w lo v l xs) (b:Below w.heap.size w w'):QaR A e w' lo v l xs:=by
 obtain⟨h1,a,a0,am,al,h3⟩:=h
 exact⟨Zb h1 (fun g _ hl hg=>⟨b.block g hg,hl⟩),a,a0,am,Nat.le_trans al b.size,fun i x hx=>Lay.below (h3 i x hx) b⟩
theorem QaR.keep1 (h:QaR A e w lo v l xs) (hk:Qde B w w') (hB:B<lo):QaR A e w' lo v l xs:=by
 have hsz:l.length=0∨w.heap.size≤w'.heap.size:=by
  rcases h.own.2 with ⟨_,h4⟩|⟨g,cap,cur,_,hg,hh,r⟩
  ·exact .inl h4
  ·have hgl:=lt_of_block hh;have h9:=hk (w.heap.size - 1) (by omega);have h8:w.heap[w.heap.size - 1]?=some (w.heap[w.heap.size - 1]'(by omega)):=Array.getElem?_eq_getElem _;rw[h8] at h9
   have:=(Array.getElem?_eq_some_iff.1 h9).1
   exact .inr (by omega)
 obtain⟨h1,a,a0,am,al,h3⟩:=h
 refine⟨Zb h1 (fun g _ hl hg=>⟨hk g (by omega),hl⟩),a,a0,am,?_,fun i x hx=>A.keep (fun k hO _=>hk k (by have:=hO.1;omega)) (fun _ h _=>h) (h3 i x hx)⟩
 rcases hsz with h0 | h0
 ·rw[h0,a0];exact Nat.zero_le _
 ·exact Nat.le_trans al h0
theorem QaR.next {x:α}(h:QaR A e w lo v (l.take q++[x]) xs) (hx:l[q]?=some x):QaR A e w lo v (l.take (q+1)) xs:=by
 rw[List.take_add_one,hx];exact h
theorem QaR.full (h:QaR A e w lo v (l.take q) xs) (hq:q=l.length):QaR A e w lo v l xs:=by
 rwa [List.take_of_length_le (by omega)] at h
theorem QaR.lay (h:QaR A e w lo v l xs):(A.apart e).In w (fun g=>lo≤g) l [v]:=by
 have hlo:=fun g=>h.lo_le (g:=g);obtain⟨h1,a,a0,am,al,h3⟩:=h
 refine⟨v,xs,fun i g=>a i≤g∧g<a (i+1),rfl,Zb h1 (fun g _ hl hg=>⟨rfl,Nat.zero_le _⟩),fun g hg=>(hlo g hg).1,fun i j g hi hj=>?_,fun i x hx=>h3 i x hx⟩
 rcases Nat.lt_trichotomy i j with hij | hij | hij
 ·have:=am (i+1) j (by omega);omega
 ·exact hij
 ·have:=am (j+1) i (by omega);omega
theorem QaR.push {w0:World}(h:QaR A e w0 lo v l xs) (hb:Below w0.heap.size w0 w) (hlw:lo≤w0.heap.size){x:α}{ds:List Value}(hx:A.In w (Zm w0.heap.size) x ds)
 {g cap:Nat} (hg:w.grownBy w' v.ownBlock) (hat:v.ownBlock=some g∨g=w.heap.size)
 (ho:w'.ownsRow lo e A.size (.slice (some ⟨g,0,none⟩) (l.length+1) cap) (l.length+1) (xs++ds)) :
 QaR A e w' lo (.slice (some ⟨g,0,none⟩) (l.length+1) cap) (l++[x]) (xs++ds):=by
 have hlo:=fun g=>h.lo_le (g:=g);obtain⟨h1,a,a0,am,al,h3⟩:=h
 have hxl:=h1.1;have hdl:=A.len hx;have hs:=hb.size;refine⟨by rw[List.length_append];exact ho,fun i=>if i≤l.length then a i else w.heap.size,by simp[a0],fun i j hij=>?_,?_,fun i y hy=>?_⟩
 ·dsimp only
  by_cases h1:j≤l.length
  ·rw[if_pos (by omega),if_pos h1];exact am i j hij
  ·rw[if_neg h1]
   by_cases h2:i≤l.length
   ·rw[if_pos h2];have:=am i l.length h2;omega
   ·rw[if_neg h2];exact Nat.le_refl _
 ·dsimp only;rw[if_neg (by simp)];exact hg.size
 rw[List.getElem?_append] at hy
 split at hy
 ·rename_i hi
  have hm:(i+1)*A.size≤l.length*A.size:=Nat.mul_le_mul_right _ hi;rw[Nat.add_mul] at hm
  have h9:=Lay.below (h3 i y hy) hb;rw[List.drop_append_of_le_length (by omega),List.take_append_of_le_length (by simp;omega)]
  refine A.keep (fun k hk hl=>?_) (fun k hk hl=>⟨hk.1,?_,?_,?_⟩) h9
  ·exact hg.block k hl (fun e=>hk.2.1 e.symm)
  ·simp only[Value.ownBlock,ne_eq,Option.some.injEq]
   intro e;subst e;rcases hat with h' | h'
   ·exact hk.2.1 h'
   ·have:=am (i+1) l.length (by omega);have:=hk.2.2.2;omega
  ·dsimp only;rw[if_pos (by omega)];exact hk.2.2.1
  ·dsimp only;rw[if_pos (by omega)];exact hk.2.2.2
 ·rename_i hi
  have hi2:i=l.length:=by
   have:=(List.getElem?_eq_some_iff.1 hy).1
   simp at this
   omega
  subst hi2;simp at hy
  subst hy;rw[List.drop_append,List.drop_of_length_le (by omega),← hxl,Nat.sub_self,List.drop_zero,List.nil_append,List.take_of_length_le (by omega)]
  refine A.keep (fun k hk hl=>?_) (fun k hk hl=>⟨Nat.le_trans hlw hk,?_,?_,?_⟩) hx
  ·exact hg.block k hl (fun e=>by have:=(hlo k e.symm).2;have:w0.heap.size≤k:=hk;omega)
  ·simp only[Value.ownBlock,ne_eq,Option.some.injEq]
   intro e;subst e;have hk':w0.heap.size≤g:=hk;rcases hat with h' | h'
   ·have:=(hlo g h').2;omega
   ·omega
  ·dsimp only;rw[if_pos (Nat.le_refl _)];have hk':w0.heap.size≤k:=hk;omega
  ·dsimp only;rw[if_neg (by omega)];exact hl
end
section
variable {n:Nat}{a:Act}{L:List (Tmp × Value)}{w0 w:World}{Bs:List (Nat × Array Value × TypeId)}{Q:Exit→Act→World→Prop}{ops:Array Oper}{rest:List Oper}{t:Tmp}{u v:Value}{ty ty2 ty3:TypeId}{pos:String}{aft:Array Edge}{x y:Operand}
theorem Qj9 {α:Type}{A:Lay α}{tS e bt:TypeId}{i0:TypeInfo}{z:Value}{s bytes lo G:Nat}{l:List α}{xs ds:List Value}{xd:α}{wr:World}
 (hu:Tryz.prog.underlying tS=some (.slice e)) (hi:Tryz.prog.info? e=some i0) (hz:i0.zero=some z) (hsz:i0.size=s) (hby:i0.bytes=bytes) (hzs:z.cells.size=s) (h0:0<s) (hs:A.size=s)
 (hW:Wd w0 w Bs) (hlo:w0.heap.size≤lo) (hBlo:∀ (i:Nat) x,Bs[i]?=some x→x.1<lo) (hR0:QaR A e wr lo u l xs) (hbr:Below wr.heap.size wr w) (hlw:lo≤wr.heap.size) (hG:Blk w G ds.toArray bt)
 (hIn:A.In w (Zm wr.heap.size) xd ds) (hone:ds.all (·.oneCell')=true) (hlen:l.length<4294967296) (hbyt:bytes≤1000)
 (hx:Qi L x=some u) (hy:Qi L y=some (.slice (some ⟨G,0,none⟩) 1 1)) (ht:Nat.blt t n=true)
 (k:∀ g cap w',QaR A e w' lo (.slice (some ⟨g,0,none⟩) (l.length+1) cap) (l++[xd]) (xs++ds)→w.grownBy w' u.ownBlock→Wd w0 w' Bs→St n ((t,.slice (some ⟨g,0,none⟩) (l.length+1) cap)::L) ops Q rest w') :
 St n L ops Q (⟨some t,.call { callee:=.builtin .append,args:=#[x,y],argTypes:=#[tS,tS] },ty,pos,aft,none⟩::rest) w:=fun a hF=>by
 subst hs;have hR:=hR0.below hbr;have hdl:=A.len hIn;have hmul:(l.length+1)*bytes≤4294967296*1000:=Nat.mul_le_mul (by omega) hbyt;refine wpList_append_lies (P:=Tryz.prog) w rfl x y tS rfl lo e i0 z A.size bytes hu hi hz hsz hby hzs h0 u l.length xs (hF.ev hx) hR.own ⟨G,0,none⟩ 1 1 ds (hF.ev hy) (by rw[hdl,Nat.one_mul]) ?_ (by simpa using hone) (by decide) (by unfold maxLen;omega) (by omega) (Nat.le_trans hlw hbr.size) w.heap.size rfl ?_
 ·intro j v hj;rw[show (⟨G,0,none⟩:Addr).add j=⟨G,j,none⟩ from by unfold Addr.add;split<;>simp_all]
  exact Qb hG j v (by simpa using hj)
 ·intro g cap w' h1 hgrow hat hlt;have hA:=QaR.push hR0 hbr hlw hIn hgrow hat h1;refine k g cap w' hA hgrow ⟨hW.bel.grown hgrow hW.bel.size (fun k hk=>Nat.le_trans hlo (hR.lo_le hk).1),fun i y hy=>?_,hW.new,hW.nd⟩ _ (hF.put ht);have h9:=hBlo i y hy;exact(hgrow.block y.1 (by have:=hbr.size;omega) (fun e=>by have:=(hR.lo_le e.symm).1;omega)).trans (hW.blk i y hy)
end
abbrev codeX:Lay (List Qx):=insC.apart 46
def Qcc (n:Nat):Lay (Qe n):=(Lay.int.pair ((Qh n).apair (codeX.apair endL))).via (fun x=>(x.regs,x.params,x.code,x.fin))
def Qfr (n:Nat):Lay (Qf n):=(Lay.int.pair (((Qh n).pair (Qh n)).apair ((Qcc n).apart 60))).via (fun x=>(x.regs,(x.params,x.results),x.blocks))
abbrev Qlt (n:Nat):Lay (List (Qf n)):=(Qfr n).apart 40
def QaT (n:Nat):Lay (Qe n):=(Lay.int.pair ((Qh n).pair (insC.list.pair endL))).via (fun x=>(x.regs,x.params,x.code,x.fin))
def Qiq (n:Nat):Lay (Qf n):=(Lay.int.pair ((Qh n).pair ((Qh n).pair (QaT n).list))).via (fun x=>(x.regs,x.params,x.results,x.blocks))
abbrev QjX (n:Nat):Lay (List (Qf n)):=(Qiq n).list
theorem Qgu (n:Nat):Lay.Sub (QaT n) (Zc n):=.via (.pair (.refl _) (.pair (.refl _) (.pair (.list ins_sub) (.refl _)))) _
theorem Qho (n:Nat):Lay.Sub (Qiq n) (ZC n):=.via (.pair (.refl _) (.pair (.refl _) (.pair (.refl _) (.list (Qgu n))))) _
theorem QdJ (n:Nat):Lay.Sub (QjX n) (Qa5 n):=.list (Qho n)
theorem Qg0 (n:Nat):Lay.Sub (Qa7 n) (QaT n):=.via (.pair (.refl _) (.pair (.refl _) (.pair (.refl _) end_sub))) _
theorem QhX (n:Nat):Lay.Sub (QeV n) (Qiq n):=.via (.pair (.refl _) (.pair (.refl _) (.pair (.refl _) (.list (Qg0 n))))) _
theorem QiT (n:Nat):Lay.Sub (QiO n) (QjX n):=.list (QhX n)
theorem Qdq (n:Nat):Lay.Sub (Qcc n) (QaT n):=.via (.pair (.refl _) (.apair (.refl _) (.apair (.apart (.refl _) _) (.refl _)))) _
theorem QhC (n:Nat):Lay.Sub (Qfr n) (Qiq n) :=
 ⟨rfl,fun {w O x cs} ⟨r,t,e,h1,S,c1,c2,e2,⟨d1,d2,e3,h2,h3⟩,h4⟩=>by
  subst e e2 e3;exact⟨r,_,rfl,h1,d1,d2++c2,by rw[List.append_assoc],Lay.mono h2 (fun _ h _=>h.1),d2,c2,rfl,Lay.mono h3 (fun _ h _=>h.1),Lay.mono ((Lay.Sub.apart (Qdq n) 60).2 h4) (fun _ h _=>h.1)⟩⟩
section
variable {w:World}{O:Nat→Prop}{n:Nat}
theorem ZV {x:Qx}{a b:Option Addr}{c d:Nat}(h1:intsC.In w O x.regs [.slice a x.regs.length c]) (h2:intsC.In w O x.args [.slice b x.args.length d]) (h0:I64 x.op∧I64 x.a∧I64 x.b∧I64 x.c∧I64 x.k∧I64 x.n):insC.In w O x [.int .i64 x.op,.int .i64 x.a,.int .i64 x.b,.int .i64 x.c,.int .i64 x.k,.int .i64 x.n,.slice a x.regs.length c,.slice b x.args.length d] :=
 ⟨[_],_,rfl,⟨rfl,h0.1⟩,[_],_,rfl,⟨rfl,h0.2.1⟩,[_],_,rfl,⟨rfl,h0.2.2.1⟩,[_],_,rfl,⟨rfl,h0.2.2.2.1⟩,[_],_,rfl,⟨rfl,h0.2.2.2.2.1⟩,[_],_,rfl,⟨rfl,h0.2.2.2.2.2⟩,[_],_,rfl,h1,h2⟩
theorem Qfc {x:Qe n}{a b:Option Addr}{c d t1 t2:Nat}{e:EP}(h12:t1≤t2) (hp:(Qh n).In w (fun k=>O k∧k<t1) x.params [.slice a x.params.length c]) (hc:codeX.In w (fun k=>O k∧t1≤k∧k<t2) x.code [.slice b x.code.length d]) (he:EIn w (fun k=>O k∧t2≤k) x.fin e) (h0:I64 x.regs):(Qcc n).In w O x [.int .i64 x.regs,.slice a x.params.length c,.slice b x.code.length d,.int .i64 x.fin.op,.int .i64 x.fin.a,.int .i64 x.fin.yes.block,.slice e.pYR x.fin.yes.regs.length e.cYR,.slice e.pYA x.fin.yes.args.length e.cYA,.int .i64 x.fin.no.block,.slice e.pNR x.fin.no.regs.length e.cNR,.slice e.pNA x.fin.no.args.length e.cNA,.slice e.pA x.fin.args.length e.cA] :=
 ⟨[_],_,rfl,⟨rfl,h0⟩,fun k=>k<t1,[_],_,rfl,hp,fun k=>k<t2,[_],_,rfl,Lay.mono hc (fun k hk _=>⟨⟨hk.1,by omega⟩,hk.2.2⟩),Qcv (he.mono (fun k hk _=>⟨⟨hk.1,by omega⟩,by omega⟩))⟩
theorem QgS {x:Qf n}{a b g:Option Addr}{c d f t1:Nat}(h1:(Qh n).In w (fun k=>O k∧k<t1) x.params [.slice a x.params.length c]) (h2:(Qh n).In w (fun k=>O k∧k<t1) x.results [.slice b x.results.length d]) (h3:((Qcc n).apart 60).In w (fun k=>O k∧t1≤k) x.blocks [.slice g x.blocks.length f]) (h0:I64 x.regs):(Qfr n).In w O x [.int .i64 x.regs,.slice a x.params.length c,.slice b x.results.length d,.slice g x.blocks.length f] :=
 ⟨[_],_,rfl,⟨rfl,h0⟩,fun k=>k<t1,[_,_],_,rfl,⟨[_],_,rfl,h1,h2⟩,Lay.mono h3 (fun k hk _=>⟨hk.1,by omega⟩)⟩
end
theorem Qkg {w:World}{lo:Nat}{e:TypeId}{s n m c:Nat}{a:Option Addr}{xs:List Value}(h:w.ownsRow lo e s (.slice a m c) n xs):n≤c:=by
 rcases h.2 with ⟨e1,h4⟩|⟨g,cap,cur,e1,hg,hh,hn,r⟩
 ·rw[h4];exact Nat.zero_le _
 ·cases e1;exact hn
def QiC (w w':World) (l:List Int) (e:Ending):Prop:=∃ a' c',e=.returned (.slice a' l.length c')∧intsC.In w' (Zm w.heap.size) l [.slice a' l.length c']∧Below w.heap.size w w'
theorem QbJ (l:List Int) (p:Option Addr) (c:Nat) (w:World) (hl0:intsL.In w All l [.slice p l.length c]) (hb0:l.length≤4294967296) :
 Calls Tryz.prog 38 #[.slice p l.length c] w fun e w'=>QiC w w' l e:=by
 obtain⟨i0,hi,hz0,hz1,hz2⟩:=infoI_parts
 by_cases h0:0<l.length
 ·obtain⟨ad,rfl,hlt,h2⟩:=Qd2 hl0 h0
  have hsrc:Hid _:=h2;have hx:Hid _:=QdY hl0;clear hl0 h2;go_enter Tryz.func38,Tryz.ntmps38
  go_wp2_with (at_builtin;refine wpList_append_lies _ rfl (.tmp 4) (.tmp 5) 35 rfl w.heap.size 3 i0 (.int .i64 0) 1 8 underIs hi hz0 hz1 hz2 rfl (by decide) (.slice none 0 0) 0 [] rfl ⟨rfl,Or.inl ⟨rfl,rfl⟩⟩ ad l.length c (iv l) rfl (by rw[QbQ,Nat.mul_one]) hsrc.out (QiM l) h0 (by unfold maxLen;omega) (by omega) (Nat.le_refl _) w.heap.size rfl ?_)
  intro g2 cap2 w9 h1 hgrow hat hlt1
  have R:Hid (QiC w w9 l (.returned (.slice (some ⟨g2,0,none⟩) l.length cap2))):=by
   exact⟨_,_,rfl,⟨⟨_,_,rfl,Qkg h1⟩,QdR h1 hx.out⟩,(Below.refl _ w).grown hgrow (Nat.le_refl _) (fun k hk=>by simp[Value.ownBlock] at hk)⟩
  clear h1 hgrow hat hlt1 hsrc hx;go_wp2
  go_ret;exact R.out
 ·have e0:l=[]:=List.length_eq_zero_iff.1 (by omega);subst e0
  have ha:Hid (∀ (t:TypeId) (wx:World),(Builtin.append_ #[35,35] t #[.slice none 0 0,.slice p 0 c]).run Tryz.prog wx=.ok (.slice none 0 0) wx):=fun (t:TypeId) (wx:World)=>run_append_nothing (P:=Tryz.prog) wx 35 35 t 3 i0 underIs hi none 0 0 (Nat.le_refl _) (.slice p 0 c) (by cases p with
   | none=>exact Src.ofNil wx underIs c
   | some ad=>exact Src.ofSlice wx underIs ad 0 c [] (by simp) (fun j u h=>by simp at h) (fun u h=>by cases h))
  simp only[List.length_nil]
  have R:Hid (QiC w w [] (.returned (.slice none 0 0))):=⟨_,_,rfl,⟨⟨_,_,rfl,Nat.le_refl _⟩,Lay.list_nil _ _ _ _ _⟩,Below.refl _ _⟩;clear hl0;go_enter Tryz.func38,Tryz.ntmps38
  go_wp2_with (at_builtin;refine Zv rfl (.tmp 4) (.tmp 5) 35 rfl (.slice none 0 0) (.slice p 0 c) rfl rfl (ha.out _ _) ?_)
  go_ret;exact R.out
theorem Qex {w:World}{Q:Nat→Prop}{m:List (Qe 6)}{p:Option Addr}{n c:Nat}(h:(QaT 6).list.In w Q m [.slice p n c]){k:Nat}{g:Qe 6}(hg:m[k]?=some g) :
 ∃ mg mo a1 c1 a2 c2 e,p=some ⟨mg,mo,none⟩∧w.rangeAt mg (mo+k*12) (.int .i64 g.regs::.slice a1 g.params.length c1::.slice a2 g.code.length c2::(Qck g.fin e).toList)∧insC.list.In w Q g.code [.slice a2 g.code.length c2]∧QcP w Q g.fin e∧(-9223372036854775808≤g.fin.a∧g.fin.a≤9223372036854775807):=by
 obtain⟨mg,mo,ds,e1,e2,e3,hc,_,_,rfl,⟨rfl,_⟩,_,_,rfl,h1,_,_,rfl,h2,h3⟩:=Lay.list_at h hg
 obtain⟨a1,c1,rfl,h1⟩:=QO h1
 obtain⟨a2,c2,rfl,h2⟩:=QO h2
 obtain⟨e,rfl,h4⟩:=Qf8 h3
 refine⟨mg,mo,a1,c1,a2,c2,e,e1,fun j v hj=>?_,h2,⟨h4.yes.regs,h4.yes.args,h4.no.regs,h4.no.args,h4.args⟩,h4.bnd.2⟩
 have hjl:j<12:=(List.getElem?_eq_some_iff.1 hj).1
 have:=hc j hjl
 rw[show (QaT 6).size=12 from rfl] at this
 rw[this]
 exact hj
structure VcS (w wr:World) (X R A4:Nat) (pm pa:Option Addr) (cm ca:Nat) (m:List (Qf 6)):Prop where
 bel:Below w.heap.size w wr
 x:Blk wr X #[.slice pm m.length cm] 24
 r:Blk wr R #[.int .i64 0,.int .i64 0] 30
 a:Blk wr A4 #[.slice pa m.length ca] 24
 om:(Qa5 6).In wr All (outl m) [.slice pa m.length ca]
theorem VcS.below {w wr w':World}{X R A4:Nat}{pm pa:Option Addr}{cm ca:Nat}{m:List (Qf 6)}(h:VcS w wr X R A4 pm pa cm ca m) (k:Below wr.heap.size wr w'):VcS w w' X R A4 pm pa cm ca m :=
 ⟨h.bel.trans (k.mono h.bel.size),h.x.below k,h.r.below k,h.a.below k,Lay.below h.om k⟩
theorem Qei {n:Nat}{w:World}{m:List (Qf n)}{p:Option Addr}{c:Nat}(hm:(Qa5 n).In w All m [.slice p m.length c]) (hms:Qa9 m) (hbad:(Qg m).1≠0) :
 Calls Tryz.prog 17 #[.agg #[.slice p m.length c]] w fun e w'=>e=.returned (QD (Qg m))∧Below w.heap.size w w':=by
 have HM:=Qa hm;have HMS:=Qa hms;have b1:=QQ w (.cells #[.slice p m.length c] 24);have b2:=QQ (w.alloc (.cells #[.slice p m.length c] 24)) (.cells #[.int .i64 0,.int .i64 0] 30);have B0:Hid (Below w.heap.size w ((w.alloc (.cells #[.slice p m.length c] 24)).alloc (.cells #[.int .i64 0,.int .i64 0] 30))):=b1.trans (b2.mono b1.size);have BX:Hid (Blk ((w.alloc (.cells #[.slice p m.length c] 24)).alloc (.cells #[.int .i64 0,.int .i64 0] 30)) w.heap.size #[.slice p m.length c] 24):=Blk.new1 ..;have BR:Hid (Blk ((w.alloc (.cells #[.slice p m.length c] 24)).alloc (.cells #[.int .i64 0,.int .i64 0] 30)) (w.heap.size+1) #[.int .i64 0,.int .i64 0] 30):=Blk.new2 ..;clear b1 b2 hm hms;go_enter Tryz.func17,Tryz.ntmps17
 go_upto_region 1 with fail
 generalize (w.alloc (.cells #[.slice p m.length c] 24)).alloc (.cells #[.int .i64 0,.int .i64 0] 30)=w1 at B0 BX BR ⊢;obtain⟨X,hX⟩:∃ X,X=w.heap.size:=⟨_,rfl⟩
 obtain⟨R,hR⟩:∃ R,R=X+1:=⟨_,rfl⟩
 have HRE:Hid (w.heap.size≤R):=by show _≤_;omega
 rw[← hX] at BX BR ⊢
 rw[← hR] at BR ⊢
 clear hX hR;have x0:=Qb BX.out 0 _ rfl;have CC:=Qa (Qb8 (Lay.below HM.out B0.out) HMS.out);unfold Rd at CC;go_wp2_with fail
 refine CC.out.mono ?_;rintro e2 w2 ⟨rfl,b2⟩;obtain⟨cc,ca,hmf⟩:∃ cc ca,Qg m=(cc,ca):=⟨_,_,rfl⟩
 have HMF:Hid (Qg m=(cc,ca)):=hmf;rw[hmf]
 clear hmf;have b3:=b2.trans ((QQ w2 (.cells #[.int .i64 cc,.int .i64 ca] 30)).mono b2.size);have BX3:Hid (Blk (w2.alloc (.cells #[.int .i64 cc,.int .i64 ca] 30)) X #[.slice p m.length c] 24):=BX.out.below b3;have BR3:Hid (Blk (w2.alloc (.cells #[.int .i64 cc,.int .i64 ca] 30)) R #[.int .i64 0,.int .i64 0] 30):=BR.out.below b3;have BL3:Hid (Below w.heap.size w (w2.alloc (.cells #[.int .i64 cc,.int .i64 ca] 30))):=B0.out.trans (b3.mono B0.out.size);have F3:Hid (Blk (w2.alloc (.cells #[.int .i64 cc,.int .i64 ca] 30)) w2.heap.size #[.int .i64 cc,.int .i64 ca] 30):=Blk.new _ _ _;simp only[QD]
 clear b2 b3 CC x0 BX BR B0;go_upto_region 2 with fail
 generalize w2.alloc (.cells #[.int .i64 cc,.int .i64 ca] 30)=w3 at BX3 BR3 BL3 F3 ⊢;generalize w2.heap.size=F9 at F3 ⊢
 have hcc':(cc != 0)=true:=by
  have:cc≠0:=by rw[HMF.out] at hbad;exact hbad
  simpa using this
 clear hbad;have f0:=Qb F3.out 0 _ rfl;have f1:=Qb F3.out 1 _ rfl;have E:Hid (Qg m=(cc,ca)):=HMF.out;have BQ:Hid (Blk w3 R #[.int .i64 0,.int .i64 0] 30):=BR3.out;have r0:=Qb BQ.out 0 _ rfl;have r1:=Qb BQ.out 1 _ rfl;have z0:=Qo BQ.out 0;have z1:=Qo BQ.out 1;have RB:Hid (Blk ((w3.setCell ⟨R,0,none⟩ (.int .i64 cc)).setCell ⟨R,1,none⟩ (.int .i64 ca)) R #[.int .i64 cc,.int .i64 ca] 30):=Zo BQ.out _ _;have BL:Hid (Below w.heap.size w ((w3.setCell ⟨R,0,none⟩ (.int .i64 cc)).setCell ⟨R,1,none⟩ (.int .i64 ca))):=(Below.setCell BL3.out (p:=⟨R,0,none⟩) HRE.out _).setCell (p:=⟨R,1,none⟩) HRE.out _;go_wp2_with fail
 generalize (w3.setCell ⟨R,0,none⟩ (.int .i64 cc)).setCell ⟨R,1,none⟩ (.int .i64 ca)=w99 at RB BL ⊢;have e0:=Qb RB.out 0 _ rfl;have e1:=Qb RB.out 1 _ rfl;exact bodyPost_ret (v:=.agg #[.int .i64 cc,.int .i64 ca]) (by simp[results,Tryz.results17,go_sem,e0,e1]) rfl ⟨by rw[E.out],BL.out⟩
theorem QaX {w:World}{m:List (Qf 6)}{p:Option Addr}{c:Nat}(hm:(QjX 6).In w All m [.slice p m.length c]) (hms:Qa9 m) (hgr:(Qg m).1=0→¬ QG m) :
 Calls Tryz.prog 17 #[.agg #[.slice p m.length c]] w fun e w'=>e=.returned (QD (QW m))∧Below w.heap.size w w':=by
 by_cases hz:(Qg m).1=0
 rotate_left
 ·have e:QW m=Qg m:=by unfold QW;rw[if_pos hz]
  rw[e]
  exact Qei ((QdJ 6).2 hm) hms hz
 have hg:=hgr hz;have HM:=Qa hm;have HMS:=Qa hms;have HG:=Qa hg;have HJM:=Qa hz;have hml:m.length≤20:=Nat.le_of_not_lt fun x=>hg (.inl x);have E0:Hid (QW m=firstF (ZK m) 0 m):=by show _=_;unfold QW;rw[if_neg (fun h=>h hz)]
 clear hg hgr hz;have b1:=QQ w (.cells #[.slice p m.length c] 24);have b2:=QQ (w.alloc (.cells #[.slice p m.length c] 24)) (.cells #[.int .i64 0,.int .i64 0] 30);have B0:Hid (Below w.heap.size w ((w.alloc (.cells #[.slice p m.length c] 24)).alloc (.cells #[.int .i64 0,.int .i64 0] 30))):=b1.trans (b2.mono b1.size);have BX:Hid (Blk ((w.alloc (.cells #[.slice p m.length c] 24)).alloc (.cells #[.int .i64 0,.int .i64 0] 30)) w.heap.size #[.slice p m.length c] 24):=Blk.new1 ..;have BR:Hid (Blk ((w.alloc (.cells #[.slice p m.length c] 24)).alloc (.cells #[.int .i64 0,.int .i64 0] 30)) (w.heap.size+1) #[.int .i64 0,.int .i64 0] 30):=Blk.new2 ..;clear b1 b2 hm hms;go_enter Tryz.func17,Tryz.ntmps17
 go_upto_region 1 with fail
 generalize (w.alloc (.cells #[.slice p m.length c] 24)).alloc (.cells #[.int .i64 0,.int .i64 0] 30)=w1 at B0 BX BR ⊢;obtain⟨X,hX⟩:∃ X,X=w.heap.size:=⟨_,rfl⟩
 obtain⟨R,hR⟩:∃ R,R=X+1:=⟨_,rfl⟩
 have HRE:Hid (w.heap.size≤R):=by show _≤_;omega
 rw[← hX] at BX BR ⊢
 rw[← hR] at BR ⊢
 clear hX hR;have x0:=Qb BX.out 0 _ rfl;have CC:=Qa (Qb8 (Lay.below ((QdJ 6).2 HM.out) B0.out) HMS.out);unfold Rd at CC;go_wp2_with fail
 refine CC.out.mono ?_;rintro e2 w2 ⟨rfl,b2⟩;obtain⟨cc,ca,hmf⟩:∃ cc ca,Qg m=(cc,ca):=⟨_,_,rfl⟩
 have HMF:Hid (Qg m=(cc,ca)):=hmf;rw[hmf]
 clear hmf;have b3:=b2.trans ((QQ w2 (.cells #[.int .i64 cc,.int .i64 ca] 30)).mono b2.size);have BX3:Hid (Blk (w2.alloc (.cells #[.int .i64 cc,.int .i64 ca] 30)) X #[.slice p m.length c] 24):=BX.out.below b3;have BR3:Hid (Blk (w2.alloc (.cells #[.int .i64 cc,.int .i64 ca] 30)) R #[.int .i64 0,.int .i64 0] 30):=BR.out.below b3;have BL3:Hid (Below w.heap.size w (w2.alloc (.cells #[.int .i64 cc,.int .i64 ca] 30))):=B0.out.trans (b3.mono B0.out.size);have F3:Hid (Blk (w2.alloc (.cells #[.int .i64 cc,.int .i64 ca] 30)) w2.heap.size #[.int .i64 cc,.int .i64 ca] 30):=Blk.new _ _ _;simp only[QD]
 clear b2 b3 CC x0 BX BR B0;go_upto_region 2 with fail
 generalize w2.alloc (.cells #[.int .i64 cc,.int .i64 ca] 30)=w3 at BX3 BR3 BL3 F3 ⊢;generalize w2.heap.size=F9 at F3 ⊢;have hcc:cc=0:=by have:=HJM.out;rw[HMF.out] at this;exact this
 subst hcc;have f0:=Qb F3.out 0 _ rfl;have f1:=Qb F3.out 1 _ rfl;have x3:=Qb BX3.out 0 _ rfl;have CO:=Qa (QiJ (w:=w3) (m:=m) (p:=p) (c:=c) (Lay.below ((QdJ 6).2 HM.out) BL3.out) HMS.out);clear HMF;go_wp2_with fail
 refine CO.out.mono ?_;rintro e4 w4 ⟨pa,ca4,rfl,hom,b4⟩;have b5:=QQ w4 (.cells #[.slice pa m.length ca4] 24)
 have S:Hid (VcS w (w4.alloc (.cells #[.slice pa m.length ca4] 24)) X R w4.heap.size p pa c ca4 m) :=
  ⟨(BL3.out.trans (b4.mono BL3.out.size)).trans (b5.mono (Nat.le_trans BL3.out.size b4.size)),(BX3.out.below b4).below b5,(BR3.out.below b4).below b5,Blk.new _ _ _,Lay.below hom b5⟩
 clear hom b4 b5 CO x3 f0 f1 BX3 BR3 BL3 F3;go_upto_region 5 with fail
 generalize w4.alloc (.cells #[.slice pa m.length ca4] 24)=w5 at S ⊢;generalize w4.heap.size=A4 at S ⊢;have x0:=Qb S.out.x 0 _ rfl;go_wp2_with fail
 clear x0;go_loopw [21] (fun i wr=>∃ k:Nat,k≤m.length∧i=.int .i64 k∧VcS w wr X R A4 p pa c ca4 m∧∀ j f,j<k→m[j]?=some f→(ZK m j f).1=0) (fun i _=>m.length - (intOf i).toNat)
 case atStart=>exact⟨0,Nat.zero_le _,rfl,S.out,fun j f hj=>absurd hj (Nat.not_lt_zero _)⟩
 case round =>
  obtain⟨k,hk,rfl,hs,hall⟩:=hrel
  have SR:=Qa hs;have HALL:=Qa hall;clear hs hall S;obtain⟨wf,hwf⟩:∃ wf,wf=wr:=⟨_,rfl⟩
  subst hwf;by_cases hlt:k<m.length
  rotate_left
  ·have hlt':¬ (k:Int)<m.length:=by omega
   have E:Hid (QW m=(0,0)):=by
    show _=_;rw[E0.out]
    exact Qy fun j f hj=>by rw[Nat.zero_add];exact HALL.out j f (by have:=(List.getElem?_eq_some_iff.1 hj).1;omega) hj
   have BQ:Hid (Blk wf R #[.int .i64 0,.int .i64 0] 30):=SR.out.r;have r0:=Qb BQ.out 0 _ rfl;have r1:=Qb BQ.out 1 _ rfl;have z0:=Qo BQ.out 0;have z1:=Qo BQ.out 1;have RB:Hid (Blk ((wf.setCell ⟨R,0,none⟩ (.int .i64 0)).setCell ⟨R,1,none⟩ (.int .i64 0)) R #[.int .i64 0,.int .i64 0] 30):=Zo BQ.out _ _;have BL:Hid (Below w.heap.size w ((wf.setCell ⟨R,0,none⟩ (.int .i64 0)).setCell ⟨R,1,none⟩ (.int .i64 0))):=(Below.setCell SR.out.bel (p:=⟨R,0,none⟩) HRE.out _).setCell (p:=⟨R,1,none⟩) HRE.out _;go_wp2_with fail
   generalize (wf.setCell ⟨R,0,none⟩ (.int .i64 0)).setCell ⟨R,1,none⟩ (.int .i64 0)=w99 at RB BL ⊢;have e0:=Qb RB.out 0 _ rfl;have e1:=Qb RB.out 1 _ rfl;exact bodyPost_ret (v:=.agg #[.int .i64 0,.int .i64 0]) (by simp[results,Tryz.results17,go_sem,e0,e1]) rfl ⟨by rw[E.out],BL.out⟩
  have hlt':(k:Int)<m.length:=by omega
  have hfk:m[k]?=some m[k]:=List.getElem?_eq_getElem hlt;generalize m[k]=f at hfk;have HFK:=Qa hfk;obtain⟨mg,mo,ds,rfl,-,-,hcs,_,_,rfl,⟨rfl,_⟩,_,_,rfl,t1,_,_,rfl,t2,t3⟩:=Lay.list_at HM.out hfk
  obtain⟨a1,c1,rfl,t1⟩:=QO t1
  obtain⟨a2,c2,rfl,t2⟩:=QO t2
  obtain⟨a3,c3,rfl,t3⟩:=QO t3
  have v0:wf.cell? ⟨mg,mo+k*4,none⟩=some (.int .i64 f.regs):=QY (show w.cell? ⟨mg,mo+k*4,none⟩=_ from hcs 0 (by decide)) SR.out.bel;have v1:wf.cell? ⟨mg,mo+k*4+1,none⟩=some (.slice a1 f.params.length c1):=QY (show w.cell? ⟨mg,mo+k*4+1,none⟩=_ from hcs 1 (by decide)) SR.out.bel;have v2:wf.cell? ⟨mg,mo+k*4+2,none⟩=some (.slice a2 f.results.length c2):=QY (show w.cell? ⟨mg,mo+k*4+2,none⟩=_ from hcs 2 (by decide)) SR.out.bel;have v3:wf.cell? ⟨mg,mo+k*4+3,none⟩=some (.slice a3 f.blocks.length c3):=QY (show w.cell? ⟨mg,mo+k*4+3,none⟩=_ from hcs 3 (by decide)) SR.out.bel;have HBS:Hid ((QaT 6).list.In w All f.blocks [.slice a3 f.blocks.length c3]):=t3;have HFM:Hid (f∈m):=List.mem_of_getElem? hfk;have hfb:f.blocks.length≤30:=Nat.le_of_not_lt fun h=>HG.out (.inr ⟨f,HFM.out,.inl h⟩);have b6:=QQ wf (.cells #[.int .i64 f.regs,.slice a1 f.params.length c1,.slice a2 f.results.length c2,.slice a3 f.blocks.length c3] 40);have S6:Hid (VcS w (wf.alloc (.cells #[.int .i64 f.regs,.slice a1 f.params.length c1,.slice a2 f.results.length c2,.slice a3 f.blocks.length c3] 40)) X R A4 (some ⟨mg,mo,none⟩) pa c ca4 m):=SR.out.below b6;have BF:Hid (Blk (wf.alloc (.cells #[.int .i64 f.regs,.slice a1 f.params.length c1,.slice a2 f.results.length c2,.slice a3 f.blocks.length c3] 40)) wf.heap.size #[.int .i64 f.regs,.slice a1 f.params.length c1,.slice a2 f.results.length c2,.slice a3 f.blocks.length c3] 40):=Blk.new _ _ _;clear hcs t1 t2 t3 hfk b6 SR;go_upto_region 8 with fail
  generalize wf.alloc (.cells #[.int .i64 f.regs,.slice a1 f.params.length c1,.slice a2 f.results.length c2,.slice a3 f.blocks.length c3] 40)=w6 at S6 BF ⊢;generalize wf.heap.size=XF at BF ⊢;clear v0 v1 v2 v3;have t3:=Qb BF.out 3 _ rfl;go_wp2_with fail
  clear t3 BF;go_loopw [29] (fun i wq=>∃ q:Nat,q≤f.blocks.length∧i=.int .i64 q∧VcS w wq X R A4 (some ⟨mg,mo,none⟩) pa c ca4 m∧∀ j g,j<q→f.blocks[j]?=some g→(Qj (10000*(k:Int)+100*(j:Int)) g.fin (JSt.start m f g) 0 g.code).1=0) (fun i _=>f.blocks.length - (intOf i).toNat)
  case atStart=>exact⟨0,Nat.zero_le _,rfl,S6.out,fun j g hj=>absurd hj (Nat.not_lt_zero _)⟩
  case round =>
   obtain⟨q,hq,rfl,hs,hall⟩:=hrel
   have SQ:=Qa hs;have HALL2:=Qa hall;clear hs hall S6;obtain⟨wb,hwb⟩:∃ wb,wb=wr:=⟨_,rfl⟩
   subst hwb;by_cases hqt:q<f.blocks.length
   rotate_left
   ·have hqt':¬ (q:Int)<f.blocks.length:=by omega
    have E:Hid ((ZK m k f).1=0):=by
     show _=_;unfold ZK;rw[Qy fun j g hj=>by rw[Nat.zero_add];exact HALL2.out j g (by have:=(List.getElem?_eq_some_iff.1 hj).1;omega) hj]
    go_wp2_with fail
    go_roundw
    case rel =>
     refine⟨k+1,by omega,by go_num,SQ.out,fun j y hj hy=>?_⟩
     by_cases hjk:j<k
     ·exact HALL.out j y hjk hy
     ·have:j=k:=by omega
      subst this;rw[HFK.out] at hy
      cases hy
      exact E.out
    case measure=>simp[intOf];omega
   have hqt':(q:Int)<f.blocks.length:=by omega
   have hgk:f.blocks[q]?=some f.blocks[q]:=List.getElem?_eq_getElem hqt;generalize f.blocks[q]=g at hgk;have HGK:=Qa hgk;obtain⟨eg,eo,p1,d1,p2,d2,e,rfl,hrange,hcode,hend,hra⟩:=Qex HBS.out hgk
   have HCODE:=Qa hcode;have HEND:=Qa hend;have HRA:=Qa hra;have HRG:Hid (wb.rangeAt eg (eo+q*12) (Value.int .i64 g.regs::Value.slice p1 g.params.length d1::Value.slice p2 g.code.length d2::(Qck g.fin e).toList)):=ZX hrange SQ.out.bel;generalize hds:(Value.int .i64 g.regs::Value.slice p1 g.params.length d1::Value.slice p2 g.code.length d2::(Qck g.fin e).toList)=cs at HRG;have hl:cs.length=12:=by rw[← hds];rfl
   have TS:Hid ((Tryz.prog.info? 60).map (·.size)=some cs.length):=by show _=_;rw[hl];exact pSizeB
   have TH:Hid ((wb.alloc (.cells #[.int .i64 0,.slice none 0 0,.slice none 0 0,.int .i64 0,.int .i64 0,.int .i64 0,.slice none 0 0,.slice none 0 0,.int .i64 0,.slice none 0 0,.slice none 0 0,.slice none 0 0] 60)).there wb.heap.size 0 cs.toArray.size):=by
    intro j hj;rw[List.size_toArray,hl] at hj
    rw[Nat.zero_add]
    have hB:=Qu wb #[.int .i64 0,.slice none 0 0,.slice none 0 0,.int .i64 0,.int .i64 0,.int .i64 0,.slice none 0 0,.slice none 0 0,.int .i64 0,.slice none 0 0,.slice none 0 0,.slice none 0 0] 60;refine⟨?_,Qo hB j⟩
    rw[Qb hB j ((#[.int .i64 0,.slice none 0 0,.slice none 0 0,.int .i64 0,.int .i64 0,.int .i64 0,.slice none 0 0,.slice none 0 0,.int .i64 0,.slice none 0 0,.slice none 0 0,.slice none 0 0]:Array Value)[j]'hj) (by simp)];rfl
   have TS2:Hid ((Tryz.prog.info? 60).map (·.size)=some cs.toArray.size):=by show _=_;rw[List.size_toArray];exact TS.out
   have TO:Hid (cs.toArray.all (·.oneCell')=true):=by
    refine all_oneCell_toArray fun v hv=>?_;rw[← hds] at hv
    simp only[Qck,List.mem_cons,List.not_mem_nil,or_false] at hv
    rcases hv with rfl | rfl | rfl | rfl | rfl | rfl | rfl | rfl | rfl | rfl | rfl | rfl<;>rfl
   have B6:Hid (Blk ((wb.alloc (.cells #[.int .i64 0,.slice none 0 0,.slice none 0 0,.int .i64 0,.int .i64 0,.int .i64 0,.slice none 0 0,.slice none 0 0,.int .i64 0,.slice none 0 0,.slice none 0 0,.slice none 0 0] 60)).setCells wb.heap.size 0 cs.toArray.toList) wb.heap.size cs.toArray 60):=by
    have h0:Blk (wb.alloc (.cells #[.int .i64 0,.slice none 0 0,.slice none 0 0,.int .i64 0,.int .i64 0,.int .i64 0,.slice none 0 0,.slice none 0 0,.int .i64 0,.slice none 0 0,.slice none 0 0,.slice none 0 0] 60)) wb.heap.size ([]++(#[.int .i64 0,.slice none 0 0,.slice none 0 0,.int .i64 0,.int .i64 0,.int .i64 0,.slice none 0 0,.slice none 0 0,.int .i64 0,.slice none 0 0,.slice none 0 0,.slice none 0 0]:Array Value).toList).toArray 60:=Qu wb _ _;exact Blk.sets cs [] (#[.int .i64 0,.slice none 0 0,.slice none 0 0,.int .i64 0,.int .i64 0,.int .i64 0,.slice none 0 0,.slice none 0 0,.int .i64 0,.slice none 0 0,.slice none 0 0,.slice none 0 0]:Array Value).toList _ (by rw[hl];rfl) h0
   have b6:Hid (Below wb.heap.size wb ((wb.alloc (.cells #[.int .i64 0,.slice none 0 0,.slice none 0 0,.int .i64 0,.int .i64 0,.int .i64 0,.slice none 0 0,.slice none 0 0,.int .i64 0,.slice none 0 0,.slice none 0 0,.slice none 0 0] 60)).setCells wb.heap.size 0 cs.toArray.toList)):=by
    have:=Zj.setCells (O:=fun k=>k=wb.heap.size) (O':=fun k=>k=wb.heap.size) (b:=wb.heap.size) rfl cs.toArray.toList 0 _ (Zj.refl _ (wb.alloc (.cells #[.int .i64 0,.slice none 0 0,.slice none 0 0,.int .i64 0,.int .i64 0,.int .i64 0,.slice none 0 0,.slice none 0 0,.int .i64 0,.slice none 0 0,.slice none 0 0,.slice none 0 0] 60)))
    exact(QQ wb _).trans (this.below (by simp) (fun k hk=>by omega))
   have HDS:Hid ((Value.int .i64 g.regs::Value.slice p1 g.params.length d1::Value.slice p2 g.code.length d2::(Qck g.fin e).toList)=cs):=hds;clear hl hds hrange hcode hend hra hgk;go_upto_region 11 with (first | (refine wpList_load_mid rfl 60 (.tmp 32) rfl eg (eo+q*12) rfl cs _ HRG.out Tryz.underlying60 rfl TS.out ?_) | (refine wpList_store_mid rfl 60 (.tmp 8) (.tmp 33) rfl wb.heap.size 0 cs.toArray rfl rfl TH.out TS2.out TO.out ?_))
   have B7:Hid (Blk ((wb.alloc (.cells #[.int .i64 0,.slice none 0 0,.slice none 0 0,.int .i64 0,.int .i64 0,.int .i64 0,.slice none 0 0,.slice none 0 0,.int .i64 0,.slice none 0 0,.slice none 0 0,.slice none 0 0] 60)).setCells wb.heap.size 0 cs) wb.heap.size cs.toArray 60):=B6.out;have S7:Hid (VcS w ((wb.alloc (.cells #[.int .i64 0,.slice none 0 0,.slice none 0 0,.int .i64 0,.int .i64 0,.int .i64 0,.slice none 0 0,.slice none 0 0,.int .i64 0,.slice none 0 0,.slice none 0 0,.slice none 0 0] 60)).setCells wb.heap.size 0 cs) X R A4 (some ⟨mg,mo,none⟩) pa c ca4 m):=SQ.out.below b6.out;clear B6 b6 TH TS2 TO HRG SQ;generalize (wb.alloc (.cells #[.int .i64 0,.slice none 0 0,.slice none 0 0,.int .i64 0,.int .i64 0,.int .i64 0,.slice none 0 0,.slice none 0 0,.int .i64 0,.slice none 0 0,.slice none 0 0,.slice none 0 0] 60)).setCells wb.heap.size 0 cs=w7 at B7 S7 ⊢;generalize wb.heap.size=Bx at B7 ⊢;have y0:=Qb S7.out.a 0 _ rfl;have RG7:Hid (w7.rangeAt Bx 0 cs):=Blk.range B7.out
   have CB:Hid (Calls Tryz.prog 41 #[.agg #[.slice pa m.length ca4],.int .i64 (k:Int),.int .i64 (q:Int),.agg cs.toArray] w7 fun r w'=>r=.returned (QD (Qj (10000*(k:Int)+100*(q:Int)) g.fin (JSt.start m f g) 0 g.code))∧Below w7.heap.size w7 w'):=by
    have:=QgO (w:=w7) (p:=pa) (c:=ca4) (p1:=p1) (d1:=d1) HJM.out HG.out S7.out.om HFK.out HGK.out (Lay.below HCODE.out S7.out.bel) (HEND.out.below S7.out.bel) HRA.out
    rw[← HDS.out]
    exact this
   obtain⟨bc,bp,hbr⟩:∃ bc bp,Qj (10000*(k:Int)+100*(q:Int)) g.fin (JSt.start m f g) 0 g.code=(bc,bp):=⟨_,_,rfl⟩
   have HBR:=Qa hbr;rw[hbr] at CB
   clear hbr HDS B7;go_wp2_with (refine wpList_load_mid rfl 60 (.tmp 8) rfl Bx 0 rfl cs _ RG7.out Tryz.underlying60 rfl TS.out ?_)
   refine CB.out.mono ?_;rintro e8 w8 ⟨rfl,b8⟩;have b9:=b8.trans ((QQ w8 (.cells #[.int .i64 bc,.int .i64 bp] 30)).mono b8.size);have S9:Hid (VcS w (w8.alloc (.cells #[.int .i64 bc,.int .i64 bp] 30)) X R A4 (some ⟨mg,mo,none⟩) pa c ca4 m):=S7.out.below b9;have F9:Hid (Blk (w8.alloc (.cells #[.int .i64 bc,.int .i64 bp] 30)) w8.heap.size #[.int .i64 bc,.int .i64 bp] 30):=Blk.new _ _ _;clear b8 b9 S7 CB RG7 TS y0;simp only[QD]
   go_upto_region 12 with fail
   generalize w8.alloc (.cells #[.int .i64 bc,.int .i64 bp] 30)=w9 at S9 F9 ⊢;generalize w8.heap.size=F8 at F9 ⊢;have f0:=Qb F9.out 0 _ rfl;have f1:=Qb F9.out 1 _ rfl;by_cases hbc:bc=0
   ·subst hbc;go_wp2_with fail
    go_roundw
    case rel =>
     refine⟨q+1,by omega,by go_num,S9.out,fun j y hj hy=>?_⟩
     by_cases hjk:j<q
     ·exact HALL2.out j y hjk hy
     ·have:j=q:=by omega
      subst this;rw[HGK.out] at hy
      cases hy
      rw[HBR.out]
    case measure=>simp[intOf];omega
   ·have hbc':(bc != 0)=true:=by simpa using hbc
    have E:Hid (QW m=(bc,bp)):=by
     show _=_;rw[Qbc HJM.out HFK.out HALL.out HGK.out HALL2.out (by rw[HBR.out];exact hbc),HBR.out]
    clear hbc;have BQ:Hid (Blk w9 R #[.int .i64 0,.int .i64 0] 30):=S9.out.r;have r0:=Qb BQ.out 0 _ rfl;have r1:=Qb BQ.out 1 _ rfl;have z0:=Qo BQ.out 0;have z1:=Qo BQ.out 1;have RB:Hid (Blk ((w9.setCell ⟨R,0,none⟩ (.int .i64 bc)).setCell ⟨R,1,none⟩ (.int .i64 bp)) R #[.int .i64 bc,.int .i64 bp] 30):=Zo BQ.out _ _;have BL:Hid (Below w.heap.size w ((w9.setCell ⟨R,0,none⟩ (.int .i64 bc)).setCell ⟨R,1,none⟩ (.int .i64 bp))):=(Below.setCell S9.out.bel (p:=⟨R,0,none⟩) HRE.out _).setCell (p:=⟨R,1,none⟩) HRE.out _;go_wp2_with fail
    generalize (w9.setCell ⟨R,0,none⟩ (.int .i64 bc)).setCell ⟨R,1,none⟩ (.int .i64 bp)=w99 at RB BL ⊢;have e0:=Qb RB.out 0 _ rfl;have e1:=Qb RB.out 1 _ rfl;exact bodyPost_ret (v:=.agg #[.int .i64 bc,.int .i64 bp]) (by simp[results,Tryz.results17,go_sem,e0,e1]) rfl ⟨by rw[E.out],BL.out⟩
def T00:MTo:=⟨0,[],[]⟩
def E00:MEnd:=⟨3,0,T00,T00,[]⟩
theorem Qbq {α:Type}{A:Lay α}{w:World}{G:Nat}{c:Array Value}{t:TypeId}{x:α}{cs:List Value}(h:Blk w G c t) (hc:c.toList=cs) (hx:A.In w All x cs):A.list.In w All [x] [.slice (some ⟨G,0,none⟩) 1 1]:=by
 refine⟨some ⟨G,0,none⟩,1,rfl,fun i y hy=>?_⟩
 have hi:i=0:=by
  have:=(List.getElem?_eq_some_iff.1 hy).1
  simp at this;exact this
 subst hi;simp at hy
 subst hy;refine⟨G,0,cs,rfl,trivial,h.lt,fun j hj=>?_,hx⟩
 have hl:=A.len hx;have hj':j<c.size:=by rw[← hc] at hl;simp at hl;omega
 rw[Nat.zero_mul,Nat.zero_add,← hc,Array.getElem?_toList]
 exact(Qb h j c[j] (Array.getElem?_eq_getElem hj')).trans (Array.getElem?_eq_getElem hj').symm
theorem QjH (w:World):EIn w All E00 ⟨none,0,none,0,none,0,none,0,none,0⟩ :=
 ⟨⟨Lay.list_nil _ _ _ _ _,Lay.list_nil _ _ _ _ _,by decide⟩,⟨Lay.list_nil _ _ _ _ _,Lay.list_nil _ _ _ _ _,by decide⟩,Lay.list_nil _ _ _ _ _,by decide,by decide⟩
def QjG (w w':World) (e:Ending):Prop:=∃ G1 G2,e=.returned (.agg #[.slice (some ⟨G2,0,none⟩) 1 1])∧Blk w' G1 #[.int .i64 0,.slice none 0 0,.slice none 0 0,.int .i64 3,.int .i64 0,.int .i64 0,.slice none 0 0,.slice none 0 0,.int .i64 0,.slice none 0 0,.slice none 0 0,.slice none 0 0] 60∧Blk w' G2 #[.int .i64 0,.slice none 0 0,.slice none 0 0,.slice (some ⟨G1,0,none⟩) 1 1] 40∧w.heap.size≤G1∧w.heap.size≤G2∧G1≠G2∧Below w.heap.size w w'
theorem QeQ (w:World):Calls Tryz.prog 23 #[] w fun e w'=>QjG w w' e:=by
 refine Qs (n:=7) Tryz.func23 rfl rfl rfl ?_;intro a hF;have hW:=Wd.start w;replace hF:Fr 7 a []:=hF;refine wp_seq_k fun K1 hK1=>?_;refine rg hF fun ops=>?_;clear hF a;refine Qcs hW trivial rfl ?_;clear hW;intro w2 B2 hW2 hN;clear hN;refine St.nil fun a3 h3=>?_;refine hK1 _ _ ?_;refine wp_seq_k fun K4 hK4=>?_;refine rg h3 fun ops=>?_;clear h3 a3;intro a5 h5;refine Q2 (t:=1) (v:=.agg #[.int .i64 3,.int .i64 0,.int .i64 0,.slice none 0 0,.slice none 0 0,.int .i64 0,.slice none 0 0,.slice none 0 0,.slice none 0 0]) (w':=w2) h5 rfl rfl rfl (fun K hK=>?_) ?_
 ·go_simp
  exact hK
 clear h5;intro a6 hF6;refine Q2 (t:=2) (v:=.agg #[.int .i64 0,.slice none 0 0,.slice none 0 0,.int .i64 3,.int .i64 0,.int .i64 0,.slice none 0 0,.slice none 0 0,.int .i64 0,.slice none 0 0,.slice none 0 0,.slice none 0 0]) (w':=w2) hF6 rfl rfl rfl (fun K hK=>?_) ?_
 ·have k0:a6.tmps[1]?.getD undef=.agg #[.int .i64 3,.int .i64 0,.int .i64 0,.slice none 0 0,.slice none 0 0,.int .i64 0,.slice none 0 0,.slice none 0 0,.slice none 0 0]:=hF6.sl2 1 _ rfl
  go_simp;exact hK
 clear hF6;intro a7 hF7;refine Qer (t:=3) #[.int .i64 0,.slice none 0 0,.slice none 0 0,.int .i64 3,.int .i64 0,.int .i64 0,.slice none 0 0,.slice none 0 0,.int .i64 0,.slice none 0 0,.slice none 0 0,.slice none 0 0] 60 1 hF7 hW2 rfl rfl rfl (fun K hK=>?_) ?_
 ·have k0:a7.tmps[2]?.getD undef=.agg #[.int .i64 0,.slice none 0 0,.slice none 0 0,.int .i64 3,.int .i64 0,.int .i64 0,.slice none 0 0,.slice none 0 0,.int .i64 0,.slice none 0 0,.slice none 0 0,.slice none 0 0]:=hF7.sl2 2 _ rfl
  go_simp;exact hK
 clear hF7 hW2;intro a8 w9 B9 hW9 hN hF8;clear hN;refine Q2 (t:=4) (v:=.agg #[.int .i64 0,.slice none 0 0,.slice none 0 0,.slice (some ⟨B9,0,none⟩) 1 1]) (w':=w9) hF8 rfl rfl rfl (fun K hK=>?_) ?_
 ·have k0:a8.tmps[3]?.getD undef=.slice (some ⟨B9,0,none⟩) 1 1:=hF8.sl2 3 _ rfl
  go_simp;exact hK
 clear hF8;intro a10 hF10;refine Qer (t:=5) #[.int .i64 0,.slice none 0 0,.slice none 0 0,.slice (some ⟨B9,0,none⟩) 1 1] 40 1 hF10 hW9 rfl rfl rfl (fun K hK=>?_) ?_
 ·have k0:a10.tmps[4]?.getD undef=.agg #[.int .i64 0,.slice none 0 0,.slice none 0 0,.slice (some ⟨B9,0,none⟩) 1 1]:=hF10.sl2 4 _ rfl
  go_simp;exact hK
 clear hF10 hW9;intro a11 w12 B12 hW12 hN hF11;clear hN;refine Q2 (t:=6) (v:=.agg #[.slice (some ⟨B12,0,none⟩) 1 1]) (w':=w12) hF11 rfl rfl rfl (fun K hK=>?_) ?_
 ·have k0:a11.tmps[5]?.getD undef=.slice (some ⟨B12,0,none⟩) 1 1:=hF11.sl2 5 _ rfl
  go_simp;exact hK
 clear hF11;intro a13 hF13;refine St.go hF13 ?_;clear hF13 a13;refine sT 2 hW12 rfl rfl infModule rfl rfl rfl ?_;clear hW12;intro w14 hW14;refine St.nil fun a15 h15=>?_;refine hK4 _ _ ?_;refine wp_ret ?_;with_reducible repeat first | refine Qd ?_ | refine Qc ?_
 exact QN 2 h15 hW14 rfl rfl rfl Tryz.underlying24 rfl infModule ⟨B9,B12,rfl,hW14.get 1 rfl,hW14.get 0 rfl,hW14.new 1 _ rfl,hW14.new 0 _ rfl,fun e=>absurd (hW14.nd 1 0 _ _ rfl rfl e) (by decide),hW14.bel⟩
def g06:Qe 6:=⟨0,[],[],E00⟩
def f06:Qf 6:=⟨0,[],[],[g06]⟩
def L06:List (Qf 6):=[f06]
theorem L06_fault:Qg L06=(0,0):=by decide +kernel
theorem L06_not:¬ QG L06:=by
 rintro (h | ⟨x,hx,h⟩)
 ·exact absurd h (by decide)
 ·simp only[L06,List.mem_singleton] at hx
  subst hx;rcases h with h | h | h | ⟨y,hy,h⟩
  ·exact absurd h (by decide)
  ·rcases h with h | ⟨t,ht,_⟩
   ·exact absurd h (by decide)
   ·cases ht
  ·rcases h with h | ⟨t,ht,_⟩
   ·exact absurd h (by decide)
   ·cases ht
  ·simp only[f06,List.mem_singleton] at hy
   subst hy;rcases h with h | h | h | h | h | h | h | ⟨z,hz,h⟩
   ·exact absurd h (by decide)
   ·rcases h with h | ⟨t,ht,_⟩
    ·exact absurd h (by decide)
    ·cases ht
   ·exact absurd h (by decide)
   ·exact absurd h (by decide)
   ·exact absurd h (by decide)
   ·exact absurd h (by decide)
   ·exact absurd h (by decide)
   ·cases hz
def bI (k:Int):Qx:=⟨k,0,0,0,0,0,[],[]⟩
def bS0:JSt:=JSt.start L06 f06 g06
def v5b:Qx:=⟨1,0,0,0,0,1,[],[]⟩
def v5c:Qx:=⟨5,0,0,0,0,0,[],[1]⟩
def v5e:Qx:=⟨6,2,0,0,0,0,[],[]⟩
def vc5:List Qx:=[bI 3,v5b,v5c,bI 4,v5e]
def g56:Qe 6:=⟨0,[],vc5,E00⟩
def f56:Qf 6:=⟨0,[],[],[g56]⟩
def L56:List (Qf 6):=[f56]
theorem L56_fault:Qg L56=(0,0):=by decide +kernel
theorem L56_not:¬ QG L56:=by
 rintro (h | ⟨x,hx,h⟩)
 ·exact absurd h (by decide)
 ·simp only[L56,List.mem_singleton] at hx
  subst hx;rcases h with h | h | h | ⟨y,hy,h⟩
  ·exact absurd h (by decide)
  ·rcases h with h | ⟨t,ht,_⟩
   ·exact absurd h (by decide)
   ·cases ht
  ·rcases h with h | ⟨t,ht,_⟩
   ·exact absurd h (by decide)
   ·cases ht
  ·simp only[f56,List.mem_singleton] at hy
   subst hy;rcases h with h | h | h | h | h | h | h | ⟨z,hz,h⟩
   ·exact absurd h (by decide)
   ·rcases h with h | ⟨t,ht,_⟩
    ·exact absurd h (by decide)
    ·cases ht
   ·exact absurd h (by decide)
   ·exact absurd h (by decide)
   ·exact absurd h (by decide)
   ·exact absurd h (by decide)
   ·exact absurd h (by decide)
   ·have hz:z∈vc5:=hz;simp only[vc5,List.mem_cons,List.not_mem_nil,or_false] at hz
    rcases hz with rfl | rfl | rfl | rfl | rfl<;>exact absurd h (by decide)
def vtup:TT 6:=TT.at (n:=7) 5 (mkT 3 0 [tInt])
def vS0:JSt:=⟨L56,f56,[],[]⟩
def vS1:JSt:=⟨L56,f56,[true],[mkT 2 0 []]⟩
def vS2:JSt:=⟨L56,f56,[true],[mkT 2 0 [],tInt]⟩
def vS3:JSt:=⟨L56,f56,[true],[mkT 2 0 [],tInt,vtup]⟩
def vS4:JSt:=⟨L56,f56,[false],[mkT 2 0 [],tInt,vtup]⟩
theorem QdH {s s':JSt}{x:Qx}{ts:List (TT 6)}(hm:s.makes x=(0,ts)) (hf:x.form s.m.length=0) (hr:s.L.length+ts.length≤80) (hn:s.next x=s'):s.code x=0∧s.next x=s':=by
 refine⟨?_,hn⟩
 unfold JSt.code;rw[if_neg (fun h=>h hf),hm]
 simp only[ne_eq,not_true_eq_false,if_false]
 rw[if_neg (by omega)]
theorem vb1:vS0.code (bI 3)=0∧vS0.next (bI 3)=vS1:=by
 have hm:vS0.makes (bI 3)=(0,[mkT 2 0 []]):=by rw[QbP rfl];rfl
 exact QdH hm (by decide) (by decide) (by unfold JSt.next;rw[hm];rfl)
theorem vb2:vS1.code v5b=0∧vS1.next v5b=vS2:=by
 have hm:vS1.makes v5b=(0,[tInt]):=QaW (.inl rfl);exact QdH hm (by decide) (by decide) (by unfold JSt.next;rw[hm];rfl)
theorem vb3:vS2.code v5c=0∧vS2.next v5c=vS3:=by
 have hw:vS2.want 0 2 true=0:=by decide
 have hh:¬ 4<TT.height (n:=7) (mkT 3 0 [tInt]):=by decide
 have hm:vS2.makes v5c=(0,[vtup]):=by
  rw[Qbe rfl]
  show (if vS2.want 0 2 true=0 then _ else _)=_;rw[if_pos hw]
  show (if 4<TT.height (n:=7) (mkT 3 0 [tInt]) then _ else _)=_;rw[if_neg hh]
  rfl
 exact QdH hm (by decide) (by decide) (by unfold JSt.next;rw[hm];rfl)
theorem vb4:vS3.code (bI 4)=0∧vS3.next (bI 4)=vS4:=by
 have hw:vS3.want 0 2 true=0:=by decide
 have hm:vS3.makes (bI 4)=(0,[]):=by rw[QbW rfl];show (Qw (vS3.want 0 2 true) _,_)=_;rw[hw];rfl
 exact QdH hm (by decide) (by decide) (by unfold JSt.next;rw[hm];rfl)
theorem vb5:vS4.code v5e=10:=by
 have hw:vS4.want 2 3 true=10:=by decide
 have hm:vS4.makes v5e=(10,[]):=by
  rw[QcK rfl]
  show (if vS4.want 2 3 true=0 then _ else (vS4.want 2 3 true,_))=_;rw[hw]
  rfl
 unfold JSt.code;rw[if_neg (fun h=>h (by decide)),hm]
 rfl
theorem L56_run:QW L56=(10,4):=by
 have hb:∀ a e,Qj a e vS0 0 vc5=(10,a+4):=by
  intro a e;unfold vc5;rw[Qj,if_neg (fun h=>h vb1.1),vb1.2,Qj,if_neg (fun h=>h vb2.1),vb2.2,Qj,if_neg (fun h=>h vb3.1),vb3.2,Qj,if_neg (fun h=>h vb4.1),vb4.2,Qj,if_pos (by rw[vb5];decide),vb5]
  rfl
 have hr:=Qbc (m:=L56) (k:=0) (q:=0) (f:=f56) (g:=g56) (by rw[L56_fault]) rfl (fun j y hj=>absurd hj (Nat.not_lt_zero _)) rfl (fun j y hj=>absurd hj (Nat.not_lt_zero _)) (by
  show (Qj _ _ vS0 0 vc5).1≠0;rw[hb];decide)
 rw[hr]
 show Qj _ _ vS0 0 vc5=_;rw[hb];rfl
theorem L06_run:QW L06=(0,0):=by
 have hfin:bS0.fin E00=0:=by
  unfold JSt.fin;rw[if_neg (by decide),if_neg (by decide),if_neg (by decide)]
  show Qw (bS0.args [] [] _) _=0
  have:bS0.args [] [] (QkF bS0.f.regs.toNat)=0:=by unfold JSt.args;simp[QA]
  rw[this]
  decide
 have hb:∀ a,Qj a E00 bS0 0 []=(0,0):=fun a=>by rw[Qj,if_neg (fun h=>h hfin)]
 unfold QW;rw[if_neg (by rw[L06_fault];decide)]
 refine Qy fun k y hk=>?_;have hk0:k=0:=by have:=(List.getElem?_eq_some_iff.1 hk).1;simp[L06] at this;exact this
 subst hk0
 cases hk
 unfold ZK;rw[Qy]
 intro k y hk;have hk0:k=0:=by have:=(List.getElem?_eq_some_iff.1 hk).1;simp[f06] at this;exact this
 subst hk0
 cases hk
 exact congrArg Prod.fst (hb _)
theorem Qfo {α:Type}{A:Lay α}{w:World}{G n:Nat}{cs:Array Value}{t:TypeId}{l:List α}(h:Blk w G cs t) (hl:l.length=n) (hc:∀ (i:Nat) x,l[i]?=some x→∃ ds,A.In w All x ds∧∀ j,j<A.size→∃ v,cs[i*A.size+j]?=some v∧ds[j]?=some v) (c:Nat):A.list.In w All l [.slice (some ⟨G,0,none⟩) n c] :=
 ⟨_,_,by rw[hl],fun i x hx=>by
  obtain⟨ds,h1,h2⟩:=hc i x hx
  refine⟨G,0,ds,rfl,trivial,h.lt,fun j hj=>?_,h1⟩
  obtain⟨v,e1,e2⟩:=h2 j hj
  rw[Nat.zero_add,e2]
  exact Qb h _ v e1⟩
theorem QlO (w:World):intsC.In w All ([]:List Int) [.slice none 0 0]:=⟨⟨_,_,rfl,Nat.le_refl _⟩,Lay.list_nil _ _ _ _ _⟩
theorem QgA {w:World}{G1 G2:Nat}(h1:Blk w G1 #[.int .i64 0,.slice none 0 0,.slice none 0 0,.int .i64 3,.int .i64 0,.int .i64 0,.slice none 0 0,.slice none 0 0,.int .i64 0,.slice none 0 0,.slice none 0 0,.slice none 0 0] 60) (h2:Blk w G2 #[.int .i64 0,.slice none 0 0,.slice none 0 0,.slice (some ⟨G1,0,none⟩) 1 1] 40):(QjX 6).In w All L06 [.slice (some ⟨G2,0,none⟩) 1 1] :=
 Qbq h2 rfl ⟨[_],_,rfl,⟨rfl,by decide⟩,[_],_,rfl,Lay.list_nil _ _ _ _ _,[_],_,rfl,Lay.list_nil _ _ _ _ _,Qbq (A:=QaT 6) (x:=g06) h1 rfl ⟨[_],_,rfl,⟨rfl,by decide⟩,[_],_,rfl,Lay.list_nil _ _ _ _ _,[_],_,rfl,Lay.list_nil _ _ _ _ _,Qcv (QjH w)⟩⟩
theorem QiZ {w:World}{Gc Gi:Nat}(hc:Blk w Gc #[.int .i64 3,.int .i64 0,.int .i64 0,.int .i64 0,.int .i64 0,.int .i64 0,.slice none 0 0,.slice none 0 0,.int .i64 1,.int .i64 0,.int .i64 0,.int .i64 0,.int .i64 0,.int .i64 1,.slice none 0 0,.slice none 0 0,.int .i64 5,.int .i64 0,.int .i64 0,.int .i64 0,.int .i64 0,.int .i64 0,.slice none 0 0,.slice (some ⟨Gi,0,none⟩) 1 1,.int .i64 4,.int .i64 0,.int .i64 0,.int .i64 0,.int .i64 0,.int .i64 0,.slice none 0 0,.slice none 0 0,.int .i64 6,.int .i64 2,.int .i64 0,.int .i64 0,.int .i64 0,.int .i64 0,.slice none 0 0,.slice none 0 0] 46) (hi:Blk w Gi #[.int .i64 1] 3):insC.list.In w All vc5 [.slice (some ⟨Gc,0,none⟩) 5 5]:=by
 have n0:=QlO w;have n1:intsC.In w All [1] [.slice (some ⟨Gi,0,none⟩) 1 1]:=⟨⟨_,_,rfl,Nat.le_refl _⟩,Qbq hi rfl ⟨rfl,by decide⟩⟩;refine Qfo hc rfl (fun i x hx=>?_) 5;match i,hx with
 | 0,hx=>cases hx;exact⟨_,ZV (x:=bI 3) n0 n0 (by decide),fun j hj=>by rcases j with _ | _ | _ | _ | _ | _ | _ | _ | j<;>first | exact⟨_,rfl,rfl⟩ | (exfalso;have:insC.size=8:=rfl;omega)⟩
 | 1,hx=>cases hx;exact⟨_,ZV (x:=v5b) n0 n0 (by decide),fun j hj=>by rcases j with _ | _ | _ | _ | _ | _ | _ | _ | j<;>first | exact⟨_,rfl,rfl⟩ | (exfalso;have:insC.size=8:=rfl;omega)⟩
 | 2,hx=>cases hx;exact⟨_,ZV (x:=v5c) n0 n1 (by decide),fun j hj=>by rcases j with _ | _ | _ | _ | _ | _ | _ | _ | j<;>first | exact⟨_,rfl,rfl⟩ | (exfalso;have:insC.size=8:=rfl;omega)⟩
 | 3,hx=>cases hx;exact⟨_,ZV (x:=bI 4) n0 n0 (by decide),fun j hj=>by rcases j with _ | _ | _ | _ | _ | _ | _ | _ | j<;>first | exact⟨_,rfl,rfl⟩ | (exfalso;have:insC.size=8:=rfl;omega)⟩
 | 4,hx=>cases hx;exact⟨_,ZV (x:=v5e) n0 n0 (by decide),fun j hj=>by rcases j with _ | _ | _ | _ | _ | _ | _ | _ | j<;>first | exact⟨_,rfl,rfl⟩ | (exfalso;have:insC.size=8:=rfl;omega)⟩
 | i+5,hx=>exact absurd (List.getElem?_eq_some_iff.1 hx).1 (by show ¬ i+5<5;omega)
theorem QkC {w:World}{G1 G2 Gc Gi:Nat}(h1:Blk w G1 #[.int .i64 0,.slice none 0 0,.slice (some ⟨Gc,0,none⟩) 5 5,.int .i64 3,.int .i64 0,.int .i64 0,.slice none 0 0,.slice none 0 0,.int .i64 0,.slice none 0 0,.slice none 0 0,.slice none 0 0] 60) (h2:Blk w G2 #[.int .i64 0,.slice none 0 0,.slice none 0 0,.slice (some ⟨G1,0,none⟩) 1 1] 40) (hc:Blk w Gc #[.int .i64 3,.int .i64 0,.int .i64 0,.int .i64 0,.int .i64 0,.int .i64 0,.slice none 0 0,.slice none 0 0,.int .i64 1,.int .i64 0,.int .i64 0,.int .i64 0,.int .i64 0,.int .i64 1,.slice none 0 0,.slice none 0 0,.int .i64 5,.int .i64 0,.int .i64 0,.int .i64 0,.int .i64 0,.int .i64 0,.slice none 0 0,.slice (some ⟨Gi,0,none⟩) 1 1,.int .i64 4,.int .i64 0,.int .i64 0,.int .i64 0,.int .i64 0,.int .i64 0,.slice none 0 0,.slice none 0 0,.int .i64 6,.int .i64 2,.int .i64 0,.int .i64 0,.int .i64 0,.int .i64 0,.slice none 0 0,.slice none 0 0] 46) (hi:Blk w Gi #[.int .i64 1] 3):(QjX 6).In w All L56 [.slice (some ⟨G2,0,none⟩) 1 1] :=
 Qbq h2 rfl ⟨[_],_,rfl,⟨rfl,by decide⟩,[_],_,rfl,Lay.list_nil _ _ _ _ _,[_],_,rfl,Lay.list_nil _ _ _ _ _,Qbq (A:=QaT 6) (x:=g56) h1 rfl ⟨[_],_,rfl,⟨rfl,by decide⟩,[_],_,rfl,Lay.list_nil _ _ _ _ _,[_],_,rfl,QiZ hc hi,Qcv (QjH w)⟩⟩
theorem Qlf (c a:Int) (w:World):(Instr.field 30 (.agg #[.int .i64 c,.int .i64 a]) 0).run Tryz.prog w=.ok (.int .i64 c) w:=by
 have hu:=Tryz.underlying30
 first
  | rfl
  | simp[Instr.run,go_sem,hu]
theorem QaU (w:World):Calls Tryz.prog 15 #[] w fun e w'=>e=.returned (.bool true)∧Below w.heap.size w w':=by
 go_enter Tryz.func15,Tryz.ntmps15
 go_wp2_with fail
 refine(QeQ w).mono ?_
 rintro e1 w1 ⟨G1,G2,rfl,k1,k2,n1,n2,n3,b1⟩;have b2:=QQ w1 (.cells #[.slice (some ⟨G2,0,none⟩) 1 1] 24);have K1:Hid (Blk (w1.alloc (.cells #[.slice (some ⟨G2,0,none⟩) 1 1] 24)) G1 #[.int .i64 0,.slice none 0 0,.slice none 0 0,.int .i64 3,.int .i64 0,.int .i64 0,.slice none 0 0,.slice none 0 0,.int .i64 0,.slice none 0 0,.slice none 0 0,.slice none 0 0] 60):=k1.below b2;have K2:Hid (Blk (w1.alloc (.cells #[.slice (some ⟨G2,0,none⟩) 1 1] 24)) G2 #[.int .i64 0,.slice none 0 0,.slice none 0 0,.slice (some ⟨G1,0,none⟩) 1 1] 40):=k2.below b2;have KY:Hid (Blk (w1.alloc (.cells #[.slice (some ⟨G2,0,none⟩) 1 1] 24)) w1.heap.size #[.slice (some ⟨G2,0,none⟩) 1 1] 24):=Blk.new _ _ _;have B2:Hid (Below w.heap.size w (w1.alloc (.cells #[.slice (some ⟨G2,0,none⟩) 1 1] 24))):=b1.trans (b2.mono b1.size);have HN:Hid (w.heap.size≤G1∧G1≠G2∧G1<w1.heap.size):=⟨n1,by first | exact n3 | exact Ne.symm n3 | exact fun e=>n3 e.symm,k1.lt⟩;clear k1 k2 n1 n2 n3 b1 b2;go_upto_region 2 with fail
 generalize w1.alloc (.cells #[.slice (some ⟨G2,0,none⟩) 1 1] 24)=w2 at K1 K2 KY B2 ⊢;generalize w1.heap.size=Y at KY HN ⊢;have y0:=Qb KY.out 0 _ rfl;have u3:=Qb K2.out 3 _ rfl;have K1b:Blk ((w2.alloc (.cells #[.int .i64 1] 3)).alloc (.cells #[.int .i64 3,.int .i64 0,.int .i64 0,.int .i64 0,.int .i64 0,.int .i64 0,.slice none 0 0,.slice none 0 0,.int .i64 1,.int .i64 0,.int .i64 0,.int .i64 0,.int .i64 0,.int .i64 1,.slice none 0 0,.slice none 0 0,.int .i64 5,.int .i64 0,.int .i64 0,.int .i64 0,.int .i64 0,.int .i64 0,.slice none 0 0,.slice (some ⟨w2.heap.size,0,none⟩) 1 1,.int .i64 4,.int .i64 0,.int .i64 0,.int .i64 0,.int .i64 0,.int .i64 0,.slice none 0 0,.slice none 0 0,.int .i64 6,.int .i64 2,.int .i64 0,.int .i64 0,.int .i64 0,.int .i64 0,.slice none 0 0,.slice none 0 0] 46)) G1 #[.int .i64 0,.slice none 0 0,.slice none 0 0,.int .i64 3,.int .i64 0,.int .i64 0,.slice none 0 0,.slice none 0 0,.int .i64 0,.slice none 0 0,.slice none 0 0,.slice none 0 0] 60:=(K1.out.below (QQ w2 (.cells #[.int .i64 1] 3))).below (QQ (w2.alloc (.cells #[.int .i64 1] 3)) (.cells #[.int .i64 3,.int .i64 0,.int .i64 0,.int .i64 0,.int .i64 0,.int .i64 0,.slice none 0 0,.slice none 0 0,.int .i64 1,.int .i64 0,.int .i64 0,.int .i64 0,.int .i64 0,.int .i64 1,.slice none 0 0,.slice none 0 0,.int .i64 5,.int .i64 0,.int .i64 0,.int .i64 0,.int .i64 0,.int .i64 0,.slice none 0 0,.slice (some ⟨w2.heap.size,0,none⟩) 1 1,.int .i64 4,.int .i64 0,.int .i64 0,.int .i64 0,.int .i64 0,.int .i64 0,.slice none 0 0,.slice none 0 0,.int .i64 6,.int .i64 2,.int .i64 0,.int .i64 0,.int .i64 0,.int .i64 0,.slice none 0 0,.slice none 0 0] 46));have c2:=Qb K1b 2 _ rfl;have z2:=Qo K1b 2;clear K1b;obtain⟨Gi,hGi⟩:∃ Gi,Gi=w2.heap.size:=⟨_,rfl⟩
 obtain⟨Gc,hGc⟩:∃ Gc,Gc=Gi+1:=⟨_,rfl⟩
 have W3:Hid (∀ w3,w3=((w2.alloc (.cells #[.int .i64 1] 3)).alloc (.cells #[.int .i64 3,.int .i64 0,.int .i64 0,.int .i64 0,.int .i64 0,.int .i64 0,.slice none 0 0,.slice none 0 0,.int .i64 1,.int .i64 0,.int .i64 0,.int .i64 0,.int .i64 0,.int .i64 1,.slice none 0 0,.slice none 0 0,.int .i64 5,.int .i64 0,.int .i64 0,.int .i64 0,.int .i64 0,.int .i64 0,.slice none 0 0,.slice (some ⟨Gi,0,none⟩) 1 1,.int .i64 4,.int .i64 0,.int .i64 0,.int .i64 0,.int .i64 0,.int .i64 0,.slice none 0 0,.slice none 0 0,.int .i64 6,.int .i64 2,.int .i64 0,.int .i64 0,.int .i64 0,.int .i64 0,.slice none 0 0,.slice none 0 0] 46)).setCell ⟨G1,2,none⟩ (.slice (some ⟨Gc,0,none⟩) 5 5)→Blk w3 G1 #[.int .i64 0,.slice none 0 0,.slice (some ⟨Gc,0,none⟩) 5 5,.int .i64 3,.int .i64 0,.int .i64 0,.slice none 0 0,.slice none 0 0,.int .i64 0,.slice none 0 0,.slice none 0 0,.slice none 0 0] 60∧Blk w3 G2 #[.int .i64 0,.slice none 0 0,.slice none 0 0,.slice (some ⟨G1,0,none⟩) 1 1] 40∧Blk w3 Gc #[.int .i64 3,.int .i64 0,.int .i64 0,.int .i64 0,.int .i64 0,.int .i64 0,.slice none 0 0,.slice none 0 0,.int .i64 1,.int .i64 0,.int .i64 0,.int .i64 0,.int .i64 0,.int .i64 1,.slice none 0 0,.slice none 0 0,.int .i64 5,.int .i64 0,.int .i64 0,.int .i64 0,.int .i64 0,.int .i64 0,.slice none 0 0,.slice (some ⟨Gi,0,none⟩) 1 1,.int .i64 4,.int .i64 0,.int .i64 0,.int .i64 0,.int .i64 0,.int .i64 0,.slice none 0 0,.slice none 0 0,.int .i64 6,.int .i64 2,.int .i64 0,.int .i64 0,.int .i64 0,.int .i64 0,.slice none 0 0,.slice none 0 0] 46∧Blk w3 Gi #[.int .i64 1] 3∧Blk w3 Y #[.slice (some ⟨G2,0,none⟩) 1 1] 24∧Below w.heap.size w w3):=by
  rintro w3 rfl;have hn:=HN.out;have b4:=QQ w2 (.cells #[.int .i64 1] 3);have b5:=QQ (w2.alloc (.cells #[.int .i64 1] 3)) (.cells #[.int .i64 3,.int .i64 0,.int .i64 0,.int .i64 0,.int .i64 0,.int .i64 0,.slice none 0 0,.slice none 0 0,.int .i64 1,.int .i64 0,.int .i64 0,.int .i64 0,.int .i64 0,.int .i64 1,.slice none 0 0,.slice none 0 0,.int .i64 5,.int .i64 0,.int .i64 0,.int .i64 0,.int .i64 0,.int .i64 0,.slice none 0 0,.slice (some ⟨Gi,0,none⟩) 1 1,.int .i64 4,.int .i64 0,.int .i64 0,.int .i64 0,.int .i64 0,.int .i64 0,.slice none 0 0,.slice none 0 0,.int .i64 6,.int .i64 2,.int .i64 0,.int .i64 0,.int .i64 0,.int .i64 0,.slice none 0 0,.slice none 0 0] 46);have s4:(w2.alloc (.cells #[.int .i64 1] 3)).heap.size=w2.heap.size+1:=World.size_alloc ..;have bb:=b4.trans (b5.mono b4.size);have l1:=K1.out.lt;have l2:=K2.out.lt;have lY:=KY.out.lt;refine⟨?_,Blk.setOther (p:=⟨G1,2,none⟩) (K2.out.below bb) (by show G1≠G2;exact hn.2.1) _,Blk.setOther (p:=⟨G1,2,none⟩) ?_ (by show G1≠Gc;omega) _,Blk.setOther (p:=⟨G1,2,none⟩) ?_ (by show G1≠Gi;omega) _,Blk.setOther (p:=⟨G1,2,none⟩) (KY.out.below bb) (by show G1≠Y;omega) _,(B2.out.trans (bb.mono B2.out.size)).setCell (p:=⟨G1,2,none⟩) hn.1 _⟩
  ·have:=Qk (K1.out.below bb) 2 (.slice (some ⟨Gc,0,none⟩) 5 5)
   simpa using this
  ·have:=Blk.new (w2.alloc (.cells #[.int .i64 1] 3)) #[.int .i64 3,.int .i64 0,.int .i64 0,.int .i64 0,.int .i64 0,.int .i64 0,.slice none 0 0,.slice none 0 0,.int .i64 1,.int .i64 0,.int .i64 0,.int .i64 0,.int .i64 0,.int .i64 1,.slice none 0 0,.slice none 0 0,.int .i64 5,.int .i64 0,.int .i64 0,.int .i64 0,.int .i64 0,.int .i64 0,.slice none 0 0,.slice (some ⟨Gi,0,none⟩) 1 1,.int .i64 4,.int .i64 0,.int .i64 0,.int .i64 0,.int .i64 0,.int .i64 0,.slice none 0 0,.slice none 0 0,.int .i64 6,.int .i64 2,.int .i64 0,.int .i64 0,.int .i64 0,.int .i64 0,.slice none 0 0,.slice none 0 0] 46
   rw[s4,← hGi,← hGc] at this
   exact this
  ·have:=(Blk.new w2 #[.int .i64 1] 3).below b5
   rw[← hGi] at this
   exact this
 have HGi:=Qa hGi;have HGc:=Qa hGc;clear hGi hGc K1 K2 KY B2 HN;go_upto_region 3 with fail
 rw[← HGi.out,← HGc.out]
 generalize hw3:((w2.alloc (.cells #[.int .i64 1] 3)).alloc (.cells #[.int .i64 3,.int .i64 0,.int .i64 0,.int .i64 0,.int .i64 0,.int .i64 0,.slice none 0 0,.slice none 0 0,.int .i64 1,.int .i64 0,.int .i64 0,.int .i64 0,.int .i64 0,.int .i64 1,.slice none 0 0,.slice none 0 0,.int .i64 5,.int .i64 0,.int .i64 0,.int .i64 0,.int .i64 0,.int .i64 0,.slice none 0 0,.slice (some ⟨Gi,0,none⟩) 1 1,.int .i64 4,.int .i64 0,.int .i64 0,.int .i64 0,.int .i64 0,.int .i64 0,.slice none 0 0,.slice none 0 0,.int .i64 6,.int .i64 2,.int .i64 0,.int .i64 0,.int .i64 0,.int .i64 0,.slice none 0 0,.slice none 0 0] 46)).setCell ⟨G1,2,none⟩ (.slice (some ⟨Gc,0,none⟩) 5 5)=w3;obtain⟨p1,p2,p3,p4,p5,p6⟩:=W3.out w3 hw3.symm
 have M5:=Qa (QkC p1 p2 p3 p4);have PY:=Qa p5;have PB:=Qa p6;clear hw3 W3 p1 p2 p3 p4 p5 p6 y0 u3 c2 z2 HGi HGc;go_wp2_with fail
 refine(QeQ w3).mono ?_
 rintro e4 w4 ⟨G3,G4,rfl,k1,k2,-,-,-,b4⟩;have L4:=Qa (QgA k1 k2);have M54:=Qa (Lay.below M5.out b4);have PY4:=Qa (PY.out.below b4);have PB4:=Qa (PB.out.trans (b4.mono PB.out.size));clear k1 k2 b4 M5 PY PB;have hfld:=Qlf;have CL:=Qa (QaX (w:=w4) (m:=L06) (c:=1) L4.out (Qae L06_not) (fun _=>L06_not));rw[L06_run] at CL
 go_wp2_with fail
 refine CL.out.mono ?_;rintro e5 w5 ⟨rfl,b5⟩;have M55:=Qa (Lay.below M54.out b5);have PY5:=Qa (PY4.out.below b5);have PB5:=Qa (PB4.out.trans (b5.mono PB4.out.size));clear b5 M54 PY4 PB4 L4 CL;have y5:=Qb PY5.out 0 _ rfl;have CM:=Qa (QaX (w:=w5) (m:=L56) (c:=1) M55.out (Qae L56_not) (fun _=>L56_not));rw[L56_run] at CM
 simp only[QD]
 go_wp2_with fail
 refine CM.out.mono ?_;rintro e6 w6 ⟨rfl,b6⟩;have PB6:=Qa (PB5.out.trans (b6.mono PB5.out.size));clear b6 M55 PY5 PB5 CM y5;simp only[QD]
 go_wp2_with fail
 go_ret;exact⟨rfl,PB6.out⟩
theorem Qdb {n:Nat}(m:List (Qf n)) (p:Option Addr) (c:Nat) (w:World) (h:(Qa5 n).In w All m [.slice p m.length c]) (hs0:Qa9 m) :
 Calls Tryz.prog 16 #[.agg #[.slice p m.length c]] w fun e w'=>∃ v,e=.returned v∧(∃ a' c',v=.agg #[.slice a' m.length c']∧(Qlt n).In w' (Zm w.heap.size) m [.slice a' m.length c'])∧Below w.heap.size w w':=by
 have hm:Hid _:=h;have hs:Hid _:=hs0;have hn1:=hs0.1;clear h hs0;obtain⟨iF,hiF,hzF0,hzF1,hzF2⟩:=Qa3 infoFunc
 obtain⟨iB,hiB,hzB0,hzB1,hzB2⟩:=Qa3 infoBlock
 obtain⟨iI,hiI,hzI0,hzI1,hzI2⟩:=Qa3 infoIns
 refine Qs (n:=110) Tryz.func16 rfl rfl rfl ?_;intro a hF;have hW:=Wd.start w;replace hF:Fr 110 a [(0,.agg #[.slice p m.length c])]:=hF;refine wp_seq_k fun K1 hK1=>?_;refine rg hF fun ops=>?_;clear hF a;refine sB hW trivial rfl rfl ?_;clear hW;intro w2 B2 hW2 hN;clear hN;refine Qcs hW2 trivial rfl ?_;clear hW2;intro w3 B3 hW3 hN;clear hN;refine St.nil fun a4 h4=>?_;refine hK1 _ _ ?_;refine wp_seq_k fun K5 hK5=>?_;refine rg h4 fun ops=>?_;clear h4 a4;refine Qcs hW3 trivial rfl ?_;clear hW3;intro w6 B6 hW6 hN;clear hN;refine St.nil fun a7 h7=>?_;refine hK5 _ _ ?_;refine wp_seq_k fun K8 hK8=>?_;refine wp_seq_k fun K9 hK9=>?_;refine rg h7 fun ops=>?_;clear h7 a7;refine sa trivial rfl rfl ?_;refine St.nil fun a10 h10=>?_;refine hK9 _ _ ?_;refine wp_block ?_;have hlo1:w.heap.size≤w6.heap.size:=hW6.bel.size;have hlB6:B6<w6.heap.size:=(hW6.get 0 rfl).lt;have hlB3:B3<w6.heap.size:=(hW6.get 1 rfl).lt;have hlB2:B2<w6.heap.size:=(hW6.get 2 rfl).lt;refine ZJ (fun r a w'=>∃ q1:Nat,q1≤m.length∧r=m.length - q1∧∃ v1 xs,QaR (Qfr n) 40 w' w6.heap.size v1 (m.take q1) xs∧QV w6.heap.size B6 w6 w'∧w6.heap.size≤w'.heap.size∧Fr 110 a [(0,.agg #[.slice p m.length c]),(1,.pointer (some ⟨B2,0,none⟩)),(2,.pointer (some ⟨B3,0,none⟩)),(3,.pointer (some ⟨B6,0,none⟩)),(4,.int .i64 (q1:Int))]∧Wd w w' [(B6,#[v1],24),(B3,#[.slice none 0 0],24),(B2,#[.slice p m.length c],24)]) (m.length) ⟨0,Nat.zero_le _,rfl,.slice none 0 0,[],QaR.nil' _ _ _ _,QV.refl _ _ _,Nat.le_refl _,(h10.keep (h10.keep (h10.keep (h10.keep (h10.keep h10.nil (t:=4) rfl) (t:=3) rfl) (t:=2) rfl) (t:=1) rfl) (t:=0) rfl),hW6⟩ ?_;clear h10 hW6;rintro r1 a11 w11 ⟨q1,hq1,hr1,v1,xs1,hA0,hK0,hz1,hF11,hWo1⟩ KL1 hKL1;have hA1:Hid _:=hA0;have hK1:Hid _:=hK0;clear hA0 hK0;have hW11:=Wd.start w11;have hkB6:Hid (Blk w11 B6 #[v1] 24):=hWo1.get 0 rfl;have hkB3:Hid (Blk w11 B3 #[.slice none 0 0] 24):=hWo1.get 1 rfl;have hkB2:Hid (Blk w11 B2 #[.slice p m.length c] 24):=hWo1.get 2 rfl;refine wp_seq_k fun K12 hK12=>?_;refine wp_seq_k fun K13 hK13=>?_;refine rg hF11 fun ops=>?_;clear hF11 a11;refine sm trivial rfl rfl ?_;refine ZF trivial rfl rfl ?_;refine QdL (Zp hW11.bel (Qb hkB2.out 0 _ rfl)) trivial rfl rfl ?_;refine Qbj trivial rfl rfl ?_;refine slt trivial rfl rfl rfl ?_;refine St.nil fun a14 h14=>?_;refine hK13 _ _ ?_;refine Qt (t:=16) h14 rfl (fun hb=>?_) (fun hb=>?_)
 ·have hlt1:q1<m.length:=by have:=of_decide_eq_true hb;omega
  clear hb;obtain⟨x,hx1⟩:∃ v9,(m)[q1]?=some v9:=⟨_,List.getElem?_eq_getElem hlt1⟩
  obtain⟨g1,o1,f1,hp1,E1,In1⟩:=Qbk (Lay.below hm.out hWo1.bel) hx1
  replace In1:Hid _:=In1;replace hp1:Hid _:=hp1;replace hx1:Hid _:=hx1;replace E1:Hid _:=E1;have hs1:Hid _:=hs.out.2 x (List.mem_of_getElem? hx1.out);have hn2:=hs1.out.1;refine wp_skip ?_;refine hK12 _ _ ?_;refine wp_seq_k fun K15 hK15=>?_;refine wp_block ?_;refine wp_seq_k fun K16 hK16=>?_;refine rg h14 fun ops=>?_;clear h14 a14;refine ZF trivial rfl rfl ?_;refine QdL (Zp hW11.bel (Qb hkB2.out 0 _ rfl)) trivial rfl rfl ?_;refine sm trivial rfl rfl ?_;refine Qd8 hp1.out hlt1 trivial rfl rfl rfl ?_;refine sSE Tryz.underlying40 rfl (QK E1.out hW11.bel) infFunc trivial rfl rfl ?_;refine QfP hW11 trivial rfl ?_;clear hW11;intro w17 B17 hW17 hN;clear hN;refine sT 0 hW17 rfl rfl infFunc rfl rfl rfl ?_;clear hW17;intro w18 hW18;refine St.nil fun a19 h19=>?_;refine hK16 _ _ ?_;refine wp_seq_k fun K20 hK20=>?_;have hF21:Fr 110 a19 [(0,.agg #[.slice p m.length c]),(1,.pointer (some ⟨B2,0,none⟩)),(2,.pointer (some ⟨B3,0,none⟩)),(3,.pointer (some ⟨B6,0,none⟩)),(4,.int .i64 (q1:Int)),(5,.pointer (some ⟨B17,0,none⟩))]:=(h19.keep (h19.keep (h19.keep (h19.keep (h19.keep (h19.keep h19.nil (t:=5) rfl) (t:=4) rfl) (t:=3) rfl) (t:=2) rfl) (t:=1) rfl) (t:=0) rfl);have ho5:a19.tmps.getD 5 undef=.pointer (some ⟨B17,0,none⟩):=h19.sl 5 _ rfl
  have hDS:Qb4 (Z:=Option Addr × Nat × Option Addr × Nat) [(4,fun z w O=>(Qh n).In w O x.params [.slice z.1 x.params.length z.2.1]),(7,fun z w O=>(Qh n).In w O x.results [.slice z.2.2.1 x.results.length z.2.2.2])]:=by
   intro x hx;simp only[List.mem_cons,List.not_mem_nil,or_false] at hx
   rcases hx with rfl | rfl
   ·intro z w w9 O hk h;exact(Qh n).keep hk (fun _ h _=>h) h
   ·intro z w w9 O hk h;exact(Qh n).keep hk (fun _ h _=>h) h
  refine QfR (Z:=Option Addr × Nat × Option Addr × Nat) [(0,24),(1,25),(2,26),(3,27),(4,28),(5,29),(6,30),(7,31),(8,32)] [(9,6,4,40)] [(10,6,4,40)] (fun z=>[(24,.pointer (some ⟨B17,0,none⟩)),(25,.int .i64 x.regs),(26,.pointer (some ⟨B17,1,none⟩)),(27,.slice f1.pP x.params.length f1.cP),(28,.slice z.1 x.params.length z.2.1),(29,.pointer (some ⟨B17,2,none⟩)),(30,.slice f1.pR x.results.length f1.cR),(31,.slice z.2.2.1 x.results.length z.2.2.2),(32,.agg #[.int .i64 x.regs,.slice z.1 x.params.length z.2.1,.slice z.2.2.1 x.results.length z.2.2.2,.slice none 0 0])]) (fun z=>[(6,[.int .i64 x.regs,.slice z.1 x.params.length z.2.1,.slice z.2.2.1 x.results.length z.2.2.2,.slice none 0 0])]) [(4,fun z w O=>(Qh n).In w O x.params [.slice z.1 x.params.length z.2.1]),(7,fun z w O=>(Qh n).In w O x.results [.slice z.2.2.1 x.results.length z.2.2.2])] (none,0,none,0) (by kernel_rfl) hF21 (by kernel_rfl) (by kernel_rfl) (fun hDB=>?hst) ?hend
  case hst =>
   refine⟨fun S a1 w1 hS hd hcl hI0 K hK=>?_,?_⟩
   ·obtain⟨⟨p28,c28,p31,c31⟩,hI⟩:=hI0
    have hWd:=hW18.below hI.1.bel;have k0:a1.tmps.getD 5 undef=.pointer (some ⟨B17,0,none⟩):=((hI.1.outer 5 (by kernel_rfl)).trans ho5);go_simp;exact hK _ _ (DMz.pure hDS hDB hI (i:=0) (t:=24) (by decide) rfl hS (Below.refl _ _) (by kernel_rfl) (by kernel_rfl) rfl)
   refine⟨fun S a1 w1 hS hd hcl hI0 K hK=>?_,?_⟩
   ·obtain⟨⟨p28,c28,p31,c31⟩,hI⟩:=hI0
    have hWd:=hW18.below hI.1.bel;have k0:a1.tmps.getD 24 undef=.pointer (some ⟨B17,0,none⟩):=(hI.1.vals (0,24) (by decide) (hd.at 0 (by kernel_rfl)) _ rfl);have c0:w1.cell? ⟨B17,0,none⟩=some (.int .i64 x.regs):=Qb (hWd.get 0 rfl) 0 _ rfl;go_simp;exact hK _ _ (DMz.pure hDS hDB hI (i:=1) (t:=25) (by decide) rfl hS (Below.refl _ _) (by kernel_rfl) (by kernel_rfl) rfl)
   refine⟨fun S a1 w1 hS hd hcl hI0 K hK=>?_,?_⟩
   ·obtain⟨⟨p28,c28,p31,c31⟩,hI⟩:=hI0
    have hWd:=hW18.below hI.1.bel;have k0:a1.tmps.getD 5 undef=.pointer (some ⟨B17,0,none⟩):=((hI.1.outer 5 (by kernel_rfl)).trans ho5);go_simp;exact hK _ _ (DMz.pure hDS hDB hI (i:=2) (t:=26) (by decide) rfl hS (Below.refl _ _) (by kernel_rfl) (by kernel_rfl) rfl)
   refine⟨fun S a1 w1 hS hd hcl hI0 K hK=>?_,?_⟩
   ·obtain⟨⟨p28,c28,p31,c31⟩,hI⟩:=hI0
    have hWd:=hW18.below hI.1.bel;have k0:a1.tmps.getD 26 undef=.pointer (some ⟨B17,1,none⟩):=(hI.1.vals (2,26) (by decide) (hd.at 2 (by kernel_rfl)) _ rfl);have c1:w1.cell? ⟨B17,1,none⟩=some (.slice f1.pP x.params.length f1.cP):=Qb (hWd.get 0 rfl) 1 _ rfl;go_simp;exact hK _ _ (DMz.pure hDS hDB hI (i:=3) (t:=27) (by decide) rfl hS (Below.refl _ _) (by kernel_rfl) (by kernel_rfl) rfl)
   refine⟨fun S a1 w1 hS hd hcl hI0 K hK=>?_,?_⟩
   ·obtain⟨⟨p28,c28,p31,c31⟩,hI⟩:=hI0
    have hWd:=hW18.below hI.1.bel;have k0:a1.tmps.getD 27 undef=.slice f1.pP x.params.length f1.cP:=(hI.1.vals (3,27) (by decide) (hd.at 3 (by kernel_rfl)) _ rfl);go_simp;refine(QaB (Lay.below In1.out.params hWd.bel) hs1.out.2.1).mono ?_
    rintro e w9 ⟨p28n,c28n,rfl,h9,hb⟩;refine hK _ _ (DMz.call hDS hDB hI (z':=(p28n,c28n,p31,c31)) (i:=4) (t:=28) (by decide) rfl hS hcl hb (by kernel_rfl) (by kernel_rfl) [7,8,10] (by kernel_rfl) ?_ ?_ ?_)
    ·intro x hx;simp only[List.mem_cons,List.not_mem_nil,or_false] at hx;rcases hx with rfl | rfl | rfl | rfl | rfl | rfl | rfl | rfl | rfl
     all_goals first | exact .inr (.inr rfl) | exact .inl (by decide) | exact .inr (.inl rfl)
    ·intro x hx;simp only[List.mem_cons,List.not_mem_nil,or_false] at hx;rcases hx with rfl
     all_goals exact .inl (by decide)
    ·intro x hx;simp only[List.mem_cons,List.not_mem_nil,or_false] at hx;rcases hx with rfl | rfl
     ·exact .inl ⟨rfl,fun k=>w1.heap.size≤k∧k<w9.heap.size,Lay.mono h9 (fun k hk hl=>⟨hk,hl⟩),fun k hk=>hk⟩
     ·exact .inr ⟨show (7:Nat)≠4 from by decide,fun w O h=>h⟩
   refine⟨fun S a1 w1 hS hd hcl hI0 K hK=>?_,?_⟩
   ·obtain⟨⟨p28,c28,p31,c31⟩,hI⟩:=hI0
    have hWd:=hW18.below hI.1.bel;have k0:a1.tmps.getD 5 undef=.pointer (some ⟨B17,0,none⟩):=((hI.1.outer 5 (by kernel_rfl)).trans ho5);go_simp;exact hK _ _ (DMz.pure hDS hDB hI (i:=5) (t:=29) (by decide) rfl hS (Below.refl _ _) (by kernel_rfl) (by kernel_rfl) rfl)
   refine⟨fun S a1 w1 hS hd hcl hI0 K hK=>?_,?_⟩
   ·obtain⟨⟨p28,c28,p31,c31⟩,hI⟩:=hI0
    have hWd:=hW18.below hI.1.bel;have k0:a1.tmps.getD 29 undef=.pointer (some ⟨B17,2,none⟩):=(hI.1.vals (5,29) (by decide) (hd.at 5 (by kernel_rfl)) _ rfl);have c2:w1.cell? ⟨B17,2,none⟩=some (.slice f1.pR x.results.length f1.cR):=Qb (hWd.get 0 rfl) 2 _ rfl;go_simp;exact hK _ _ (DMz.pure hDS hDB hI (i:=6) (t:=30) (by decide) rfl hS (Below.refl _ _) (by kernel_rfl) (by kernel_rfl) rfl)
   refine⟨fun S a1 w1 hS hd hcl hI0 K hK=>?_,?_⟩
   ·obtain⟨⟨p28,c28,p31,c31⟩,hI⟩:=hI0
    have hWd:=hW18.below hI.1.bel;have k0:a1.tmps.getD 30 undef=.slice f1.pR x.results.length f1.cR:=(hI.1.vals (6,30) (by decide) (hd.at 6 (by kernel_rfl)) _ rfl);go_simp;refine(QaB (Lay.below In1.out.results hWd.bel) hs1.out.2.2.1).mono ?_
    rintro e w9 ⟨p31n,c31n,rfl,h9,hb⟩;refine hK _ _ (DMz.call hDS hDB hI (z':=(p28,c28,p31n,c31n)) (i:=7) (t:=31) (by decide) rfl hS hcl hb (by kernel_rfl) (by kernel_rfl) [8,10] (by kernel_rfl) ?_ ?_ ?_)
    ·intro x hx;simp only[List.mem_cons,List.not_mem_nil,or_false] at hx;rcases hx with rfl | rfl | rfl | rfl | rfl | rfl | rfl | rfl | rfl
     all_goals first | exact .inr (.inr rfl) | exact .inl (by decide) | exact .inr (.inl rfl)
    ·intro x hx;simp only[List.mem_cons,List.not_mem_nil,or_false] at hx;rcases hx with rfl
     all_goals exact .inl (by decide)
    ·intro x hx;simp only[List.mem_cons,List.not_mem_nil,or_false] at hx;rcases hx with rfl | rfl
     ·exact .inr ⟨show (4:Nat)≠7 from by decide,fun w O h=>h⟩
     ·exact .inl ⟨rfl,fun k=>w1.heap.size≤k∧k<w9.heap.size,Lay.mono h9 (fun k hk hl=>⟨hk,hl⟩),fun k hk=>hk⟩
   refine⟨fun S a1 w1 hS hd hcl hI0 K hK=>?_,?_⟩
   ·obtain⟨⟨p28,c28,p31,c31⟩,hI⟩:=hI0
    have hWd:=hW18.below hI.1.bel;have k0:a1.tmps[25]?.getD undef=.int .i64 x.regs:=by rw[← Array.getD_eq_getD_getElem?];exact(hI.1.vals (1,25) (by decide) (hd.at 1 (by kernel_rfl)) _ rfl)
    have k1:a1.tmps[28]?.getD undef=.slice p28 x.params.length c28:=by rw[← Array.getD_eq_getD_getElem?];exact(hI.1.vals (4,28) (by decide) (hd.at 4 (by kernel_rfl)) _ rfl)
    have k2:a1.tmps[31]?.getD undef=.slice p31 x.results.length c31:=by rw[← Array.getD_eq_getD_getElem?];exact(hI.1.vals (7,31) (by decide) (hd.at 7 (by kernel_rfl)) _ rfl)
    go_simp;exact hK _ _ (DMz.pure hDS hDB hI (i:=8) (t:=32) (by decide) rfl hS (Below.refl _ _) (by kernel_rfl) (by kernel_rfl) rfl)
   refine⟨fun S a1 w1 hS hd hcl hI0 K hK=>?_,?_⟩
   ·obtain⟨⟨p28,c28,p31,c31⟩,hI⟩:=hI0
    go_simp;exact hK _ _ (DMz.alloc hDS hDB hI (i:=9) (t:=6) (s:=4) (ty:=40) (by decide) rfl hS hcl (by kernel_rfl) (by kernel_rfl) rfl)
   refine⟨fun S a1 w1 hS hd hcl hI0 K hK=>?_,?_⟩
   ·obtain⟨⟨p28,c28,p31,c31⟩,hI⟩:=hI0
    have k0:a1.tmps.getD 32 undef=.agg #[.int .i64 x.regs,.slice p28 x.params.length c28,.slice p31 x.results.length c31,.slice none 0 0]:=(hI.1.vals (8,32) (by decide) (hd.at 8 (by kernel_rfl)) _ rfl);obtain⟨B,kB,hlo,c0,hBk,hcs⟩:=hI.1.box (i:=9) (t:=6) (s:=4) (ty:=40) (by decide) (hd.at 9 (by kernel_rfl))
    exact Qis hBk kB k0 infFunc rfl hcs.symm (hK _ _ (DMz.store hDS hDB hI (i:=10) (t:=6) (s:=4) (ty:=40) (j:=9) (by decide) (by decide) (hd.at 9 (by kernel_rfl)) kB hBk hcs hlo rfl rfl hS hcl (by kernel_rfl) (by kernel_rfl) rfl))
   trivial
  case hend =>
   rintro ⟨p28,c28,p31,c31⟩ S a22 w22 hS hD hFD;obtain⟨BD6,hd6,hBl6,hBk6⟩:=hD.1.full (j:=9) (i:=10) (t:=6) (s:=4) (ty:=40) (by decide) (hS _ (by decide)) (by decide) (hS _ (by decide)) rfl
   have hF22:Fr 110 a22 [(6,.pointer (some ⟨BD6,0,none⟩)),(0,.agg #[.slice p m.length c]),(1,.pointer (some ⟨B2,0,none⟩)),(2,.pointer (some ⟨B3,0,none⟩)),(3,.pointer (some ⟨B6,0,none⟩)),(4,.int .i64 (q1:Int)),(5,.pointer (some ⟨B17,0,none⟩))]:=(hFD.cons hd6);obtain⟨O9,hN28,hO9⟩:=hD.2 _ List.mem_cons_self (hS 4 (by decide))
   replace hN28:=Lay.mono (show (Qh n).In _ _ x.params [.slice p28 x.params.length c28] from hN28) (O':=fun k=>w18.heap.size≤k∧k<w22.heap.size∧k≠BD6) (fun k hk _=>⟨(hO9.1 k hk).1,(hO9.1 k hk).2,fun e=>hO9.2 (9,6,4,40) (by decide) (hS _ (by decide)) BD6 hd6 (e ▸ hk)⟩);clear hO9;obtain⟨O9,hN31,hO9⟩:=hD.2 _ (List.mem_cons_of_mem _ List.mem_cons_self) (hS 7 (by decide))
   replace hN31:=Lay.mono (show (Qh n).In _ _ x.results [.slice p31 x.results.length c31] from hN31) (O':=fun k=>w18.heap.size≤k∧k<w22.heap.size∧k≠BD6) (fun k hk _=>⟨(hO9.1 k hk).1,(hO9.1 k hk).2,fun e=>hO9.2 (9,6,4,40) (by decide) (hS _ (by decide)) BD6 hd6 (e ▸ hk)⟩);clear hO9;have hsD:w18.heap.size≤w22.heap.size:=hD.1.bel.size;have hW22:Wd w11 w22 [(BD6,#[.int .i64 x.regs,.slice p28 x.params.length c28,.slice p31 x.results.length c31,.slice none 0 0],40),(B17,#[.int .i64 x.regs,.slice f1.pP x.params.length f1.cP,.slice f1.pR x.results.length f1.cR,.slice f1.pB x.blocks.length f1.cB],40)]:=Wd.add (hW18.below hD.1.bel) hBk6 hW18 hBl6;have hsd2:w11.heap.size≤w18.heap.size:=hW18.bel.size;clear hS hD hFD hDS hW18 hd6;clear hBk6;refine hK20 _ _ ?_;refine wp_seq_k fun K23 hK23=>?_;refine wp_seq_k fun K24 hK24=>?_;refine rg hF22 fun ops=>?_;clear hF22 a22;refine sa trivial rfl rfl ?_;refine St.nil fun a25 h25=>?_;refine hK24 _ _ ?_;refine wp_block ?_;have hlo2:w11.heap.size≤w22.heap.size:=hW22.bel.size;have hlBD6:BD6<w22.heap.size:=(hW22.get 0 rfl).lt;have hlB17:B17<w22.heap.size:=(hW22.get 1 rfl).lt;refine ZJ (fun r a w'=>∃ q2:Nat,q2≤x.blocks.length∧r=x.blocks.length - q2∧∃ v2 xs,QaR (Qcc n) 60 w' w22.heap.size v2 (x.blocks.take q2) xs∧QV w22.heap.size BD6 w22 w'∧w22.heap.size≤w'.heap.size∧Fr 110 a [(0,.agg #[.slice p m.length c]),(1,.pointer (some ⟨B2,0,none⟩)),(2,.pointer (some ⟨B3,0,none⟩)),(3,.pointer (some ⟨B6,0,none⟩)),(4,.int .i64 (q1:Int)),(5,.pointer (some ⟨B17,0,none⟩)),(6,.pointer (some ⟨BD6,0,none⟩)),(7,.int .i64 (q2:Int))]∧Wd w11 w' [(BD6,#[.int .i64 x.regs,.slice p28 x.params.length c28,.slice p31 x.results.length c31,v2],40),(B17,#[.int .i64 x.regs,.slice f1.pP x.params.length f1.cP,.slice f1.pR x.results.length f1.cR,.slice f1.pB x.blocks.length f1.cB],40)]) (x.blocks.length) ⟨0,Nat.zero_le _,rfl,.slice none 0 0,[],QaR.nil' _ _ _ _,QV.refl _ _ _,Nat.le_refl _,(h25.keep (h25.keep (h25.keep (h25.keep (h25.keep (h25.keep (h25.keep (h25.keep h25.nil (t:=7) rfl) (t:=6) rfl) (t:=5) rfl) (t:=4) rfl) (t:=3) rfl) (t:=2) rfl) (t:=1) rfl) (t:=0) rfl),hW22⟩ ?_;clear h25 hW22;rintro r2 a26 w26 ⟨q2,hq2,hr2,v2,xs2,hA0,hK0,hz2,hF26,hWo2⟩ KL2 hKL2;have hA2:Hid _:=hA0;have hK2:Hid _:=hK0;clear hA0 hK0;have hW26:=Wd.start w26;have hkBD6:Hid (Blk w26 BD6 #[.int .i64 x.regs,.slice p28 x.params.length c28,.slice p31 x.results.length c31,v2] 40):=hWo2.get 0 rfl;have hkB17:Hid (Blk w26 B17 #[.int .i64 x.regs,.slice f1.pP x.params.length f1.cP,.slice f1.pR x.results.length f1.cR,.slice f1.pB x.blocks.length f1.cB] 40):=hWo2.get 1 rfl;refine wp_seq_k fun K27 hK27=>?_;refine wp_seq_k fun K28 hK28=>?_;refine rg hF26 fun ops=>?_;clear hF26 a26;refine sm trivial rfl rfl ?_;refine Qbd trivial rfl rfl ?_;refine Qcn (Zp hW26.bel (Qb hkB17.out 3 _ rfl)) trivial rfl rfl ?_;refine Qco trivial rfl rfl ?_;refine slt trivial rfl rfl rfl ?_;refine St.nil fun a29 h29=>?_;refine hK28 _ _ ?_;refine Qt (t:=37) h29 rfl (fun hb=>?_) (fun hb=>?_)
   ·have hlt2:q2<x.blocks.length:=by have:=of_decide_eq_true hb;omega
    clear hb;obtain⟨y,hx2⟩:∃ v9,(x.blocks)[q2]?=some v9:=⟨_,List.getElem?_eq_getElem hlt2⟩
    obtain⟨g2,o2,b2,hp2,E2,In2⟩:=Qbr (Lay.below In1.out.blocks hWo2.bel) hx2
    replace In2:Hid _:=In2;replace hp2:Hid _:=hp2;replace hx2:Hid _:=hx2;replace E2:Hid _:=E2;have hs2:Hid _:=hs1.out.2.2.2 y (List.mem_of_getElem? hx2.out);have hn3:=hs2.out.1;refine wp_skip ?_;refine hK27 _ _ ?_;refine wp_seq_k fun K30 hK30=>?_;refine wp_block ?_;refine wp_seq_k fun K31 hK31=>?_;refine rg h29 fun ops=>?_;clear h29 a29;refine Qbd trivial rfl rfl ?_;refine Qcn (Zp hW26.bel (Qb hkB17.out 3 _ rfl)) trivial rfl rfl ?_;refine sm trivial rfl rfl ?_;refine Qcq hp2.out hlt2 trivial rfl rfl rfl ?_;refine sSE Tryz.underlying60 rfl (QK E2.out hW26.bel) infBlock trivial rfl rfl ?_;refine QdP hW26 trivial rfl ?_;clear hW26;intro w32 B32 hW32 hN;clear hN;refine sT 0 hW32 rfl rfl infBlock rfl rfl rfl ?_;clear hW32;intro w33 hW33;refine St.nil fun a34 h34=>?_;refine hK31 _ _ ?_;refine wp_seq_k fun K35 hK35=>?_;have hF36:Fr 110 a34 [(0,.agg #[.slice p m.length c]),(1,.pointer (some ⟨B2,0,none⟩)),(2,.pointer (some ⟨B3,0,none⟩)),(3,.pointer (some ⟨B6,0,none⟩)),(4,.int .i64 (q1:Int)),(5,.pointer (some ⟨B17,0,none⟩)),(6,.pointer (some ⟨BD6,0,none⟩)),(7,.int .i64 (q2:Int)),(8,.pointer (some ⟨B32,0,none⟩))]:=(h34.keep (h34.keep (h34.keep (h34.keep (h34.keep (h34.keep (h34.keep (h34.keep (h34.keep h34.nil (t:=8) rfl) (t:=7) rfl) (t:=6) rfl) (t:=5) rfl) (t:=4) rfl) (t:=3) rfl) (t:=2) rfl) (t:=1) rfl) (t:=0) rfl);have ho8:a34.tmps.getD 8 undef=.pointer (some ⟨B32,0,none⟩):=h34.sl 8 _ rfl
    have hDS:Qb4 (Z:=Option Addr × Nat) [(4,fun z w O=>(Qh n).In w O y.params [.slice z.1 y.params.length z.2])]:=by
     intro x hx;simp only[List.mem_cons,List.not_mem_nil,or_false] at hx
     rcases hx with rfl
     ·intro z w w9 O hk h;exact(Qh n).keep hk (fun _ h _=>h) h
    refine QfR (Z:=Option Addr × Nat) [(0,45),(1,46),(2,47),(3,48),(4,49),(5,50)] [(6,9,12,60)] [(7,9,12,60)] (fun z=>[(45,.pointer (some ⟨B32,0,none⟩)),(46,.int .i64 y.regs),(47,.pointer (some ⟨B32,1,none⟩)),(48,.slice b2.pP y.params.length b2.cP),(49,.slice z.1 y.params.length z.2),(50,.agg #[.int .i64 y.regs,.slice z.1 y.params.length z.2,.slice none 0 0,.int .i64 0,.int .i64 0,.int .i64 0,.slice none 0 0,.slice none 0 0,.int .i64 0,.slice none 0 0,.slice none 0 0,.slice none 0 0])]) (fun z=>[(9,[.int .i64 y.regs,.slice z.1 y.params.length z.2,.slice none 0 0,.int .i64 0,.int .i64 0,.int .i64 0,.slice none 0 0,.slice none 0 0,.int .i64 0,.slice none 0 0,.slice none 0 0,.slice none 0 0])]) [(4,fun z w O=>(Qh n).In w O y.params [.slice z.1 y.params.length z.2])] (none,0) (by kernel_rfl) hF36 (by kernel_rfl) (by kernel_rfl) (fun hDB=>?hst) ?hend
    case hst =>
     refine⟨fun S a1 w1 hS hd hcl hI0 K hK=>?_,?_⟩
     ·obtain⟨⟨p49,c49⟩,hI⟩:=hI0
      have hWd:=hW33.below hI.1.bel;have k0:a1.tmps.getD 8 undef=.pointer (some ⟨B32,0,none⟩):=((hI.1.outer 8 (by kernel_rfl)).trans ho8);go_simp;exact hK _ _ (DMz.pure hDS hDB hI (i:=0) (t:=45) (by decide) rfl hS (Below.refl _ _) (by kernel_rfl) (by kernel_rfl) rfl)
     refine⟨fun S a1 w1 hS hd hcl hI0 K hK=>?_,?_⟩
     ·obtain⟨⟨p49,c49⟩,hI⟩:=hI0
      have hWd:=hW33.below hI.1.bel;have k0:a1.tmps.getD 45 undef=.pointer (some ⟨B32,0,none⟩):=(hI.1.vals (0,45) (by decide) (hd.at 0 (by kernel_rfl)) _ rfl);have c0:w1.cell? ⟨B32,0,none⟩=some (.int .i64 y.regs):=Qb (hWd.get 0 rfl) 0 _ rfl;go_simp;exact hK _ _ (DMz.pure hDS hDB hI (i:=1) (t:=46) (by decide) rfl hS (Below.refl _ _) (by kernel_rfl) (by kernel_rfl) rfl)
     refine⟨fun S a1 w1 hS hd hcl hI0 K hK=>?_,?_⟩
     ·obtain⟨⟨p49,c49⟩,hI⟩:=hI0
      have hWd:=hW33.below hI.1.bel;have k0:a1.tmps.getD 8 undef=.pointer (some ⟨B32,0,none⟩):=((hI.1.outer 8 (by kernel_rfl)).trans ho8);go_simp;exact hK _ _ (DMz.pure hDS hDB hI (i:=2) (t:=47) (by decide) rfl hS (Below.refl _ _) (by kernel_rfl) (by kernel_rfl) rfl)
     refine⟨fun S a1 w1 hS hd hcl hI0 K hK=>?_,?_⟩
     ·obtain⟨⟨p49,c49⟩,hI⟩:=hI0
      have hWd:=hW33.below hI.1.bel;have k0:a1.tmps.getD 47 undef=.pointer (some ⟨B32,1,none⟩):=(hI.1.vals (2,47) (by decide) (hd.at 2 (by kernel_rfl)) _ rfl);have c1:w1.cell? ⟨B32,1,none⟩=some (.slice b2.pP y.params.length b2.cP):=Qb (hWd.get 0 rfl) 1 _ rfl;go_simp;exact hK _ _ (DMz.pure hDS hDB hI (i:=3) (t:=48) (by decide) rfl hS (Below.refl _ _) (by kernel_rfl) (by kernel_rfl) rfl)
     refine⟨fun S a1 w1 hS hd hcl hI0 K hK=>?_,?_⟩
     ·obtain⟨⟨p49,c49⟩,hI⟩:=hI0
      have hWd:=hW33.below hI.1.bel;have k0:a1.tmps.getD 48 undef=.slice b2.pP y.params.length b2.cP:=(hI.1.vals (3,48) (by decide) (hd.at 3 (by kernel_rfl)) _ rfl);go_simp;refine(QaB (Lay.below In2.out.params hWd.bel) hs2.out.2.1).mono ?_
      rintro e w9 ⟨p49n,c49n,rfl,h9,hb⟩;refine hK _ _ (DMz.call hDS hDB hI (z':=(p49n,c49n)) (i:=4) (t:=49) (by decide) rfl hS hcl hb (by kernel_rfl) (by kernel_rfl) [5,7] (by kernel_rfl) ?_ ?_ ?_)
      ·intro x hx;simp only[List.mem_cons,List.not_mem_nil,or_false] at hx;rcases hx with rfl | rfl | rfl | rfl | rfl | rfl
       all_goals first | exact .inr (.inr rfl) | exact .inl (by decide) | exact .inr (.inl rfl)
      ·intro x hx;simp only[List.mem_cons,List.not_mem_nil,or_false] at hx;rcases hx with rfl
       all_goals exact .inl (by decide)
      ·intro x hx;simp only[List.mem_cons,List.not_mem_nil,or_false] at hx;rcases hx with rfl
       ·exact .inl ⟨rfl,fun k=>w1.heap.size≤k∧k<w9.heap.size,Lay.mono h9 (fun k hk hl=>⟨hk,hl⟩),fun k hk=>hk⟩
     refine⟨fun S a1 w1 hS hd hcl hI0 K hK=>?_,?_⟩
     ·obtain⟨⟨p49,c49⟩,hI⟩:=hI0
      have hWd:=hW33.below hI.1.bel;have k0:a1.tmps[46]?.getD undef=.int .i64 y.regs:=by rw[← Array.getD_eq_getD_getElem?];exact(hI.1.vals (1,46) (by decide) (hd.at 1 (by kernel_rfl)) _ rfl)
      have k1:a1.tmps[49]?.getD undef=.slice p49 y.params.length c49:=by rw[← Array.getD_eq_getD_getElem?];exact(hI.1.vals (4,49) (by decide) (hd.at 4 (by kernel_rfl)) _ rfl)
      go_simp;exact hK _ _ (DMz.pure hDS hDB hI (i:=5) (t:=50) (by decide) rfl hS (Below.refl _ _) (by kernel_rfl) (by kernel_rfl) rfl)
     refine⟨fun S a1 w1 hS hd hcl hI0 K hK=>?_,?_⟩
     ·obtain⟨⟨p49,c49⟩,hI⟩:=hI0
      go_simp;exact hK _ _ (DMz.alloc hDS hDB hI (i:=6) (t:=9) (s:=12) (ty:=60) (by decide) rfl hS hcl (by kernel_rfl) (by kernel_rfl) rfl)
     refine⟨fun S a1 w1 hS hd hcl hI0 K hK=>?_,?_⟩
     ·obtain⟨⟨p49,c49⟩,hI⟩:=hI0
      have k0:a1.tmps.getD 50 undef=.agg #[.int .i64 y.regs,.slice p49 y.params.length c49,.slice none 0 0,.int .i64 0,.int .i64 0,.int .i64 0,.slice none 0 0,.slice none 0 0,.int .i64 0,.slice none 0 0,.slice none 0 0,.slice none 0 0]:=(hI.1.vals (5,50) (by decide) (hd.at 5 (by kernel_rfl)) _ rfl);obtain⟨B,kB,hlo,c0,hBk,hcs⟩:=hI.1.box (i:=6) (t:=9) (s:=12) (ty:=60) (by decide) (hd.at 6 (by kernel_rfl))
      exact Qis hBk kB k0 infBlock rfl hcs.symm (hK _ _ (DMz.store hDS hDB hI (i:=7) (t:=9) (s:=12) (ty:=60) (j:=6) (by decide) (by decide) (hd.at 6 (by kernel_rfl)) kB hBk hcs hlo rfl rfl hS hcl (by kernel_rfl) (by kernel_rfl) rfl))
     trivial
    case hend =>
     rintro ⟨p49,c49⟩ S a37 w37 hS hD hFD;obtain⟨BD9,hd9,hBl9,hBk9⟩:=hD.1.full (j:=6) (i:=7) (t:=9) (s:=12) (ty:=60) (by decide) (hS _ (by decide)) (by decide) (hS _ (by decide)) rfl
     have hF37:Fr 110 a37 [(9,.pointer (some ⟨BD9,0,none⟩)),(0,.agg #[.slice p m.length c]),(1,.pointer (some ⟨B2,0,none⟩)),(2,.pointer (some ⟨B3,0,none⟩)),(3,.pointer (some ⟨B6,0,none⟩)),(4,.int .i64 (q1:Int)),(5,.pointer (some ⟨B17,0,none⟩)),(6,.pointer (some ⟨BD6,0,none⟩)),(7,.int .i64 (q2:Int)),(8,.pointer (some ⟨B32,0,none⟩))]:=(hFD.cons hd9);obtain⟨O9,hN49,hO9⟩:=hD.2 _ List.mem_cons_self (hS 4 (by decide))
     replace hN49:=Lay.mono (show (Qh n).In _ _ y.params [.slice p49 y.params.length c49] from hN49) (O':=fun k=>w33.heap.size≤k∧k<w37.heap.size∧k≠BD9) (fun k hk _=>⟨(hO9.1 k hk).1,(hO9.1 k hk).2,fun e=>hO9.2 (6,9,12,60) (by decide) (hS _ (by decide)) BD9 hd9 (e ▸ hk)⟩);clear hO9;have hsD:w33.heap.size≤w37.heap.size:=hD.1.bel.size;have hW37:Wd w26 w37 [(BD9,#[.int .i64 y.regs,.slice p49 y.params.length c49,.slice none 0 0,.int .i64 0,.int .i64 0,.int .i64 0,.slice none 0 0,.slice none 0 0,.int .i64 0,.slice none 0 0,.slice none 0 0,.slice none 0 0],60),(B32,#[.int .i64 y.regs,.slice b2.pP y.params.length b2.cP,.slice b2.pC y.code.length b2.cC,.int .i64 y.fin.op,.int .i64 y.fin.a,.int .i64 y.fin.yes.block,.slice b2.e.pYR y.fin.yes.regs.length b2.e.cYR,.slice b2.e.pYA y.fin.yes.args.length b2.e.cYA,.int .i64 y.fin.no.block,.slice b2.e.pNR y.fin.no.regs.length b2.e.cNR,.slice b2.e.pNA y.fin.no.args.length b2.e.cNA,.slice b2.e.pA y.fin.args.length b2.e.cA],60)]:=Wd.add (hW33.below hD.1.bel) hBk9 hW33 hBl9;have hsd3:w26.heap.size≤w33.heap.size:=hW33.bel.size;clear hS hD hFD hDS hW33 hd9;clear hBk9;refine hK35 _ _ ?_;refine wp_seq_k fun K38 hK38=>?_;refine wp_seq_k fun K39 hK39=>?_;refine rg hF37 fun ops=>?_;clear hF37 a37;refine sa trivial rfl rfl ?_;refine St.nil fun a40 h40=>?_;refine hK39 _ _ ?_;refine wp_block ?_;have hlo3:w26.heap.size≤w37.heap.size:=hW37.bel.size;have hlBD9:BD9<w37.heap.size:=(hW37.get 0 rfl).lt;have hlB32:B32<w37.heap.size:=(hW37.get 1 rfl).lt;refine ZJ (fun r a w'=>∃ q3:Nat,q3≤y.code.length∧r=y.code.length - q3∧∃ v3 xs,QaR insC 46 w' w37.heap.size v3 (y.code.take q3) xs∧QV w37.heap.size BD9 w37 w'∧w37.heap.size≤w'.heap.size∧Fr 110 a [(0,.agg #[.slice p m.length c]),(1,.pointer (some ⟨B2,0,none⟩)),(2,.pointer (some ⟨B3,0,none⟩)),(3,.pointer (some ⟨B6,0,none⟩)),(4,.int .i64 (q1:Int)),(5,.pointer (some ⟨B17,0,none⟩)),(6,.pointer (some ⟨BD6,0,none⟩)),(7,.int .i64 (q2:Int)),(8,.pointer (some ⟨B32,0,none⟩)),(9,.pointer (some ⟨BD9,0,none⟩)),(10,.int .i64 (q3:Int))]∧Wd w26 w' [(BD9,#[.int .i64 y.regs,.slice p49 y.params.length c49,v3,.int .i64 0,.int .i64 0,.int .i64 0,.slice none 0 0,.slice none 0 0,.int .i64 0,.slice none 0 0,.slice none 0 0,.slice none 0 0],60),(B32,#[.int .i64 y.regs,.slice b2.pP y.params.length b2.cP,.slice b2.pC y.code.length b2.cC,.int .i64 y.fin.op,.int .i64 y.fin.a,.int .i64 y.fin.yes.block,.slice b2.e.pYR y.fin.yes.regs.length b2.e.cYR,.slice b2.e.pYA y.fin.yes.args.length b2.e.cYA,.int .i64 y.fin.no.block,.slice b2.e.pNR y.fin.no.regs.length b2.e.cNR,.slice b2.e.pNA y.fin.no.args.length b2.e.cNA,.slice b2.e.pA y.fin.args.length b2.e.cA],60)]) (y.code.length) ⟨0,Nat.zero_le _,rfl,.slice none 0 0,[],QaR.nil' _ _ _ _,QV.refl _ _ _,Nat.le_refl _,(h40.keep (h40.keep (h40.keep (h40.keep (h40.keep (h40.keep (h40.keep (h40.keep (h40.keep (h40.keep (h40.keep h40.nil (t:=10) rfl) (t:=9) rfl) (t:=8) rfl) (t:=7) rfl) (t:=6) rfl) (t:=5) rfl) (t:=4) rfl) (t:=3) rfl) (t:=2) rfl) (t:=1) rfl) (t:=0) rfl),hW37⟩ ?_;clear h40 hW37;rintro r3 a41 w41 ⟨q3,hq3,hr3,v3,xs3,hA0,hK0,hz3,hF41,hWo3⟩ KL3 hKL3;have hA3:Hid _:=hA0;have hK3:Hid _:=hK0;clear hA0 hK0;have hW41:=Wd.start w41;have hkBD9:Hid (Blk w41 BD9 #[.int .i64 y.regs,.slice p49 y.params.length c49,v3,.int .i64 0,.int .i64 0,.int .i64 0,.slice none 0 0,.slice none 0 0,.int .i64 0,.slice none 0 0,.slice none 0 0,.slice none 0 0] 60):=hWo3.get 0 rfl;have hkB32:Hid (Blk w41 B32 #[.int .i64 y.regs,.slice b2.pP y.params.length b2.cP,.slice b2.pC y.code.length b2.cC,.int .i64 y.fin.op,.int .i64 y.fin.a,.int .i64 y.fin.yes.block,.slice b2.e.pYR y.fin.yes.regs.length b2.e.cYR,.slice b2.e.pYA y.fin.yes.args.length b2.e.cYA,.int .i64 y.fin.no.block,.slice b2.e.pNR y.fin.no.regs.length b2.e.cNR,.slice b2.e.pNA y.fin.no.args.length b2.e.cNA,.slice b2.e.pA y.fin.args.length b2.e.cA] 60):=hWo3.get 1 rfl;refine wp_seq_k fun K42 hK42=>?_;refine wp_seq_k fun K43 hK43=>?_;refine rg hF41 fun ops=>?_;clear hF41 a41;refine sm trivial rfl rfl ?_;refine ZQ trivial rfl rfl ?_;refine Qf4 (Zp hW41.bel (Qb hkB32.out 2 _ rfl)) trivial rfl rfl ?_;refine Qdk trivial rfl rfl ?_;refine slt trivial rfl rfl rfl ?_;refine St.nil fun a44 h44=>?_;refine hK43 _ _ ?_;refine Qt (t:=55) h44 rfl (fun hb=>?_) (fun hb=>?_)
     ·have hlt3:q3<y.code.length:=by have:=of_decide_eq_true hb;omega
      clear hb;obtain⟨z,hx3⟩:∃ v9,(y.code)[q3]?=some v9:=⟨_,List.getElem?_eq_getElem hlt3⟩
      obtain⟨g3,o3,i3,hp3,E3,In3⟩:=Qeq (Lay.below In2.out.code hWo3.bel) hx3
      replace In3:Hid _:=In3;replace hp3:Hid _:=hp3;replace hx3:Hid _:=hx3;replace E3:Hid _:=E3;have hs3:Hid _:=hs2.out.2.2.2 z (List.mem_of_getElem? hx3.out);refine wp_skip ?_;refine hK42 _ _ ?_;refine wp_seq_k fun K45 hK45=>?_;refine wp_block ?_;refine wp_seq_k fun K46 hK46=>?_;refine rg h44 fun ops=>?_;clear h44 a44;refine ZQ trivial rfl rfl ?_;refine Qf4 (Zp hW41.bel (Qb hkB32.out 2 _ rfl)) trivial rfl rfl ?_;refine sm trivial rfl rfl ?_;refine Qgg hp3.out hlt3 trivial rfl rfl rfl ?_;refine sSE Tryz.underlying46 rfl (QK E3.out hW41.bel) infIns trivial rfl rfl ?_;refine Qi2 hW41 trivial rfl ?_;clear hW41;intro w47 B47 hW47 hN;clear hN;refine sT 0 hW47 rfl rfl infIns rfl rfl rfl ?_;clear hW47;intro w48 hW48;refine St.nil fun a49 h49=>?_;refine hK46 _ _ ?_;refine wp_seq_k fun K50 hK50=>?_;have hF51:Fr 110 a49 [(0,.agg #[.slice p m.length c]),(1,.pointer (some ⟨B2,0,none⟩)),(2,.pointer (some ⟨B3,0,none⟩)),(3,.pointer (some ⟨B6,0,none⟩)),(4,.int .i64 (q1:Int)),(5,.pointer (some ⟨B17,0,none⟩)),(6,.pointer (some ⟨BD6,0,none⟩)),(7,.int .i64 (q2:Int)),(8,.pointer (some ⟨B32,0,none⟩)),(9,.pointer (some ⟨BD9,0,none⟩)),(10,.int .i64 (q3:Int)),(11,.pointer (some ⟨B47,0,none⟩))]:=(h49.keep (h49.keep (h49.keep (h49.keep (h49.keep (h49.keep (h49.keep (h49.keep (h49.keep (h49.keep (h49.keep (h49.keep h49.nil (t:=11) rfl) (t:=10) rfl) (t:=9) rfl) (t:=8) rfl) (t:=7) rfl) (t:=6) rfl) (t:=5) rfl) (t:=4) rfl) (t:=3) rfl) (t:=2) rfl) (t:=1) rfl) (t:=0) rfl);have ho11:a49.tmps.getD 11 undef=.pointer (some ⟨B47,0,none⟩):=h49.sl 11 _ rfl;refine ZZ 7 ([(11,fun v _=>v=.pointer (some ⟨B47,0,none⟩)),(63,fun v _=>v=.pointer (some ⟨B47,6,none⟩)),(64,fun v _=>v=.slice i3.pR z.regs.length i3.cR),(65,fun v w'=>∃ p c,v=.slice p z.regs.length c∧intsC.In w' (Zm w48.heap.size) z.regs [.slice p z.regs.length c]),(66,fun v _=>v=.pointer (some ⟨B47,7,none⟩)),(67,fun v _=>v=.slice i3.pA z.args.length i3.cA),(68,fun v w'=>∃ p c,v=.slice p z.args.length c∧intsC.In w' (Zm w48.heap.size) z.args [.slice p z.args.length c]),(69,fun v _=>v=.pointer (some ⟨B47,6,none⟩))]:QaH) (fun w'=>Wd w41 w' [(B47,#[.int .i64 z.op,.int .i64 z.a,.int .i64 z.b,.int .i64 z.c,.int .i64 z.k,.int .i64 z.n,.slice i3.pR z.regs.length i3.cR,.slice i3.pA z.args.length i3.cA],46)]∧Below w48.heap.size w48 w') (fun w w'=>Below w.heap.size w w') (outs:=[11]) (gs:=[]) (bs:=[true,true,true,true,true,true,true]) (by kernel_rfl) hF51 rfl (by kernel_rfl) (by kernel_rfl) ?hR ?hG ⟨hW48.drewN 1,Q1 (m:=1) (Below.refl _ _)⟩ ⟨ho11,trivial⟩ ?hA ?hend
      case hR=>exact⟨fun _ _ _ _ h=>h,fun _ _ _ _ h=>h,fun _ _ _ _ h=>h,fun v w w' hr h=>by obtain⟨p,c,h1,h2⟩:=h;exact⟨p,c,h1,Lay.below h2 hr⟩,fun _ _ _ _ h=>h,fun _ _ _ _ h=>h,fun v w w' hr h=>by obtain⟨p,c,h1,h2⟩:=h;exact⟨p,c,h1,Lay.below h2 hr⟩,fun _ _ _ _ h=>h,trivial⟩
      case hG=>exact trivial
      case hA =>
       refine⟨fun a w hW hk K hK=>?_,?_⟩
       ·obtain⟨k0,-⟩:=hk
        have k0:a.tmps.getD 11 undef=.pointer (some ⟨B47,0,none⟩):=k0;go_simp;exact hK _ _ (Below.refl _ _) hW rfl
       refine⟨fun a w hW hk K hK=>?_,?_⟩
       ·obtain⟨k0,-⟩:=hk
        have k0:a.tmps.getD 63 undef=.pointer (some ⟨B47,6,none⟩):=k0;have c6:w.cell? ⟨B47,6,none⟩=some (.slice i3.pR z.regs.length i3.cR):=Qb (hW.1.get 0 rfl) 6 _ rfl;go_simp;exact hK _ _ (Below.refl _ _) hW rfl
       refine⟨fun a w hW hk K hK=>?_,?_⟩
       ·obtain⟨k0,-⟩:=hk
        have k0:a.tmps.getD 64 undef=.slice i3.pR z.regs.length i3.cR:=k0;go_simp;refine(QbJ _ _ _ w (Lay.below In3.out.regs hW.1.bel) (by have:=hs3.out.1;omega)).mono ?_
        rintro e w9 ⟨p9,c9,rfl,h9,hb⟩;exact hK _ _ hb ⟨hW.1.below hb,Below.andThen hW.2 hb⟩ ⟨p9,c9,rfl,Lay.mono h9 (fun k hk _=>Nat.le_trans hW.2.size hk)⟩
       refine⟨fun a w hW hk K hK=>?_,?_⟩
       ·obtain⟨k0,-⟩:=hk
        have k0:a.tmps.getD 11 undef=.pointer (some ⟨B47,0,none⟩):=k0;go_simp;exact hK _ _ (Below.refl _ _) hW rfl
       refine⟨fun a w hW hk K hK=>?_,?_⟩
       ·obtain⟨k0,-⟩:=hk
        have k0:a.tmps.getD 66 undef=.pointer (some ⟨B47,7,none⟩):=k0;have c7:w.cell? ⟨B47,7,none⟩=some (.slice i3.pA z.args.length i3.cA):=Qb (hW.1.get 0 rfl) 7 _ rfl;go_simp;exact hK _ _ (Below.refl _ _) hW rfl
       refine⟨fun a w hW hk K hK=>?_,?_⟩
       ·obtain⟨k0,-⟩:=hk
        have k0:a.tmps.getD 67 undef=.slice i3.pA z.args.length i3.cA:=k0;go_simp;refine(QbJ _ _ _ w (Lay.below In3.out.args hW.1.bel) (by have:=hs3.out.2;omega)).mono ?_
        rintro e w9 ⟨p9,c9,rfl,h9,hb⟩;exact hK _ _ hb ⟨hW.1.below hb,Below.andThen hW.2 hb⟩ ⟨p9,c9,rfl,Lay.mono h9 (fun k hk _=>Nat.le_trans hW.2.size hk)⟩
       refine⟨fun a w hW hk K hK=>?_,?_⟩
       ·obtain⟨k0,-⟩:=hk
        have k0:a.tmps.getD 11 undef=.pointer (some ⟨B47,0,none⟩):=k0;go_simp;exact hK _ _ (Below.refl _ _) hW rfl
       trivial
      case hend =>
       intro ops a52 w52 hWD hE hFD;obtain⟨p65,c65,hd65,hN65⟩:=hE 65 rfl
       replace hd65:a52.tmps.getD 65 undef=.slice p65 z.regs.length c65:=hd65;obtain⟨p68,c68,hd68,hN68⟩:=hE 68 rfl
       replace hd68:a52.tmps.getD 68 undef=.slice p68 z.args.length c68:=hd68;have hd69:a52.tmps.getD 69 undef=.pointer (some ⟨B47,6,none⟩):=hE 69 rfl;have hF52:Fr 110 a52 [(69,.pointer (some ⟨B47,6,none⟩)),(68,.slice p68 z.args.length c68),(65,.slice p65 z.regs.length c65),(0,.agg #[.slice p m.length c]),(1,.pointer (some ⟨B2,0,none⟩)),(2,.pointer (some ⟨B3,0,none⟩)),(3,.pointer (some ⟨B6,0,none⟩)),(4,.int .i64 (q1:Int)),(5,.pointer (some ⟨B17,0,none⟩)),(6,.pointer (some ⟨BD6,0,none⟩)),(7,.int .i64 (q2:Int)),(8,.pointer (some ⟨B32,0,none⟩)),(9,.pointer (some ⟨BD9,0,none⟩)),(10,.int .i64 (q3:Int)),(11,.pointer (some ⟨B47,0,none⟩))]:=(((hFD.cons hd65).cons hd68).cons hd69);clear hd65 hd68 hd69;have hW52:Wd w41 w52 [(B47,#[.int .i64 z.op,.int .i64 z.a,.int .i64 z.b,.int .i64 z.c,.int .i64 z.k,.int .i64 z.n,.slice i3.pR z.regs.length i3.cR,.slice i3.pA z.args.length i3.cA],46)]:=hWD.1;have hsa3:w41.heap.size≤w48.heap.size:=hW48.bel.size;have hmB47:B47<w48.heap.size:=(hW48.get 0 rfl).lt;clear hFD hWD hE hF51 h49;clear hW48;refine St.go hF52 ?_;clear hF52 a52;refine s1k 0 inf1Ints hW52 rfl rfl rfl rfl rfl rfl ?_;intro w53 hKp hW53;replace hN65:=Lay.keep1 hN65 hKp hmB47;replace hN68:=Lay.keep1 hN68 hKp hmB47;clear hKp hW52;refine QeK trivial rfl rfl ?_;refine s1k 0 inf1Ints hW53 rfl rfl rfl rfl rfl rfl ?_;intro w54 hKp hW54;replace hN65:=Lay.keep1 hN65 hKp hmB47;replace hN68:=Lay.keep1 hN68 hKp hmB47;clear hKp hW53;refine St.nil fun a55 h55=>?_;refine hK50 _ _ ?_;refine rg h55 fun ops=>?_;clear h55 a55;refine ZQ trivial rfl rfl ?_;refine Qf4 (Zp hW54.bel (Qb hkBD9.out 2 _ rfl)) trivial rfl rfl ?_;refine sS 0 8 Tryz.underlying46 rfl infIns hW54 trivial rfl rfl rfl rfl ?_;intro a56 h56;refine Qer (t:=74) #[.int .i64 z.op,.int .i64 z.a,.int .i64 z.b,.int .i64 z.c,.int .i64 z.k,.int .i64 z.n,.slice p65 z.regs.length c65,.slice p68 z.args.length c68] 46 1 h56 hW54 rfl rfl rfl (fun K hK=>?_) ?_
       ·have k0:a56.tmps[73]?.getD undef=.agg #[.int .i64 z.op,.int .i64 z.a,.int .i64 z.b,.int .i64 z.c,.int .i64 z.k,.int .i64 z.n,.slice p65 z.regs.length c65,.slice p68 z.args.length c68]:=h56.sl2 73 _ rfl
        go_simp;exact hK
       clear h56 hW54;intro a57 w58 B58 hW58 hN hF57;replace hN65:=Lay.below hN65 hN.bel;replace hN68:=Lay.below hN68 hN.bel;clear hN;refine St.go hF57 ?_;clear hF57 a57;have hI9:insC.In w58 (Zm w41.heap.size) z [.int .i64 z.op,.int .i64 z.a,.int .i64 z.b,.int .i64 z.c,.int .i64 z.k,.int .i64 z.n,.slice p65 z.regs.length c65,.slice p68 z.args.length c68]:=ZV (x:=z) (Lay.mono hN65 (fun k hk _=>Nat.le_trans hsa3 hk)) (Lay.mono hN68 (fun k hk _=>Nat.le_trans hsa3 hk)) In3.out.bnd;have hAx:=hA3.out.below hW58.bel;have hzx:w37.heap.size≤w58.heap.size:=Nat.le_trans hz3 hW58.bel.size;have hKx:=QV.below hK3.out hW58.bel hz3;refine Qj9 underIns hiI hzI0 hzI1 hzI2 rfl (by decide) rfl (hWo3.below hW58.bel) hlo3 (Qlu hlBD9 hlB32) hA3.out hW58.bel hz3 (hW58.get 0 rfl) hI9 rfl (by rw[List.length_take];omega) (by decide) rfl rfl rfl ?_;intro g59 cp59 w59 hA9 hgr hW59;have hK9:=hKx.grown hgr hzx (fun k hk=>(hAx.lo_le hk).1);clear hAx hzx hKx hgr hI9 hW58;refine ZQ trivial rfl rfl ?_;refine s1k 0 inf1Inss hW59 rfl rfl rfl rfl rfl rfl ?_;intro w60 hKp hW60;replace hA9:=QaR.keep1 hA9 hKp hlBD9;replace hK9:=QV.keep1t hK9 hKp hlBD9;clear hKp hW59;refine St.nil fun a61 h61=>?_;refine hK45 _ _ ?_;refine rg h61 fun ops=>?_;clear h61 a61;refine sm trivial rfl rfl ?_;refine sad (by omega) trivial rfl rfl rfl ?_;refine sa trivial rfl rfl ?_;refine St.nil fun a62 h62=>?_;have hA8:=hA9.next hx3.out
       exact hKL3 _ _ (y.code.length - (q3+1)) (by omega) ⟨q3+1,by omega,rfl,_,_,hA8,hK9,Nat.le_of_lt (Nat.lt_of_le_of_lt (hA8.lo_le (g:=g59) rfl).1 (hA8.lo_le (g:=g59) rfl).2),(h62.keep (h62.keep (h62.keep (h62.keep (h62.keep (h62.keep (h62.keep (h62.keep (h62.keep (h62.keep (h62.keep h62.nil (t:=10) rfl) (t:=9) rfl) (t:=8) rfl) (t:=7) rfl) (t:=6) rfl) (t:=5) rfl) (t:=4) rfl) (t:=3) rfl) (t:=2) rfl) (t:=1) rfl) (t:=0) rfl),hW60⟩
     have hge3:q3=y.code.length:=by have:=of_decide_eq_false hb;omega
     clear hb hW41;have hAx:=hA3.out.full hge3;obtain⟨pL3,cL3,hv9⟩:=hAx.form
     subst hv9;have hL3:=hAx.lay;clear hAx;replace hL3:=Lay.mono hL3 (O':=fun k=>w26.heap.size≤k∧k≠BD9∧w37.heap.size≤k∧k<w41.heap.size) (fun k hk hl=>⟨by have h9:w37.heap.size≤k:=hk;omega,by have h9:w37.heap.size≤k:=hk;omega,hk,hl⟩);replace hN49:=Lay.keepBut hN49 hK3.out (O':=fun k=>w26.heap.size≤k∧k≠BD9∧k<w37.heap.size) (fun k hk _=>⟨hk.2.1,hk.2.2⟩) (fun k hk _=>⟨Nat.le_trans hsd3 hk.1,hk.2.2,hk.2.1⟩);refine wp_exit ?_;refine hK38 _ _ ?_;refine wp_seq_k fun K63 hK63=>?_;have hF64:Fr 110 a44 [(0,.agg #[.slice p m.length c]),(1,.pointer (some ⟨B2,0,none⟩)),(2,.pointer (some ⟨B3,0,none⟩)),(3,.pointer (some ⟨B6,0,none⟩)),(4,.int .i64 (q1:Int)),(5,.pointer (some ⟨B17,0,none⟩)),(6,.pointer (some ⟨BD6,0,none⟩)),(7,.int .i64 (q2:Int)),(8,.pointer (some ⟨B32,0,none⟩)),(9,.pointer (some ⟨BD9,0,none⟩)),(10,.int .i64 (q3:Int))]:=(h44.keep (h44.keep (h44.keep (h44.keep (h44.keep (h44.keep (h44.keep (h44.keep (h44.keep (h44.keep (h44.keep h44.nil (t:=10) rfl) (t:=9) rfl) (t:=8) rfl) (t:=7) rfl) (t:=6) rfl) (t:=5) rfl) (t:=4) rfl) (t:=3) rfl) (t:=2) rfl) (t:=1) rfl) (t:=0) rfl);have ho8:a44.tmps.getD 8 undef=.pointer (some ⟨B32,0,none⟩):=h44.sl 8 _ rfl;have ho9:a44.tmps.getD 9 undef=.pointer (some ⟨BD9,0,none⟩):=h44.sl 9 _ rfl;refine ZZ 20 ([(8,fun v _=>v=.pointer (some ⟨B32,0,none⟩)),(9,fun v _=>v=.pointer (some ⟨BD9,0,none⟩)),(77,fun v _=>v=.pointer (some ⟨B32,3,none⟩)),(78,fun v _=>v=.pointer (some ⟨B32,3,none⟩)),(79,fun v _=>v=.int .i64 y.fin.op),(80,fun v _=>v=.pointer (some ⟨B32,3,none⟩)),(81,fun v _=>v=.pointer (some ⟨B32,4,none⟩)),(82,fun v _=>v=.int .i64 y.fin.a),(83,fun v _=>v=.pointer (some ⟨B32,3,none⟩)),(84,fun v _=>v=.pointer (some ⟨B32,5,none⟩)),(85,fun v _=>v=.agg #[.int .i64 y.fin.yes.block,.slice b2.e.pYR y.fin.yes.regs.length b2.e.cYR,.slice b2.e.pYA y.fin.yes.args.length b2.e.cYA]),(86,fun v w'=>∃ p c p2 c2,v=.agg #[.int .i64 y.fin.yes.block,.slice p y.fin.yes.regs.length c,.slice p2 y.fin.yes.args.length c2]∧Qc6 w' (Zm w41.heap.size) y.fin.yes p c p2 c2),(87,fun v _=>v=.pointer (some ⟨B32,3,none⟩)),(88,fun v _=>v=.pointer (some ⟨B32,8,none⟩)),(89,fun v _=>v=.agg #[.int .i64 y.fin.no.block,.slice b2.e.pNR y.fin.no.regs.length b2.e.cNR,.slice b2.e.pNA y.fin.no.args.length b2.e.cNA]),(90,fun v w'=>∃ p c p2 c2,v=.agg #[.int .i64 y.fin.no.block,.slice p y.fin.no.regs.length c,.slice p2 y.fin.no.args.length c2]∧Qc6 w' (Zm w41.heap.size) y.fin.no p c p2 c2),(91,fun v _=>v=.pointer (some ⟨B32,3,none⟩)),(92,fun v _=>v=.pointer (some ⟨B32,11,none⟩)),(93,fun v _=>v=.slice b2.e.pA y.fin.args.length b2.e.cA),(94,fun v w'=>∃ p c,v=.slice p y.fin.args.length c∧intsL.In w' (Zm w41.heap.size) y.fin.args [.slice p y.fin.args.length c]),(95,fun v w'=>∃ e:EP,v=.agg #[.int .i64 y.fin.op,.int .i64 y.fin.a,.int .i64 y.fin.yes.block,.slice e.pYR y.fin.yes.regs.length e.cYR,.slice e.pYA y.fin.yes.args.length e.cYA,.int .i64 y.fin.no.block,.slice e.pNR y.fin.no.regs.length e.cNR,.slice e.pNA y.fin.no.args.length e.cNA,.slice e.pA y.fin.args.length e.cA]∧EIn w' (Zm w41.heap.size) y.fin e),(96,fun v _=>v=.pointer (some ⟨BD9,3,none⟩))]:QaH) (fun w'=>Wd w26 w' [(BD9,#[.int .i64 y.regs,.slice p49 y.params.length c49,.slice pL3 y.code.length cL3,.int .i64 0,.int .i64 0,.int .i64 0,.slice none 0 0,.slice none 0 0,.int .i64 0,.slice none 0 0,.slice none 0 0,.slice none 0 0],60),(B32,#[.int .i64 y.regs,.slice b2.pP y.params.length b2.cP,.slice b2.pC y.code.length b2.cC,.int .i64 y.fin.op,.int .i64 y.fin.a,.int .i64 y.fin.yes.block,.slice b2.e.pYR y.fin.yes.regs.length b2.e.cYR,.slice b2.e.pYA y.fin.yes.args.length b2.e.cYA,.int .i64 y.fin.no.block,.slice b2.e.pNR y.fin.no.regs.length b2.e.cNR,.slice b2.e.pNA y.fin.no.args.length b2.e.cNA,.slice b2.e.pA y.fin.args.length b2.e.cA],60)]∧Below w41.heap.size w41 w') (fun w w'=>Below w.heap.size w w') (outs:=[8,9]) (gs:=[]) (bs:=[true,true,true,true,true,true,true,true,true,true,true,true,true,true,true,true,true,true,true,true]) (by kernel_rfl) hF64 rfl (by kernel_rfl) (by kernel_rfl) ?hR ?hG ⟨hWo3.drewN 1,Q1 (m:=1) (Below.refl _ _)⟩ ⟨ho8,ho9,trivial⟩ ?hA ?hend
     case hR=>exact⟨fun _ _ _ _ h=>h,fun _ _ _ _ h=>h,fun _ _ _ _ h=>h,fun _ _ _ _ h=>h,fun _ _ _ _ h=>h,fun _ _ _ _ h=>h,fun _ _ _ _ h=>h,fun _ _ _ _ h=>h,fun _ _ _ _ h=>h,fun _ _ _ _ h=>h,fun _ _ _ _ h=>h,fun v w w' hr h=>by obtain⟨p,c,p2,c2,h1,h2⟩:=h;exact⟨p,c,p2,c2,h1,h2.below hr⟩,fun _ _ _ _ h=>h,fun _ _ _ _ h=>h,fun _ _ _ _ h=>h,fun v w w' hr h=>by obtain⟨p,c,p2,c2,h1,h2⟩:=h;exact⟨p,c,p2,c2,h1,h2.below hr⟩,fun _ _ _ _ h=>h,fun _ _ _ _ h=>h,fun _ _ _ _ h=>h,fun v w w' hr h=>by obtain⟨p,c,h1,h2⟩:=h;exact⟨p,c,h1,Lay.below h2 hr⟩,fun v w w' hr h=>by obtain⟨e,h1,h2⟩:=h;exact⟨e,h1,h2.below hr⟩,fun _ _ _ _ h=>h,trivial⟩
     case hG=>exact trivial
     case hA =>
      refine⟨fun a w hW hk K hK=>?_,?_⟩
      ·obtain⟨k0,-⟩:=hk
       have k0:a.tmps.getD 8 undef=.pointer (some ⟨B32,0,none⟩):=k0;go_simp;exact hK _ _ (Below.refl _ _) hW rfl
      refine⟨fun a w hW hk K hK=>?_,?_⟩
      ·obtain⟨k0,-⟩:=hk
       have k0:a.tmps.getD 77 undef=.pointer (some ⟨B32,3,none⟩):=k0;go_simp;exact hK _ _ (Below.refl _ _) hW rfl
      refine⟨fun a w hW hk K hK=>?_,?_⟩
      ·obtain⟨k0,-⟩:=hk
       have k0:a.tmps.getD 78 undef=.pointer (some ⟨B32,3,none⟩):=k0;have c3:w.cell? ⟨B32,3,none⟩=some (.int .i64 y.fin.op):=Qb (hW.1.get 1 rfl) 3 _ rfl;go_simp;exact hK _ _ (Below.refl _ _) hW rfl
      refine⟨fun a w hW hk K hK=>?_,?_⟩
      ·obtain⟨k0,-⟩:=hk
       have k0:a.tmps.getD 8 undef=.pointer (some ⟨B32,0,none⟩):=k0;go_simp;exact hK _ _ (Below.refl _ _) hW rfl
      refine⟨fun a w hW hk K hK=>?_,?_⟩
      ·obtain⟨k0,-⟩:=hk
       have k0:a.tmps.getD 80 undef=.pointer (some ⟨B32,3,none⟩):=k0;go_simp;exact hK _ _ (Below.refl _ _) hW rfl
      refine⟨fun a w hW hk K hK=>?_,?_⟩
      ·obtain⟨k0,-⟩:=hk
       have k0:a.tmps.getD 81 undef=.pointer (some ⟨B32,4,none⟩):=k0;have c4:w.cell? ⟨B32,4,none⟩=some (.int .i64 y.fin.a):=Qb (hW.1.get 1 rfl) 4 _ rfl;go_simp;exact hK _ _ (Below.refl _ _) hW rfl
      refine⟨fun a w hW hk K hK=>?_,?_⟩
      ·obtain⟨k0,-⟩:=hk
       have k0:a.tmps.getD 8 undef=.pointer (some ⟨B32,0,none⟩):=k0;go_simp;exact hK _ _ (Below.refl _ _) hW rfl
      refine⟨fun a w hW hk K hK=>?_,?_⟩
      ·obtain⟨k0,-⟩:=hk
       have k0:a.tmps.getD 83 undef=.pointer (some ⟨B32,3,none⟩):=k0;go_simp;exact hK _ _ (Below.refl _ _) hW rfl
      refine⟨fun a w hW hk K hK=>?_,?_⟩
      ·obtain⟨k0,-⟩:=hk
       have k0:a.tmps.getD 84 undef=.pointer (some ⟨B32,5,none⟩):=k0;have c5:w.cell? ⟨B32,5,none⟩=some (.int .i64 y.fin.yes.block):=Qb (hW.1.get 1 rfl) 5 _ rfl;have c6:w.cell? ⟨B32,6,none⟩=some (.slice b2.e.pYR y.fin.yes.regs.length b2.e.cYR):=Qb (hW.1.get 1 rfl) 6 _ rfl;have c7:w.cell? ⟨B32,7,none⟩=some (.slice b2.e.pYA y.fin.yes.args.length b2.e.cYA):=Qb (hW.1.get 1 rfl) 7 _ rfl;go_simp;exact hK _ _ (Below.refl _ _) hW rfl
      refine⟨fun a w hW hk K hK=>?_,?_⟩
      ·obtain⟨k0,-⟩:=hk
       have k0:a.tmps.getD 85 undef=.agg #[.int .i64 y.fin.yes.block,.slice b2.e.pYR y.fin.yes.regs.length b2.e.cYR,.slice b2.e.pYA y.fin.yes.args.length b2.e.cYA]:=k0;go_simp;refine(Qdy _ _ _ _ _ w (In2.out.fin.yes.below hW.1.bel) (by have:=hs2.out.2.2.1.1.1;omega) (by have:=hs2.out.2.2.1.1.2;omega)).mono ?_
       rintro e w9 ⟨p9,c9,p8,c8,rfl,h9,hb⟩;exact hK _ _ hb ⟨hW.1.below hb,Below.andThen hW.2 hb⟩ ⟨p9,c9,p8,c8,rfl,h9.mono (fun k hk _=>Nat.le_trans hW.2.size hk)⟩
      refine⟨fun a w hW hk K hK=>?_,?_⟩
      ·obtain⟨k0,-⟩:=hk
       have k0:a.tmps.getD 8 undef=.pointer (some ⟨B32,0,none⟩):=k0;go_simp;exact hK _ _ (Below.refl _ _) hW rfl
      refine⟨fun a w hW hk K hK=>?_,?_⟩
      ·obtain⟨k0,-⟩:=hk
       have k0:a.tmps.getD 87 undef=.pointer (some ⟨B32,3,none⟩):=k0;go_simp;exact hK _ _ (Below.refl _ _) hW rfl
      refine⟨fun a w hW hk K hK=>?_,?_⟩
      ·obtain⟨k0,-⟩:=hk
       have k0:a.tmps.getD 88 undef=.pointer (some ⟨B32,8,none⟩):=k0;have c8:w.cell? ⟨B32,8,none⟩=some (.int .i64 y.fin.no.block):=Qb (hW.1.get 1 rfl) 8 _ rfl;have c9:w.cell? ⟨B32,9,none⟩=some (.slice b2.e.pNR y.fin.no.regs.length b2.e.cNR):=Qb (hW.1.get 1 rfl) 9 _ rfl;have c10:w.cell? ⟨B32,10,none⟩=some (.slice b2.e.pNA y.fin.no.args.length b2.e.cNA):=Qb (hW.1.get 1 rfl) 10 _ rfl;go_simp;exact hK _ _ (Below.refl _ _) hW rfl
      refine⟨fun a w hW hk K hK=>?_,?_⟩
      ·obtain⟨k0,-⟩:=hk
       have k0:a.tmps.getD 89 undef=.agg #[.int .i64 y.fin.no.block,.slice b2.e.pNR y.fin.no.regs.length b2.e.cNR,.slice b2.e.pNA y.fin.no.args.length b2.e.cNA]:=k0;go_simp;refine(Qdy _ _ _ _ _ w (In2.out.fin.no.below hW.1.bel) (by have:=hs2.out.2.2.1.2.1.1;omega) (by have:=hs2.out.2.2.1.2.1.2;omega)).mono ?_
       rintro e w9 ⟨p9,c9,p8,c8,rfl,h9,hb⟩;exact hK _ _ hb ⟨hW.1.below hb,Below.andThen hW.2 hb⟩ ⟨p9,c9,p8,c8,rfl,h9.mono (fun k hk _=>Nat.le_trans hW.2.size hk)⟩
      refine⟨fun a w hW hk K hK=>?_,?_⟩
      ·obtain⟨k0,-⟩:=hk
       have k0:a.tmps.getD 8 undef=.pointer (some ⟨B32,0,none⟩):=k0;go_simp;exact hK _ _ (Below.refl _ _) hW rfl
      refine⟨fun a w hW hk K hK=>?_,?_⟩
      ·obtain⟨k0,-⟩:=hk
       have k0:a.tmps.getD 91 undef=.pointer (some ⟨B32,3,none⟩):=k0;go_simp;exact hK _ _ (Below.refl _ _) hW rfl
      refine⟨fun a w hW hk K hK=>?_,?_⟩
      ·obtain⟨k0,-⟩:=hk
       have k0:a.tmps.getD 92 undef=.pointer (some ⟨B32,11,none⟩):=k0;have c11:w.cell? ⟨B32,11,none⟩=some (.slice b2.e.pA y.fin.args.length b2.e.cA):=Qb (hW.1.get 1 rfl) 11 _ rfl;go_simp;exact hK _ _ (Below.refl _ _) hW rfl
      refine⟨fun a w hW hk K hK=>?_,?_⟩
      ·obtain⟨k0,-⟩:=hk
       have k0:a.tmps.getD 93 undef=.slice b2.e.pA y.fin.args.length b2.e.cA:=k0;go_simp;refine(QaM _ _ _ w (Lay.below In2.out.fin.args hW.1.bel) (by have:=hs2.out.2.2.1.2.2;omega)).mono ?_
       rintro e w9 ⟨p9,c9,rfl,h9,hb⟩;exact hK _ _ hb ⟨hW.1.below hb,Below.andThen hW.2 hb⟩ ⟨p9,c9,rfl,Lay.mono h9 (fun k hk _=>Nat.le_trans hW.2.size hk)⟩
      refine⟨fun a w hW hk K hK=>?_,?_⟩
      ·obtain⟨k0,k1,k2,k3,k4,-⟩:=hk
       have k0:a.tmps[79]?.getD undef=.int .i64 y.fin.op:=by rw[← Array.getD_eq_getD_getElem?];exact k0
       have k1:a.tmps[82]?.getD undef=.int .i64 y.fin.a:=by rw[← Array.getD_eq_getD_getElem?];exact k1
       obtain⟨r86,rc86,a86x,ac86,k2,hT86⟩:=k2
       have k2:a.tmps[86]?.getD undef=.agg #[.int .i64 y.fin.yes.block,.slice r86 y.fin.yes.regs.length rc86,.slice a86x y.fin.yes.args.length ac86]:=by rw[← Array.getD_eq_getD_getElem?];exact k2
       obtain⟨r90,rc90,a90x,ac90,k3,hT90⟩:=k3
       have k3:a.tmps[90]?.getD undef=.agg #[.int .i64 y.fin.no.block,.slice r90 y.fin.no.regs.length rc90,.slice a90x y.fin.no.args.length ac90]:=by rw[← Array.getD_eq_getD_getElem?];exact k3
       obtain⟨p94,c94,k4,hN94⟩:=k4
       have k4:a.tmps[94]?.getD undef=.slice p94 y.fin.args.length c94:=by rw[← Array.getD_eq_getD_getElem?];exact k4
       go_simp;exact hK _ _ (Below.refl _ _) hW ⟨⟨r86,rc86,a86x,ac86,r90,rc90,a90x,ac90,p94,c94⟩,rfl,⟨hT86,hT90,hN94,In2.out.fin.bnd⟩⟩
      refine⟨fun a w hW hk K hK=>?_,?_⟩
      ·obtain⟨k0,-⟩:=hk
       have k0:a.tmps.getD 9 undef=.pointer (some ⟨BD9,0,none⟩):=k0;go_simp;exact hK _ _ (Below.refl _ _) hW rfl
      trivial
     case hend =>
      intro ops a65 w65 hWD hE hFD;obtain⟨e95,hd95,hE95⟩:=hE 95 rfl
      replace hd95:a65.tmps.getD 95 undef=.agg #[.int .i64 y.fin.op,.int .i64 y.fin.a,.int .i64 y.fin.yes.block,.slice e95.pYR y.fin.yes.regs.length e95.cYR,.slice e95.pYA y.fin.yes.args.length e95.cYA,.int .i64 y.fin.no.block,.slice e95.pNR y.fin.no.regs.length e95.cNR,.slice e95.pNA y.fin.no.args.length e95.cNA,.slice e95.pA y.fin.args.length e95.cA]:=hd95;have hd96:a65.tmps.getD 96 undef=.pointer (some ⟨BD9,3,none⟩):=hE 96 rfl;have hF65:Fr 110 a65 [(96,.pointer (some ⟨BD9,3,none⟩)),(95,.agg #[.int .i64 y.fin.op,.int .i64 y.fin.a,.int .i64 y.fin.yes.block,.slice e95.pYR y.fin.yes.regs.length e95.cYR,.slice e95.pYA y.fin.yes.args.length e95.cYA,.int .i64 y.fin.no.block,.slice e95.pNR y.fin.no.regs.length e95.cNR,.slice e95.pNA y.fin.no.args.length e95.cNA,.slice e95.pA y.fin.args.length e95.cA]),(0,.agg #[.slice p m.length c]),(1,.pointer (some ⟨B2,0,none⟩)),(2,.pointer (some ⟨B3,0,none⟩)),(3,.pointer (some ⟨B6,0,none⟩)),(4,.int .i64 (q1:Int)),(5,.pointer (some ⟨B17,0,none⟩)),(6,.pointer (some ⟨BD6,0,none⟩)),(7,.int .i64 (q2:Int)),(8,.pointer (some ⟨B32,0,none⟩)),(9,.pointer (some ⟨BD9,0,none⟩)),(10,.int .i64 (q3:Int))]:=((hFD.cons hd95).cons hd96);clear hd95 hd96;have hW65:Wd w26 w65 [(BD9,#[.int .i64 y.regs,.slice p49 y.params.length c49,.slice pL3 y.code.length cL3,.int .i64 0,.int .i64 0,.int .i64 0,.slice none 0 0,.slice none 0 0,.int .i64 0,.slice none 0 0,.slice none 0 0,.slice none 0 0],60),(B32,#[.int .i64 y.regs,.slice b2.pP y.params.length b2.cP,.slice b2.pC y.code.length b2.cC,.int .i64 y.fin.op,.int .i64 y.fin.a,.int .i64 y.fin.yes.block,.slice b2.e.pYR y.fin.yes.regs.length b2.e.cYR,.slice b2.e.pYA y.fin.yes.args.length b2.e.cYA,.int .i64 y.fin.no.block,.slice b2.e.pNR y.fin.no.regs.length b2.e.cNR,.slice b2.e.pNA y.fin.no.args.length b2.e.cNA,.slice b2.e.pA y.fin.args.length b2.e.cA],60)]:=hWD.1;have hsa2:w26.heap.size≤w41.heap.size:=hWo3.bel.size;have hmBD9:BD9<w41.heap.size:=(hWo3.get 0 rfl).lt;have hmB32:B32<w41.heap.size:=(hWo3.get 1 rfl).lt;replace hN49:=Lay.below hN49 hWD.2;replace hL3:=Lay.below hL3 hWD.2;clear hFD hWD hE hF64 h44;clear hWo3;refine St.go hF65 ?_;clear hF65 a65;refine sTk 0 hW65 rfl rfl infEnd rfl rfl rfl ?_;intro w66 hKp hW66;replace hN49:=Lay.keepNe hN49 hKp (fun k hk=>hk.2.1);replace hL3:=Lay.keepNe hL3 hKp (fun k hk=>hk.2.1);replace hE95:=EIn.keep1 hE95 hKp hmBD9;clear hKp hW65;refine St.nil fun a67 h67=>?_;refine hK63 _ _ ?_;refine rg h67 fun ops=>?_;clear h67 a67;refine Qbd trivial rfl rfl ?_;refine Qcn (Zp hW66.bel (Qb hkBD6.out 3 _ rfl)) trivial rfl rfl ?_;refine sS 0 12 Tryz.underlying60 rfl infBlock hW66 trivial rfl rfl rfl rfl ?_;intro a68 h68;refine Qer (t:=100) #[.int .i64 y.regs,.slice p49 y.params.length c49,.slice pL3 y.code.length cL3,.int .i64 y.fin.op,.int .i64 y.fin.a,.int .i64 y.fin.yes.block,.slice e95.pYR y.fin.yes.regs.length e95.cYR,.slice e95.pYA y.fin.yes.args.length e95.cYA,.int .i64 y.fin.no.block,.slice e95.pNR y.fin.no.regs.length e95.cNR,.slice e95.pNA y.fin.no.args.length e95.cNA,.slice e95.pA y.fin.args.length e95.cA] 60 1 h68 hW66 rfl rfl rfl (fun K hK=>?_) ?_
      ·have k0:a68.tmps[99]?.getD undef=.agg #[.int .i64 y.regs,.slice p49 y.params.length c49,.slice pL3 y.code.length cL3,.int .i64 y.fin.op,.int .i64 y.fin.a,.int .i64 y.fin.yes.block,.slice e95.pYR y.fin.yes.regs.length e95.cYR,.slice e95.pYA y.fin.yes.args.length e95.cYA,.int .i64 y.fin.no.block,.slice e95.pNR y.fin.no.regs.length e95.cNR,.slice e95.pNA y.fin.no.args.length e95.cNA,.slice e95.pA y.fin.args.length e95.cA]:=h68.sl2 99 _ rfl
       go_simp;exact hK
      clear h68 hW66;intro a69 w70 B70 hW70 hN hF69;replace hN49:=Lay.below hN49 hN.bel;replace hL3:=Lay.below hL3 hN.bel;replace hE95:=EIn.below hE95 hN.bel;clear hN;refine St.go hF69 ?_;clear hF69 a69;have hI9:(Qcc n).In w70 (Zm w26.heap.size) y [.int .i64 y.regs,.slice p49 y.params.length c49,.slice pL3 y.code.length cL3,.int .i64 y.fin.op,.int .i64 y.fin.a,.int .i64 y.fin.yes.block,.slice e95.pYR y.fin.yes.regs.length e95.cYR,.slice e95.pYA y.fin.yes.args.length e95.cYA,.int .i64 y.fin.no.block,.slice e95.pNR y.fin.no.regs.length e95.cNR,.slice e95.pNA y.fin.no.args.length e95.cNA,.slice e95.pA y.fin.args.length e95.cA]:=Qfc (x:=y) (t1:=w37.heap.size) (t2:=w41.heap.size) hz3 (Lay.mono hN49 (fun k hk _=>⟨hk.1,hk.2.2⟩)) (Lay.mono hL3 (fun k hk _=>⟨hk.1,hk.2.2⟩)) (EIn.mono hE95 (fun k hk _=>⟨Nat.le_trans hsa2 hk,hk⟩)) In2.out.bnd;have hAx:=hA2.out.below hW70.bel;have hzx:w22.heap.size≤w70.heap.size:=Nat.le_trans hz2 hW70.bel.size;have hKx:=QV.below hK2.out hW70.bel hz2;refine Qj9 underBlocks hiB hzB0 hzB1 hzB2 rfl (by decide) rfl (hWo2.below hW70.bel) hlo2 (Qlu hlBD6 hlB17) hA2.out hW70.bel hz2 (hW70.get 0 rfl) hI9 rfl (by rw[List.length_take];omega) (by decide) rfl rfl rfl ?_;intro g71 cp71 w71 hA9 hgr hW71;have hK9:=hKx.grown hgr hzx (fun k hk=>(hAx.lo_le hk).1);clear hAx hzx hKx hgr hI9 hW70;refine Qbd trivial rfl rfl ?_;refine s1k 0 inf1Blocks hW71 rfl rfl rfl rfl rfl rfl ?_;intro w72 hKp hW72;replace hA9:=QaR.keep1 hA9 hKp hlBD6;replace hK9:=QV.keep1t hK9 hKp hlBD6;clear hKp hW71;refine St.nil fun a73 h73=>?_;refine hK30 _ _ ?_;refine rg h73 fun ops=>?_;clear h73 a73;refine sm trivial rfl rfl ?_;refine sad (by omega) trivial rfl rfl rfl ?_;refine sa trivial rfl rfl ?_;refine St.nil fun a74 h74=>?_;have hA8:=hA9.next hx2.out
      exact hKL2 _ _ (x.blocks.length - (q2+1)) (by omega) ⟨q2+1,by omega,rfl,_,_,hA8,hK9,Nat.le_of_lt (Nat.lt_of_le_of_lt (hA8.lo_le (g:=g71) rfl).1 (hA8.lo_le (g:=g71) rfl).2),(h74.keep (h74.keep (h74.keep (h74.keep (h74.keep (h74.keep (h74.keep (h74.keep h74.nil (t:=7) rfl) (t:=6) rfl) (t:=5) rfl) (t:=4) rfl) (t:=3) rfl) (t:=2) rfl) (t:=1) rfl) (t:=0) rfl),hW72⟩
   have hge2:q2=x.blocks.length:=by have:=of_decide_eq_false hb;omega
   clear hb hW26;have hAx:=hA2.out.full hge2;obtain⟨pL2,cL2,hv9⟩:=hAx.form
   subst hv9;have hL2:=hAx.lay;clear hAx;replace hL2:=Lay.mono hL2 (O':=fun k=>w11.heap.size≤k∧k≠BD6∧w22.heap.size≤k) (fun k hk _=>⟨by have h9:w22.heap.size≤k:=hk;omega,by have h9:w22.heap.size≤k:=hk;omega,hk⟩);replace hN28:=Lay.keepBut hN28 hK2.out (O':=fun k=>w11.heap.size≤k∧k≠BD6∧k<w22.heap.size) (fun k hk _=>⟨hk.2.1,hk.2.2⟩) (fun k hk _=>⟨Nat.le_trans hsd2 hk.1,hk.2.2,hk.2.1⟩);replace hN31:=Lay.keepBut hN31 hK2.out (O':=fun k=>w11.heap.size≤k∧k≠BD6∧k<w22.heap.size) (fun k hk _=>⟨hk.2.1,hk.2.2⟩) (fun k hk _=>⟨Nat.le_trans hsd2 hk.1,hk.2.2,hk.2.1⟩);refine wp_exit ?_;refine hK23 _ _ ?_;refine rg h29 fun ops=>?_;clear h29 a29;refine ZF trivial rfl rfl ?_;refine QdL (Zp hWo2.bel (Qb hkB6.out 0 _ rfl)) trivial rfl rfl ?_;refine sS 0 4 Tryz.underlying40 rfl infFunc hWo2 trivial rfl rfl rfl rfl ?_;intro a75 h75;refine Qer (t:=106) #[.int .i64 x.regs,.slice p28 x.params.length c28,.slice p31 x.results.length c31,.slice pL2 x.blocks.length cL2] 40 1 h75 hWo2 rfl rfl rfl (fun K hK=>?_) ?_
   ·have k0:a75.tmps[105]?.getD undef=.agg #[.int .i64 x.regs,.slice p28 x.params.length c28,.slice p31 x.results.length c31,.slice pL2 x.blocks.length cL2]:=h75.sl2 105 _ rfl
    go_simp;exact hK
   clear h75 hWo2;intro a76 w77 B77 hW77 hN hF76;replace hN28:=Lay.below hN28 hN.bel;replace hN31:=Lay.below hN31 hN.bel;replace hL2:=Lay.below hL2 hN.bel;clear hN;refine St.go hF76 ?_;clear hF76 a76;have hI9:(Qfr n).In w77 (Zm w11.heap.size) x [.int .i64 x.regs,.slice p28 x.params.length c28,.slice p31 x.results.length c31,.slice pL2 x.blocks.length cL2]:=QgS (x:=x) (t1:=w22.heap.size) (Lay.mono hN28 (fun k hk _=>⟨hk.1,hk.2.2⟩)) (Lay.mono hN31 (fun k hk _=>⟨hk.1,hk.2.2⟩)) (Lay.mono hL2 (fun k hk _=>⟨hk.1,hk.2.2⟩)) In1.out.bnd;have hAx:=hA1.out.below hW77.bel;have hzx:w6.heap.size≤w77.heap.size:=Nat.le_trans hz1 hW77.bel.size;have hKx:=QV.below hK1.out hW77.bel hz1;refine Qj9 underFuncs hiF hzF0 hzF1 hzF2 rfl (by decide) rfl (hWo1.below hW77.bel) hlo1 (QlW hlB6 hlB3 hlB2) hA1.out hW77.bel hz1 (hW77.get 0 rfl) hI9 rfl (by rw[List.length_take];omega) (by decide) rfl rfl rfl ?_;intro g78 cp78 w78 hA9 hgr hW78;have hK9:=hKx.grown hgr hzx (fun k hk=>(hAx.lo_le hk).1);clear hAx hzx hKx hgr hI9 hW77;refine ZF trivial rfl rfl ?_;refine s1k 0 inf1Funcs hW78 rfl rfl rfl rfl rfl rfl ?_;intro w79 hKp hW79;replace hA9:=QaR.keep1 hA9 hKp hlB6;replace hK9:=QV.keep1t hK9 hKp hlB6;clear hKp hW78;refine St.nil fun a80 h80=>?_;refine hK15 _ _ ?_;refine rg h80 fun ops=>?_;clear h80 a80;refine sm trivial rfl rfl ?_;refine sad (by omega) trivial rfl rfl rfl ?_;refine sa trivial rfl rfl ?_;refine St.nil fun a81 h81=>?_;have hA8:=hA9.next hx1.out
   exact hKL1 _ _ (m.length - (q1+1)) (by omega) ⟨q1+1,by omega,rfl,_,_,hA8,hK9,Nat.le_of_lt (Nat.lt_of_le_of_lt (hA8.lo_le (g:=g78) rfl).1 (hA8.lo_le (g:=g78) rfl).2),(h81.keep (h81.keep (h81.keep (h81.keep (h81.keep h81.nil (t:=4) rfl) (t:=3) rfl) (t:=2) rfl) (t:=1) rfl) (t:=0) rfl),hW79⟩
 have hge1:q1=m.length:=by have:=of_decide_eq_false hb;omega
 clear hb hW11;have hAx:=hA1.out.full hge1;obtain⟨pL1,cL1,hv9⟩:=hAx.form
 subst hv9;have hL1:=hAx.lay;clear hAx;refine wp_exit ?_;refine hK8 _ _ ?_;refine wp_seq_k fun K82 hK82=>?_;refine rg h14 fun ops=>?_;clear h14 a14;refine sS 0 1 Tryz.underlying24 rfl infModule hWo1 trivial rfl rfl rfl rfl ?_;refine sTk 1 hWo1 rfl rfl infModule rfl rfl rfl ?_;intro w83 hKp hW83;replace hL1:=Lay.keep1 hL1 hKp hlB3;clear hKp hWo1;refine St.nil fun a84 h84=>?_;refine hK82 _ _ ?_;refine wp_ret ?_;with_reducible repeat first | refine Qd ?_ | refine Qc ?_
 exact QN 1 h84 hW83 rfl rfl rfl Tryz.underlying24 rfl infModule ⟨_,rfl,⟨pL1,cL1,rfl,Lay.mono hL1 (fun k hk _=>Nat.le_trans hlo1 hk)⟩,hW83.bel⟩
def KTo (wA w:World) (b:Nat) (O:Nat→Prop) (s:JSt):Prop:=∃ O',KAt w b O' s∧Zj O O' wA w∧∀ k,O' k→k<w.heap.size
section
variable {w w9 wA:World}{b:Nat}{O:Nat→Prop}{L:List Bool}{s:JSt}
theorem QR.keep2 {O':Nat→Prop}(h:QR w b O L) (hb:∀ (g:Nat) (c:Array Value) (t:TypeId),w.heap[g]?=some (Obj.cells c t (0,0))→t=119∨t=4→w9.heap[g]?=w.heap[g]?) (hO:∀ g,O g→O' g):QR w9 b O' L:=by
 obtain⟨v,h1,h2,h3⟩:=h
 exact⟨v,(hb b _ _ h1 (.inl rfl)).trans h1,h2.keep (fun g hg=>by obtain⟨c,hc⟩:=h2.block hg;exact hb g _ _ hc (.inr rfl)) (fun g hg=>hO g (h2.2 g hg)),hO b h3⟩
theorem KAt.setH (hO:∀ k,O k→k<wA.heap.size) (h:KAt wA b O s):∃ hh a cap,wA.cell? ⟨b,5,none⟩=some (.pointer (some ⟨hh,0,none⟩))∧wA.cell? ⟨hh,0,none⟩=some (.slice a s.H.length cap) ∧
 ∀ i,i<s.H.length→∃ g,a=some ⟨g,0,none⟩∧(∃ u,wA.cell? ⟨g,i,none⟩=some (.bool u))∧wA.frozen? ⟨g,i,none⟩=false∧KTo wA (wA.setCell ⟨g,i,none⟩ (.bool false)) b O { s with H:=s.H.set i false }:=by
 obtain⟨pm,cm,a1,c1,a2,c2,a3,c3,hh,vL,k1,k2,k3,k4,k5,k6⟩:=h
 obtain⟨a,cap,e1,e2,e3,e4⟩:=k4.cells
 have hv:∀ g',(Value.slice a s.H.length cap).ownBlock=some g'→O g'∧∃ c,wA.heap[g']?=some (.cells c 4 (0,0)):=by
  obtain⟨v,q1,q2,q3⟩:=id k4
  have e:=Qb q1 0 _ rfl;rw[e1] at e
  simp only[Option.some.injEq] at e
  subst e;exact fun g' hg'=>⟨q2.2 g' hg',q2.block hg'⟩
 refine⟨hh,a,cap,Qb k1 5 _ rfl,e1,fun i hi=>?_⟩
 obtain⟨g,rfl,hg,f1,f2,f3⟩:=e4 i hi
 obtain⟨c,hc⟩:=(hv g rfl).2
 have st:Zj O O wA (wA.setCell ⟨g,i,none⟩ (.bool false)):=⟨rfl,rfl,rfl,by simp,fun k hk hn=>Below.heap_setCell _ _ _ _ (fun e=>hn (by subst e;exact hg)),fun k hk=>.inl hk⟩;refine⟨g,rfl,⟨_,f1⟩,f2,O,⟨pm,cm,a1,c1,a2,c2,a3,c3,hh,vL,?_,(Qa5 6).keep (fun k hk hl=>st.block k hl hk) (fun k hk _=>hk) k2,(ZC 6).keep (fun k hk hl=>st.block k hl hk) (fun k hk _=>hk) k3,f3 false,k5.keep (fun k hl hk=>?_) (fun k hk=>?_) (fun k hk _=>hk),k6⟩,st,fun k hk=>by rw[World.size_setCell];exact hO k hk⟩
 ·rw[Below.heap_setCell _ _ _ _ (show b≠g from ZP k1 hc (by decide))];exact k1
 ·rcases hk with hk | hk
  ·obtain⟨c',hc'⟩:=k5.block hk
   exact Below.heap_setCell _ _ _ _ (show k≠g from ZP hc' hc (by decide))
  ·exact st.block k hl hk
 ·obtain⟨xs,q1,q2,q3⟩:=k5
  exact q2 k hk
theorem KAt.pushL (hO:∀ k,O k→k<wA.heap.size) (h:KAt wA b O s):∃ aL cL xs,wA.cell? ⟨b,6,none⟩=some (.slice aL s.L.length cL)∧wA.frozen? ⟨b,6,none⟩=false∧s.L.length≤cL∧wA.ownsRow 0 70 3 (.slice aL s.L.length cL) s.L.length xs ∧
 ∀ w9 g cap2 (l:List (TT 6)) ds,ds.length=l.length*3→w9.ownsRow 0 70 3 (.slice (some ⟨g,0,none⟩) (s.L.length+l.length) cap2) (s.L.length+l.length) (xs++ds)→wA.grownBy w9 (Value.slice aL s.L.length cL).ownBlock→((Value.slice aL s.L.length cL).ownBlock=some g∨g=wA.heap.size)→g<w9.heap.size →
  (∀ i x,l[i]?=some x→(Lay.tt 6).In wA (fun g=>¬ O g) x ((ds.drop (i*3)).take 3)) →
  w9.cell? ⟨b,6,none⟩=some (.slice aL s.L.length cL)∧w9.frozen? ⟨b,6,none⟩=false∧KTo wA (w9.setCell ⟨b,6,none⟩ (.slice (some ⟨g,0,none⟩) (s.L.length+l.length) cap2)) b O { s with L:=s.L++l }:=by
 obtain⟨pm,cm,a1,c1,a2,c2,a3,c3,hh,vL,k1,k2,k3,k4,k5,k6⟩:=h
 obtain⟨aL,cL,rfl,-,-⟩:=k5.form
 have hv:∀ {g'},(Value.slice aL s.L.length cL).ownBlock=some g'→O g'∧∃ c,wA.heap[g']?=some (.cells c 70 (0,0)):=fun {g'} hg'=>⟨by obtain⟨xs,q1,q2,q3⟩:=id k5;exact q2 g' hg',k5.block hg'⟩;obtain⟨xs,q1,q2,q3⟩:=k5
 obtain⟨ch,hch⟩:∃ c,wA.heap[hh]?=some (.cells c 119 (0,0)):=by obtain⟨v,q1,-⟩:=id k4;exact⟨_,q1⟩
 have hbl:=lt_of_block k1
 have hnb:∀ g',(Value.slice aL s.L.length cL).ownBlock=some g'→b≠g':=fun g' hg'=>by
  obtain⟨c,hc⟩:=(hv hg').2
  exact ZP k1 hc (by decide)
 have hle:s.L.length≤cL:=by
  obtain⟨-,q⟩:=id q1
  rcases q with ⟨e,e2⟩|⟨g,cap,cur,e,_,_,hn,_⟩
  ·omega
  ·simp only[Value.slice.injEq] at e;omega
 refine⟨aL,cL,xs,Qb k1 6 _ rfl,Qo k1 6,hle,q1,fun w9 g cap2 l ds hdl h1 h2 h3 h4 h5=>?_⟩
 have hsz:=h2.size;have kb:=(h2.block b hbl (fun e=>hnb b e.symm rfl)).trans k1
 have hgb:b≠g:=by
  rcases h3 with h | h
  ·exact hnb g h
  ·omega
 have low:∀ k,¬ O k→k<wA.heap.size→¬ (O k∨(wA.heap.size≤k∧k<w9.heap.size)):=fun k hk hl e=>by rcases e with e | e;exact hk e;omega
 have r4:Zj O (fun x=>O x∨(wA.heap.size≤x∧x<w9.heap.size)) wA (w9.setCell ⟨b,6,none⟩ (.slice (some ⟨g,0,none⟩) (s.L.length+l.length) cap2)):=by
  refine⟨h2.os,h2.tape,h2.output,by simp;omega,fun k hk hn=>?_,fun k hk=>hk.imp id fun h=>h.1⟩
  rw[Below.heap_setCell _ _ _ _ (fun e=>hn (by subst e;exact k6)),h2.block k hk (fun e=>hn (hv e.symm).1)]
 refine⟨Qb kb 6 _ rfl,Qo kb 6,_,⟨pm,cm,a1,c1,a2,c2,a3,c3,hh,.slice (some ⟨g,0,none⟩) (s.L.length+l.length) cap2,?_,(Qa5 6).keep (fun k hk hl=>r4.block k hl hk) low k2,(ZC 6).keep (fun k hk hl=>r4.block k hl hk) low k3,k4.keep2 (fun k c t hk ht=>?_) (fun k hk=>.inl hk),?_,.inl k6⟩,r4,fun k hk=>?_⟩
 ·rw[Qk kb];rfl
 ·rw[Below.heap_setCell _ _ _ _ (show k≠b from ZP hk k1 (by rcases ht with rfl | rfl<;>decide)),h2.block k (lt_of_block hk) (fun e=>by obtain⟨c',hc'⟩:=(hv e.symm).2;exact ZP hk hc' (by rcases ht with rfl | rfl<;>decide) rfl)]
 ·refine⟨xs++ds,?_,fun k hk=>?_,?_⟩
  ·rw[List.length_append]
   exact Qc2 h1 (Below.heap_setCell _ _ _ _ (show g≠b from fun e=>hgb e.symm))
  ·simp[Value.ownBlock] at hk
   subst hk;rcases h3 with h | h
   ·exact .inl (hv h).1
   ·exact .inr ⟨by omega,h4⟩
  ·refine Qbg (s:=3) (P:=fun x cs=>(Lay.tt 6).In _ _ x cs) q1.1 (fun i x hx=>?_) (fun i x hx=>?_)
   ·exact(Lay.tt 6).keep (fun k hk hl=>r4.block k hl hk) low (q3 i x hx)
   ·exact(Lay.tt 6).keep (fun k hk hl=>r4.block k hl hk) low (h5 i x hx)
 ·rw[World.size_setCell]
  rcases hk with hk | hk
  ·have:=hO k hk;omega
  ·exact hk.2
end
theorem QaF.via {l:List Oper}{S:Nat→Bool}(hcl:QaF l S){q i:Nat}{o:Oper}(ho:l[q]?=some o) (hw:QcA l 24 o i=true) (hq:S q=true):S i=true :=
 QcH (all:=l) (S:=fun j=>S j=true) hcl 24 o hw (hcl q o ho hq)
theorem QaF.no {l:List Oper}{S:Nat→Bool}(hcl:QaF l S){q i:Nat}{o:Oper}(ho:l[q]?=some o) (hw:QcA l 24 o i=true) (hS:S i=false):S q=false:=by
 cases h:S q with
 | false=>rfl
 | true=>have:=hcl.via ho hw h;rw[hS] at this;cases this
theorem Qay {i j:Nat}{S:Nat→Bool}(h:j≠i):Qbn i S j=S j:=by
 have:(j==i)=false:=by simpa using h
 unfold Qbn;rw[this,Bool.false_or]
def hTi:List (Nat × Tmp):=[(0,38),(1,39),(2,40),(3,41),(4,42),(5,43),(6,44),(7,45),(8,46),(9,47),(10,48),(11,49),(12,50),(13,51),(14,52)]
def hMv (b hh rn rc G g2 cap2:Nat) (ra:Option Addr):List (Tmp × Value):=[(38,.pointer (some ⟨b,0,none⟩)),(39,.pointer (some ⟨b,0,none⟩)),(40,.pointer (some ⟨b,5,none⟩)),(41,.pointer (some ⟨hh,0,none⟩)),(42,.pointer (some ⟨b,0,none⟩)),(43,.pointer (some ⟨b,0,none⟩)),(44,.pointer (some ⟨b,5,none⟩)),(45,.pointer (some ⟨hh,0,none⟩)),(46,.pointer (some ⟨hh,0,none⟩)),(47,.pointer (some ⟨hh,0,none⟩)),(48,.slice ra rn rc),(49,.slice (some ⟨G,0,none⟩) 1 1),(50,.slice (some ⟨g2,0,none⟩) (rn+1) cap2),(51,.pointer (some ⟨hh,0,none⟩)),(52,.pointer (some ⟨hh,0,none⟩))]
def HIv (n:Nat) (a0:Act) (wA:World) (b:Nat) (O:Nat→Prop) (s:JSt) (hh rn rc:Nat) (ra:Option Addr) (S:Nat→Bool) (a:Act) (w:World):Prop :=
 a.tmps.size=n∧a.defers=[]∧(∀ t,([38,39,40,41,42,43,44,45,46,47,48,49,50,51,52]:List Tmp).contains t=false→a.tmps.getD t undef=a0.tmps.getD t undef)∧∃ G g2 cap2,
  (∀ x∈hTi,S x.1=true→∀ v,(hMv b hh rn rc G g2 cap2 ra).lookup x.2=some v→a.tmps.getD x.2 undef=v) ∧
  (S 15=false→wA.grownBy w (Value.slice ra rn rc).ownBlock∧(S 12=false→Below wA.heap.size wA w∧(S 11=true→wA.heap.size≤G∧w.heap[G]?=some (.cells #[.bool true] 4 (0,0)))) ∧
   (S 12=true→w.ownsRow 0 4 1 (.slice (some ⟨g2,0,none⟩) (rn+1) cap2) (rn+1) (s.H.map Value.bool++[.bool true])∧((Value.slice ra rn rc).ownBlock=some g2∨wA.heap.size≤g2)∧g2<w.heap.size)) ∧
  (S 15=true→KTo wA w b O { s with H:=s.H++[true] })
section
variable {n:Nat}{a0 a:Act}{wA w w':World}{b hh rn rc:Nat}{O:Nat→Prop}{s:JSt}{ra:Option Addr}{S:Nat→Bool}
theorem hTi_lt:∀ x∈hTi,x.2<53∧([38,39,40,41,42,43,44,45,46,47,48,49,50,51,52]:List Tmp).contains x.2=true:=by decide
theorem HIv.pure {i:Nat}{t:Tmp}{v:Value}(hI:HIv n a0 wA b O s hh rn rc ra S a w) (hn:53≤n) (hi:(i,t)∈hTi) (hv:∀ G g2 cap2,(hMv b hh rn rc G g2 cap2 ra).lookup t=some v) (h11:i≠11) (h12:i≠12) (h15:i≠15):HIv n a0 wA b O s hh rn rc ra (Qbn i S) (a.put (some t) v) w:=by
 obtain⟨h1,h2,h3,G,g2,cap2,h4,h5,h6⟩:=hI
 obtain⟨ht,htc⟩:=hTi_lt _ hi
 have hta:t<a.tmps.size:=by rw[h1];exact Nat.lt_of_lt_of_le ht hn
 refine⟨by rw[← h1];simp[Act.put],h2,fun u hu=>?_,G,g2,cap2,fun x hx hs v' hv'=>?_,?_,?_⟩
 ·have:u≠t:=fun e=>by subst e;rw[htc] at hu;cases hu
  rw[Zi hta,if_neg this];exact h3 u hu
 ·rw[Zi hta]
  by_cases e:x.2=t
  ·rw[if_pos e];rw[e,hv] at hv';exact Option.some.inj hv'
  ·rw[if_neg e]
   refine h4 x hx (Zg (fun e2=>e ?_) hs) v' hv'
   have:∀ x∈hTi,∀ y∈hTi,x.1=y.1→x.2=y.2:=by decide
   exact this x hx (i,t) hi e2
 ·rw[Qay (Ne.symm h15),Qay (Ne.symm h12),Qay (Ne.symm h11)];exact h5
 ·rw[Qay (Ne.symm h15)];exact h6
end
def TRi (w:World) (lo hi:Nat) (v:Value) (ts:List (TT 6)):Prop :=
 ∃ xs,w.ownsRow 0 70 3 v ts.length xs∧(∀ g,v.ownBlock=some g→lo≤g∧g<hi)∧∀ i x,ts[i]?=some x→(Lay.tt 6).In w (fun k=>lo≤k∧k<hi∧v.ownBlock≠some k) x ((xs.drop (i*3)).take 3)
theorem TRi.below {w w':World}{lo hi:Nat}{v:Value}{ts:List (TT 6)}(h:TRi w lo hi v ts) (k:Below w.heap.size w w'):TRi w' lo hi v ts:=by
 obtain⟨xs,⟨h1,h2⟩,h3,h4⟩:=h
 refine⟨xs,⟨h1,?_⟩,h3,fun i x hx=>Lay.below (h4 i x hx) k⟩
 rcases h2 with h5 | ⟨g,cap,cur,rfl,hg,hh,r⟩
 ·exact .inl h5
 ·exact .inr ⟨g,cap,cur,rfl,hg,(k.block g (lt_of_block hh)).trans hh,r⟩
structure KZ where
 h:Nat
 lo:Nat
 hi:Nat
 lo2:Nat
 hi2:Nat
 B:Nat
 c:Nat
 a:Option Addr
def kTi:List (Nat × Tmp):=[(0,17),(1,18),(2,19),(3,20),(4,21),(5,22),(6,23),(7,24),(8,25),(9,26),(10,27),(11,28),(12,29),(13,30),(14,6)]
def kMv (X mg mo nm cm fi Bk n1 d1 fl fc fm fd fn ff:Nat) (fr gr:Int) (fa fb fe p1:Option Addr) (z:KZ):List (Tmp × Value):=[(17,.agg #[.slice (some ⟨mg,mo,none⟩) nm cm]),(18,.pointer (some ⟨X,0,none⟩)),(19,.slice (some ⟨mg,mo,none⟩) nm cm),(20,.int .i64 (fi:Int)),(21,.pointer (some ⟨mg,mo+fi*4,none⟩)),(22,.agg #[.int .i64 fr,.slice fa fl fc,.slice fb fm fd,.slice fe fn ff]),(23,.pointer (some ⟨Bk,0,none⟩)),(24,.int .i64 gr),(25,.pointer (some ⟨z.h,0,none⟩)),(26,.pointer (some ⟨Bk,1,none⟩)),(27,.slice p1 n1 d1),(28,.slice z.a n1 z.c),(29,.agg #[.slice (some ⟨mg,mo,none⟩) nm cm,.int .i64 fr,.slice fa fl fc,.slice fb fm fd,.slice fe fn ff,.pointer (some ⟨z.h,0,none⟩),.slice z.a n1 z.c]),(30,.pointer (some ⟨z.B,0,none⟩)),(6,.pointer (some ⟨z.B,0,none⟩))]
structure KIv (X mg mo nm cm fi Bk n1 d1 fl fc fm fd fn ff:Nat) (fr gr:Int) (fa fb fe p1:Option Addr) (n:Nat) (a0:Act) (w6:World) (ts:List (TT 6)) (z:KZ) (S:Nat→Bool) (a:Act) (w:World):Prop where
 size:a.tmps.size=n
 defers:a.defers=[]
 outer:∀ t,([17,18,19,20,21,22,23,24,25,26,27,28,29,30,6]:List Tmp).contains t=false→a.tmps.getD t undef=a0.tmps.getD t undef
 vals:∀ x∈kTi,S x.1=true→∀ v,(kMv X mg mo nm cm fi Bk n1 d1 fl fc fm fd fn ff fr gr fa fb fe p1 z).lookup x.2=some v→a.tmps.getD x.2 undef=v
 bel:Below w6.heap.size w6 w
 held:S 8=true→w6.heap.size≤z.lo∧z.hi≤w.heap.size∧QR w z.h (fun k=>z.lo≤k∧k<z.hi) (QdF gr)
 row:S 11=true→w6.heap.size≤z.lo2∧z.hi2≤w.heap.size∧TRi w z.lo2 z.hi2 (.slice z.a n1 z.c) ts
 apart:S 8=true→S 11=true→z.hi≤z.lo2∨z.hi2≤z.lo
 box:S 13=true→w6.heap.size≤z.B∧z.hi≤z.B∧z.hi2≤z.B∧Blk w z.B #[.slice (some ⟨mg,mo,none⟩) nm cm,.int .i64 fr,.slice fa fl fc,.slice fb fm fd,.slice fe fn ff,.pointer (some ⟨z.h,0,none⟩),.slice z.a n1 z.c] 114
section
variable {X mg mo nm cm fi Bk n1 d1 fl fc fm fd fn ff:Nat}{fr gr:Int}{fa fb fe p1:Option Addr}{n:Nat}{a0 a:Act}{w6 w w':World}{ts:List (TT 6)}{z:KZ}{S:Nat→Bool}
theorem kTi_lt:∀ x∈kTi,x.2<31∧([17,18,19,20,21,22,23,24,25,26,27,28,29,30,6]:List Tmp).contains x.2=true:=by decide
theorem kTi_ne:∀ x∈kTi,∀ y∈kTi,x.1=y.1→x.2=y.2:=by decide
theorem KIv.put {z':KZ}{i:Nat}{t:Tmp}{v:Value}(hI:KIv X mg mo nm cm fi Bk n1 d1 fl fc fm fd fn ff fr gr fa fb fe p1 n a0 w6 ts z S a w) (hn:31≤n) (hi:(i,t)∈kTi) (hv:(kMv X mg mo nm cm fi Bk n1 d1 fl fc fm fd fn ff fr gr fa fb fe p1 z').lookup t=some v) (hz:∀ x∈kTi,x.1≠i→S x.1=true→(kMv X mg mo nm cm fi Bk n1 d1 fl fc fm fd fn ff fr gr fa fb fe p1 z').lookup x.2=(kMv X mg mo nm cm fi Bk n1 d1 fl fc fm fd fn ff fr gr fa fb fe p1 z).lookup x.2)
 (h1:Below w6.heap.size w6 w') (h2:Qbn i S 8=true→w6.heap.size≤z'.lo∧z'.hi≤w'.heap.size∧QR w' z'.h (fun k=>z'.lo≤k∧k<z'.hi) (QdF gr)) (h3:Qbn i S 11=true→w6.heap.size≤z'.lo2∧z'.hi2≤w'.heap.size∧TRi w' z'.lo2 z'.hi2 (.slice z'.a n1 z'.c) ts)
 (h4:Qbn i S 8=true→Qbn i S 11=true→z'.hi≤z'.lo2∨z'.hi2≤z'.lo) (h5:Qbn i S 13=true→w6.heap.size≤z'.B∧z'.hi≤z'.B∧z'.hi2≤z'.B∧Blk w' z'.B #[.slice (some ⟨mg,mo,none⟩) nm cm,.int .i64 fr,.slice fa fl fc,.slice fb fm fd,.slice fe fn ff,.pointer (some ⟨z'.h,0,none⟩),.slice z'.a n1 z'.c] 114) :
 KIv X mg mo nm cm fi Bk n1 d1 fl fc fm fd fn ff fr gr fa fb fe p1 n a0 w6 ts z' (Qbn i S) (a.put (some t) v) w':=by
 obtain⟨ht,htc⟩:=kTi_lt _ hi
 have hta:t<a.tmps.size:=by rw[hI.size];exact Nat.lt_of_lt_of_le ht hn
 refine⟨by rw[← hI.size];simp[Act.put],hI.defers,fun u hu=>?_,fun x hx hs v' hv'=>?_,h1,h2,h3,h4,h5⟩
 ·have:u≠t:=fun e=>by subst e;rw[htc] at hu;cases hu
  rw[Zi hta,if_neg this];exact hI.outer u hu
 ·rw[Zi hta]
  by_cases e:x.2=t
  ·rw[if_pos e];rw[e,hv] at hv';exact Option.some.inj hv'
  ·rw[if_neg e]
   have hne:x.1≠i:=fun e2=>e (kTi_ne x hx (i,t) hi e2);have hs':=Zg hne hs;rw[hz x hx hne hs'] at hv'
   exact hI.vals x hx hs' v' hv'
theorem KIv.pure {i:Nat}{t:Tmp}{v:Value}(hI:KIv X mg mo nm cm fi Bk n1 d1 fl fc fm fd fn ff fr gr fa fb fe p1 n a0 w6 ts z S a w) (hn:31≤n) (hi:(i,t)∈kTi) (hv:(kMv X mg mo nm cm fi Bk n1 d1 fl fc fm fd fn ff fr gr fa fb fe p1 z).lookup t=some v) (h8:i≠8) (h11:i≠11) (h13:i≠13):KIv X mg mo nm cm fi Bk n1 d1 fl fc fm fd fn ff fr gr fa fb fe p1 n a0 w6 ts z (Qbn i S) (a.put (some t) v) w:=by
 refine hI.put hn hi hv (fun _ _ _ _=>rfl) hI.bel ?_ ?_ ?_ ?_
 ·rw[Qay (Ne.symm h8)];exact hI.held
 ·rw[Qay (Ne.symm h11)];exact hI.row
 ·rw[Qay (Ne.symm h8),Qay (Ne.symm h11)];exact hI.apart
 ·rw[Qay (Ne.symm h13)];exact hI.box
end
def QlZ (X mg mo nm cm fi Bk n1 d1 fl fc fm fd fn ff:Nat) (fr gr:Int) (fa fb fe p1:Option Addr) (w6 w':World) (ts:List (TT 6)) (B:Nat):Prop :=
 ∃ h vL O',Blk w' B #[.slice (some ⟨mg,mo,none⟩) nm cm,.int .i64 fr,.slice fa fl fc,.slice fb fm fd,.slice fe fn ff,.pointer (some ⟨h,0,none⟩),vL] 114∧QR w' h O' (QdF gr)∧(∃ xs,w'.ownsRow 0 70 3 vL ts.length xs∧(∀ g,vL.ownBlock=some g→O' g)∧∀ i x,ts[i]?=some x→(Lay.tt 6).In w' (fun g=>¬ O' g∧w6.heap.size≤g) x ((xs.drop (i*3)).take 3))∧O' B∧(∀ k,O' k→w6.heap.size≤k∧k<w'.heap.size)∧Below w6.heap.size w6 w'
theorem KIv.fin {X mg mo nm cm fi Bk n1 d1 fl fc fm fd fn ff:Nat}{fr gr:Int}{fa fb fe p1:Option Addr}{n:Nat}{a0 a:Act}{w6 w:World}{ts:List (TT 6)}{z:KZ}{S:Nat→Bool}(hI:KIv X mg mo nm cm fi Bk n1 d1 fl fc fm fd fn ff fr gr fa fb fe p1 n a0 w6 ts z S a w) (h8:S 8=true) (h11:S 11=true) (h13:S 13=true):QlZ X mg mo nm cm fi Bk n1 d1 fl fc fm fd fn ff fr gr fa fb fe p1 w6 w ts z.B:=by
 obtain⟨p1,p2,p3⟩:=hI.held h8
 obtain⟨q1,q2,xs,q3,q4,q5⟩:=hI.row h11
 have ha:=hI.apart h8 h11;obtain⟨r1,r2,r3,r4⟩:=hI.box h13
 have hBl:=lt_of_block r4;refine⟨z.h,_,fun k=>k=z.B∨(z.lo≤k∧k<z.hi)∨(Value.slice z.a n1 z.c).ownBlock=some k,r4,p3.mono (fun k hk=>.inr (.inl hk)),⟨xs,q3,fun g hg=>.inr (.inr hg),fun i x hx=>?_⟩,.inl rfl,fun k hk=>?_,hI.bel⟩
 ·refine(Lay.tt 6).keep (fun _ _ _=>rfl) (fun k hk hl=>⟨fun e=>?_,by omega⟩) (q5 i x hx)
  rcases e with e | e | e
  ·omega
  ·omega
  ·exact hk.2.2 e
 ·rcases hk with rfl | hk | hk
  ·exact⟨r1,hBl⟩
  ·omega
  ·have:=q4 k hk;omega
structure Tup (wA wr:World) (B:Nat) (O:Nat→Prop) (r:Int) (v:Value) (l:List (TT 6)):Prop where
 bel:Below wA.heap.size wA wr
 hB:wA.heap.size≤B
 box:Blk wr B #[.int .i64 3,.int .i64 r,v] 70
 row:∃ xs,wr.ownsRow (B+1) 70 3 v l.length xs∧∀ i x,l[i]?=some x→(Lay.tt 6).In wr (fun g=>¬ O g∧g<wA.heap.size) x ((xs.drop (i*3)).take 3)
section
variable {wA wr w':World}{B:Nat}{O:Nat→Prop}{r:Int}{v:Value}{l:List (TT 6)}
theorem Tup.below (h:Tup wA wr B O r v l) (k:Below wr.heap.size wr w'):Tup wA w' B O r v l:=by
 obtain⟨h1,h2,h3,xs,⟨q1,q2⟩,h5⟩:=h
 refine⟨h1.trans (k.mono h1.size),h2,(k.block B (lt_of_block h3)).trans h3,xs,⟨q1,?_⟩,fun i x hx=>Lay.below (h5 i x hx) k⟩
 rcases q2 with h4 | ⟨g,cap,cur,rfl,hg,hh,q⟩
 ·exact Or.inl h4
 ·exact Or.inr ⟨g,cap,cur,rfl,hg,(k.block g (lt_of_block hh)).trans hh,q⟩
theorem Tup.form (h:Tup wA wr B O r v l):∃ a c xs,v=.slice a l.length c∧wr.ownsRow (B+1) 70 3 (.slice a l.length c) l.length xs∧(∀ i x,l[i]?=some x→(Lay.tt 6).In wr (fun g=>¬ O g∧g<wA.heap.size) x ((xs.drop (i*3)).take 3))∧wr.cell? ⟨B,2,none⟩=some (.slice a l.length c):=by
 obtain⟨h1,h2,h3,xs,h4,h5⟩:=h
 obtain⟨q1,q2⟩:=id h4
 rcases q2 with ⟨rfl,h6⟩|⟨g,cap,cur,rfl,hg,hh,q⟩
 ·refine⟨none,0,xs,by rw[h6],by rw[h6] at h4 ⊢;exact h4,h5,?_⟩
  rw[Qb h3 2 _ rfl,h6];rfl
 ·exact⟨some ⟨g,0,none⟩,cap,xs,rfl,h4,h5,Qb h3 2 _ rfl⟩
theorem Tup.tree (h:Tup wA wr B O r v l) (hO:∀ k,O k→k<wA.heap.size):∃ a c,v=.slice a l.length c∧TIn wr (fun g=>¬ O g) (mkT 3 r l:TT 7) a∧∀ x∈l,x.ok:=by
 obtain⟨a,c,xs,rfl,h4,h5,-⟩:=h.form
 refine⟨a,c,rfl,fun i x hx=>?_,fun x hx=>?_⟩
 ·obtain⟨q1,q2⟩:=h4
  have hi:i<l.length:=(List.getElem?_eq_some_iff.1 hx).1;rcases q2 with ⟨_,h6⟩|⟨g,cap,cur,e,hg,hh,hn,hm,hs,ht⟩
  ·omega
  ·obtain⟨a',c',e',k1,k2⟩:=h5 i x hx
   have hB:=h.hB
   have hc:∀ j u,j<3→((xs.drop (i*3)).take 3)[j]?=some u→wr.cell? ⟨g,i*3+j,none⟩=some u:=fun j u hj hu=>by
    rw[List.getElem?_take,if_pos hj,List.getElem?_drop,← ht,List.getElem?_take,if_pos (by omega),Array.getElem?_toList] at hu
    exact Qb hh _ u hu
   rw[e'] at hc
   simp only[Value.slice.injEq] at e
   refine⟨g,0,a',c',e.1,fun ho=>by have:=hO g ho;omega,?_,?_,?_,k1.mono (fun k hk _=>hk.1)⟩
   ·rw[Nat.zero_add];exact hc 0 _ (by omega) rfl
   ·rw[Nat.zero_add];exact hc 1 _ (by omega) rfl
   ·rw[Nat.zero_add];exact hc 2 _ (by omega) rfl
 ·obtain⟨i,hi⟩:=List.getElem?_of_mem hx
  obtain⟨a',c',e',k1,k2⟩:=h5 i x hi
  exact k2
theorem Tup.push {a:Option Addr}{c g cap:Nat}{xs:List Value}{w9:World}{t:TT 6}{ta:Option Addr}{tc:Nat}(hbel:Below wA.heap.size wA wr) (hB:wA.heap.size≤B) (hbox:Blk wr B #[.int .i64 3,.int .i64 r,.slice a l.length c] 70)
 (hkids:∀ i x,l[i]?=some x→(Lay.tt 6).In wr (fun g=>¬ O g∧g<wA.heap.size) x ((xs.drop (i*3)).take 3)) (hlen:xs.length=l.length*3) (ht:TIn wr (fun g=>¬ O g∧g<wA.heap.size) t ta) (hok:t.ok) (hown:∀ k,(Value.slice a l.length c).ownBlock=some k→B+1≤k)
 (h1:w9.ownsRow (B+1) 70 3 (.slice (some ⟨g,0,none⟩) (l.length+1) cap) (l.length+1) (xs++[.int .i64 t.kind,.int .i64 t.r,.slice ta t.len tc])) (h2:wr.grownBy w9 (Value.slice a l.length c).ownBlock) :
 w9.cell? ⟨B,2,none⟩=some (.slice a l.length c)∧w9.frozen? ⟨B,2,none⟩=false∧Tup wA (w9.setCell ⟨B,2,none⟩ (.slice (some ⟨g,0,none⟩) (l.length+1) cap)) B O r (.slice (some ⟨g,0,none⟩) (l.length+1) cap) (l++[t]):=by
 have hBl:B<wr.heap.size:=lt_of_block hbox;have kb:w9.heap[B]?=some (.cells #[.int .i64 3,.int .i64 r,.slice a l.length c] 70 (0,0)):=(h2.block B hBl (fun e=>by have:=hown B e.symm;omega)).trans hbox
 have keep9:∀ {x:TT 6} {cs:List Value},(Lay.tt 6).In wr (fun g=>¬ O g∧g<wA.heap.size) x cs→(Lay.tt 6).In (w9.setCell ⟨B,2,none⟩ (.slice (some ⟨g,0,none⟩) (l.length+1) cap)) (fun g=>¬ O g∧g<wA.heap.size) x cs:=fun {x cs} hx =>
  (Lay.tt 6).keep (fun k hk hl=>(Below.heap_setCell _ _ _ _ (show k≠B by have:=hk.2;omega)).trans (h2.block k hl (fun e=>by have:=hown k e.symm;have:=hk.2;omega))) (fun _ hk _=>hk) hx
 refine⟨Qb kb 2 _ rfl,Qo kb 2,?_,hB,?_,xs++[.int .i64 t.kind,.int .i64 t.r,.slice ta t.len tc],?_,?_⟩
 ·refine⟨h2.os.trans hbel.os,h2.tape.trans hbel.tape,h2.output.trans hbel.output,by have:=h2.size;have:=hbel.size;simp;omega,fun k hk=>?_⟩
  have hbs:=hbel.size;rw[Below.heap_setCell _ _ _ _ (show k≠B by omega),h2.block k (by omega) (fun e=>by have:=hown k e.symm;omega)]
  exact hbel.block k hk
 ·show (w9.setCell ⟨B,2,none⟩ _).heap[B]?=_;rw[Qk kb];rfl
 ·obtain⟨q1,q2⟩:=h1
  rw[List.length_append]
  refine⟨q1,?_⟩
  rcases q2 with ⟨e,_⟩|⟨g',cap',cur,e,hg,hh,q⟩
  ·cases e
  ·cases e
   exact Or.inr ⟨g,cap,cur,rfl,hg,(Below.heap_setCell _ _ _ _ (show g≠B by omega)).trans hh,q⟩
 ·intro i x hx;rw[List.getElem?_append] at hx
  split at hx
  ·rename_i hi
   rw[List.drop_append_of_le_length (by omega),List.take_append_of_le_length (by simp;omega)]
   exact keep9 (hkids i x hx)
  ·rename_i hi
   have hil:=(List.getElem?_eq_some_iff.1 hx).1;have hi2:i=l.length:=by simp at hil;omega
   subst hi2;rw[Nat.sub_self] at hx
   have hx:t=x:=by simpa using hx
   subst hx;rw[List.drop_append,List.drop_of_length_le (by omega),hlen,Nat.sub_self,List.drop_zero,List.nil_append]
   exact keep9 ⟨ta,tc,rfl,ht,hok⟩
end
theorem QeU {op:Int}{fa fb fc fk fn fr fs:Bool}(hop:Qv op=some (fa,fb,fc,fk,fn,fr,fs)) (w:World):Rd Tryz.prog 118 #[.int .i64 op] w (.tuple #[.agg #[.bool fa,.bool fb,.bool fc,.bool fk,.bool fn,.bool fr,.bool fs],.bool true]):=by
 have:=Qcd op w
 rwa [show Q7 op=.tuple #[.agg #[.bool fa,.bool fb,.bool fc,.bool fk,.bool fn,.bool fr,.bool fs],.bool true] from by unfold Q7;rw[hop]] at this
theorem Qgx {op:Int}(hop:Qv op=none) (w:World):Rd Tryz.prog 118 #[.int .i64 op] w (.tuple #[.agg #[.bool false,.bool false,.bool false,.bool false,.bool false,.bool false,.bool false],.bool false]):=by
 have:=Qcd op w
 rwa [show Q7 op=.tuple #[.agg #[.bool false,.bool false,.bool false,.bool false,.bool false,.bool false,.bool false],.bool false] from by unfold Q7;rw[hop]] at this
theorem QS {lm:Nat}{op a b c k n:Int}{rl al:Nat}{fa fb fc fk fn fr fs d1 d2 d3 d4 d5 d6 d7:Bool}(e:Qv op=some (fa,fb,fc,fk,fn,fr,fs))
 (h1:d1=(!fa&&a != 0)) (h2:d2=(d1||(!fb&&b != 0))) (h3:d3=(d2||(!fc&&c != 0))) (h4:d4=(d3||(!fk&&k != 0))) (h5:d5=(d4||(!fn&&n != 0))) (h6:d6=(d5||(!fr&&decide ((0:Int)<(rl:Int))))) (h7:d7=(d6||(!fs&&decide ((0:Int)<(al:Int))))) :
 QM lm op a b c k n rl al=if d7 then 4
 else if op=2∧(k<1∨9<k) then 1
 else if op=5∧8<al then 2
 else if (op=6∨op=7)∧(k<0∨7<k) then 1
 else if op=14∧(k<0∨(lm:Int)≤k) then 1
 else if op=14∧(6<rl∨8<al) then 2
 else 0:=by
 subst h1 h2 h3 h4 h5 h6 h7;simp only[QM,e]
 have e1:decide ((0:Int)<(rl:Int))=decide (0<rl):=by simp
 have e2:decide ((0:Int)<(al:Int))=decide (0<al):=by simp
 rw[e1,e2]
end Go.Proofs.YtacjnejckfhpoaeGreat
