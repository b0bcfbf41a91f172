import Derived.Test.YtalfbnllodhkiacGreatDoorP3
import Derived.Laws.CopyOwn
import Derived.Deep.Upon
set_option maxHeartbeats 16000000
set_option maxRecDepth 100000
namespace Go.Proofs.YtalfbnllodhkiacGreatDoor
open Go.ChangeShapes Go.WideShapes Go.ChangeAt Go.RowKit
set_option linter.unusedSimpArgs false
set_option linter.unusedVariables false
theorem clo97_any {n : Nat} {m : List (MFunc n)} {p : Option Addr} {c : Nat} {x : MFunc n} {fp : FP} {fi : Nat} {y : MBlock n} {bp : BP} {bi : Nat} {Bc : Nat} {w : World} {z : MIns} {zi : IP} {q : Nat} (hq : q < 1000000) (hm : m.length ≤ 100000) (hfi : fi < 1000000) (hbi : bi < 1000000) (hcap0 : Blk w Bc #[.slice p m.length c, .int .i64 x.regs, .slice fp.pP x.params.length fp.cP, .slice fp.pR x.results.length fp.cR, .slice fp.pB x.blocks.length fp.cB, .int .i64 (fi : Int), .int .i64 y.regs, .slice bp.pP y.params.length bp.cP, .slice bp.pC y.code.length bp.cC, .int .i64 y.fin.op, .int .i64 y.fin.a, .int .i64 y.fin.yes.block, .slice bp.e.pYR y.fin.yes.regs.length bp.e.cYR, .slice bp.e.pYA y.fin.yes.args.length bp.e.cYA, .int .i64 y.fin.no.block, .slice bp.e.pNR y.fin.no.regs.length bp.e.cNR, .slice bp.e.pNA y.fin.no.args.length bp.e.cNA, .slice bp.e.pA y.fin.args.length bp.e.cA, .int .i64 (bi : Int)] 148) :
    Rd Tryz.prog 139 #[.int .i64 (q:Int),.agg #[.int .i64 z.op,.int .i64 z.a,.int .i64 z.b,.int .i64 z.c,.int .i64 z.k,.int .i64 z.n,.slice zi.pR z.regs.length zi.cR,.slice zi.pA z.args.length zi.cA],.pointer (some ⟨Bc,0,none⟩)] w (faultV (atF (z.form m.length) (10000*(fi:Int)+100*(bi:Int)+(q:Int)))):=by
  have hcap:Hid _:=hcap0;clear hcap0;refine fr_enter (n:=19) Tryz.func139 rfl rfl rfl ?_;intro a hF;have hW:=Wd.start w;replace hF:Fr 19 a [(0,.int .i64 (q:Int)),(1,.agg #[.int .i64 z.op,.int .i64 z.a,.int .i64 z.b,.int .i64 z.c,.int .i64 z.k,.int .i64 z.n,.slice zi.pR z.regs.length zi.cR,.slice zi.pA z.args.length zi.cA]),(2,.pointer (some ⟨Bc,0,none⟩))]:=hF;refine wp_seq_k fun K1 hK1=>?_;refine rg hF fun ops=>?_;clear hF a;refine sB hW trivial rfl rfl ?_;clear hW;intro w2 B2 hW2 hN;clear hN;refine sAFault hW2 trivial rfl ?_;clear hW2;intro w3 B3 hW3 hN;clear hN;refine St.nil fun a4 h4=>?_;refine hK1 _ _ ?_;refine wp_seq_k fun K5 hK5=>?_;have hF6:Fr 19 a4 [(2,.pointer (some ⟨Bc,0,none⟩)),(1,.agg #[.int .i64 z.op,.int .i64 z.a,.int .i64 z.b,.int .i64 z.c,.int .i64 z.k,.int .i64 z.n,.slice zi.pR z.regs.length zi.cR,.slice zi.pA z.args.length zi.cA]),(0,.int .i64 (q:Int)),(4,.pointer (some ⟨B2,0,none⟩)),(5,.pointer (some ⟨B3,0,none⟩))]:=(h4.keep (h4.keep (h4.keep (h4.keep (h4.keep h4.nil (t:=5) rfl) (t:=4) rfl) (t:=0) rfl) (t:=1) rfl) (t:=2) rfl);have ho2:a4.tmps.getD 2 undef=.pointer (some ⟨Bc,0,none⟩):=h4.sl 2 _ rfl;have ho4:a4.tmps.getD 4 undef=.pointer (some ⟨B2,0,none⟩):=h4.sl 4 _ rfl;have ho0:a4.tmps.getD 0 undef=.int .i64 (q:Int):=h4.sl 0 _ rfl;refine fr_draw_k 13 ([(2,fun v _=>v=.pointer (some ⟨Bc,0,none⟩)),(4,fun v _=>v=.pointer (some ⟨B2,0,none⟩)),(0,fun v _=>v=.int .i64 (q:Int)),(6,fun v _=>v=.pointer (some ⟨Bc,0,none⟩)),(7,fun v _=>v=.pointer (some ⟨Bc,0,none⟩)),(8,fun v _=>v=.agg #[.slice p m.length c]),(9,fun v _=>v=.agg #[.int .i64 z.op,.int .i64 z.a,.int .i64 z.b,.int .i64 z.c,.int .i64 z.k,.int .i64 z.n,.slice zi.pR z.regs.length zi.cR,.slice zi.pA z.args.length zi.cA]),(10,fun v _=>v=.int .i64 (z.form m.length)),(11,fun v _=>v=.pointer (some ⟨Bc,0,none⟩)),(12,fun v _=>v=.pointer (some ⟨Bc,5,none⟩)),(13,fun v _=>v=.int .i64 (fi:Int)),(14,fun v _=>v=.pointer (some ⟨Bc,18,none⟩)),(15,fun v _=>v=.int .i64 (bi:Int)),(16,fun v _=>v=.int .i64 (q:Int)),(17,fun v _=>v=.int .i64 (10000*(fi:Int)+100*(bi:Int)+(q:Int))),(18,fun v _=>v=.agg #[.int .i64 ((atF (z.form m.length) (10000*(fi:Int)+100*(bi:Int)+(q:Int))).1),.int .i64 ((atF (z.form m.length) (10000*(fi:Int)+100*(bi:Int)+(q:Int))).2)])]:PTab) (fun w'=>Wd w w' [(B3,#[.int .i64 0,.int .i64 0],27),(B2,#[.int .i64 z.op,.int .i64 z.a,.int .i64 z.b,.int .i64 z.c,.int .i64 z.k,.int .i64 z.n,.slice zi.pR z.regs.length zi.cR,.slice zi.pA z.args.length zi.cA],45)]∧Below w3.heap.size w3 w') (fun w w'=>Below w.heap.size w w') (outs:=[2,4,0]) (gs:=[]) (bs:=[true,true,true,true,true,true,true,true,true,true,true,true,true]) (by kernel_rfl) hF6 rfl (by kernel_rfl) (by kernel_rfl) ?hR ?hG ⟨hW3.drewN 1,drewN_below (m:=1) (Below.refl _ _)⟩ ⟨ho2,ho4,ho0,trivial⟩ ?hA ?hend
  case hR=>exact ⟨fun _ _ _ _ h=>h,fun _ _ _ _ h=>h,fun _ _ _ _ h=>h,fun _ _ _ _ h=>h,fun _ _ _ _ h=>h,fun _ _ _ _ h=>h,fun _ _ _ _ h=>h,fun _ _ _ _ h=>h,fun _ _ _ _ h=>h,fun _ _ _ _ h=>h,fun _ _ _ _ h=>h,fun _ _ _ _ h=>h,fun _ _ _ _ h=>h,fun _ _ _ _ h=>h,fun _ _ _ _ h=>h,fun _ _ _ _ h=>h,trivial⟩
  case hG=>exact trivial
  case hA =>
   refine ⟨fun a w hW hk K hK=>?_,?_⟩
   · obtain ⟨k0,-⟩:=hk;have k0:a.tmps.getD 2 undef=.pointer (some ⟨Bc,0,none⟩):=k0;go_simp;exact hK _ _ (Below.refl _ _) hW rfl
   refine ⟨fun a w hW hk K hK=>?_,?_⟩
   · obtain ⟨k0,-⟩:=hk;have k0:a.tmps.getD 6 undef=.pointer (some ⟨Bc,0,none⟩):=k0;go_simp;exact hK _ _ (Below.refl _ _) hW rfl
   refine ⟨fun a w hW hk K hK=>?_,?_⟩
   · obtain ⟨k0,-⟩:=hk;have k0:a.tmps.getD 7 undef=.pointer (some ⟨Bc,0,none⟩):=k0;have d0:w.cell? ⟨Bc,0,none⟩=some (.slice p m.length c):=bel_cell hW.1.bel (cellOf hcap.out 0 _ rfl);go_simp;exact hK _ _ (Below.refl _ _) hW rfl
   refine ⟨fun a w hW hk K hK=>?_,?_⟩
   · obtain ⟨k0,-⟩:=hk;have k0:a.tmps.getD 4 undef=.pointer (some ⟨B2,0,none⟩):=k0;have c0:w.cell? ⟨B2,0,none⟩=some (.int .i64 z.op):=cellOf (hW.1.get 1 rfl) 0 _ rfl;have c1:w.cell? ⟨B2,1,none⟩=some (.int .i64 z.a):=cellOf (hW.1.get 1 rfl) 1 _ rfl;have c2:w.cell? ⟨B2,2,none⟩=some (.int .i64 z.b):=cellOf (hW.1.get 1 rfl) 2 _ rfl;have c3:w.cell? ⟨B2,3,none⟩=some (.int .i64 z.c):=cellOf (hW.1.get 1 rfl) 3 _ rfl;have c4:w.cell? ⟨B2,4,none⟩=some (.int .i64 z.k):=cellOf (hW.1.get 1 rfl) 4 _ rfl;have c5:w.cell? ⟨B2,5,none⟩=some (.int .i64 z.n):=cellOf (hW.1.get 1 rfl) 5 _ rfl;have c6:w.cell? ⟨B2,6,none⟩=some (.slice zi.pR z.regs.length zi.cR):=cellOf (hW.1.get 1 rfl) 6 _ rfl;have c7:w.cell? ⟨B2,7,none⟩=some (.slice zi.pA z.args.length zi.cA):=cellOf (hW.1.get 1 rfl) 7 _ rfl;go_simp;exact hK _ _ (Below.refl _ _) hW rfl
   refine ⟨fun a w hW hk K hK=>?_,?_⟩
   · obtain ⟨k0,k1,-⟩:=hk;have k0:a.tmps.getD 8 undef=.agg #[.slice p m.length c]:=k0;have k1:a.tmps.getD 9 undef=.agg #[.int .i64 z.op,.int .i64 z.a,.int .i64 z.b,.int .i64 z.c,.int .i64 z.k,.int .i64 z.n,.slice zi.pR z.regs.length zi.cR,.slice zi.pA z.args.length zi.cA]:=k1;have hC:Rd Tryz.prog 140 #[.agg #[.slice p m.length c],.agg #[.int .i64 z.op,.int .i64 z.a,.int .i64 z.b,.int .i64 z.c,.int .i64 z.k,.int .i64 z.n,.slice zi.pR z.regs.length zi.cR,.slice zi.pA z.args.length zi.cA]] w (.int .i64 (z.form m.length)):=cIns_any m.length z zi p c w (by omega);go_simp;refine hC.mono ?_;rintro e w9 ⟨rfl,hb⟩;exact hK _ _ hb ⟨hW.1.below hb,Below.andThen hW.2 hb⟩ rfl
   refine ⟨fun a w hW hk K hK=>?_,?_⟩
   · obtain ⟨k0,-⟩:=hk;have k0:a.tmps.getD 2 undef=.pointer (some ⟨Bc,0,none⟩):=k0;go_simp;exact hK _ _ (Below.refl _ _) hW rfl
   refine ⟨fun a w hW hk K hK=>?_,?_⟩
   · obtain ⟨k0,-⟩:=hk;have k0:a.tmps.getD 11 undef=.pointer (some ⟨Bc,0,none⟩):=k0;go_simp;exact hK _ _ (Below.refl _ _) hW rfl
   refine ⟨fun a w hW hk K hK=>?_,?_⟩
   · obtain ⟨k0,-⟩:=hk;have k0:a.tmps.getD 12 undef=.pointer (some ⟨Bc,5,none⟩):=k0;have d5:w.cell? ⟨Bc,5,none⟩=some (.int .i64 (fi:Int)):=bel_cell hW.1.bel (cellOf hcap.out 5 _ rfl);go_simp;exact hK _ _ (Below.refl _ _) hW rfl
   refine ⟨fun a w hW hk K hK=>?_,?_⟩
   · obtain ⟨k0,-⟩:=hk;have k0:a.tmps.getD 2 undef=.pointer (some ⟨Bc,0,none⟩):=k0;go_simp;exact hK _ _ (Below.refl _ _) hW rfl
   refine ⟨fun a w hW hk K hK=>?_,?_⟩
   · obtain ⟨k0,-⟩:=hk;have k0:a.tmps.getD 14 undef=.pointer (some ⟨Bc,18,none⟩):=k0;have d18:w.cell? ⟨Bc,18,none⟩=some (.int .i64 (bi:Int)):=bel_cell hW.1.bel (cellOf hcap.out 18 _ rfl);go_simp;exact hK _ _ (Below.refl _ _) hW rfl
   refine ⟨fun a w hW hk K hK=>?_,?_⟩
   · obtain ⟨k0,-⟩:=hk;have k0:a.tmps.getD 0 undef=.int .i64 (q:Int):=k0;go_simp;exact hK _ _ (Below.refl _ _) hW rfl
   refine ⟨fun a w hW hk K hK=>?_,?_⟩
   · obtain ⟨k0,k1,k2,-⟩:=hk;have k0:a.tmps.getD 13 undef=.int .i64 (fi:Int):=k0;have k1:a.tmps.getD 15 undef=.int .i64 (bi:Int):=k1;have k2:a.tmps.getD 16 undef=.int .i64 (q:Int):=k2;have hC:Rd Tryz.prog 141 #[.int .i64 (fi:Int),.int .i64 (bi:Int),.int .i64 (q:Int)] w (.int .i64 (10000*(fi:Int)+100*(bi:Int)+(q:Int))):=cInsAt_any (f:=fi) (b:=bi) (i:=q) ⟨by omega,by omega,by omega⟩;go_simp;refine hC.mono ?_;rintro e w9 ⟨rfl,hb⟩;exact hK _ _ hb ⟨hW.1.below hb,Below.andThen hW.2 hb⟩ rfl
   refine ⟨fun a w hW hk K hK=>?_,?_⟩
   · obtain ⟨k0,k1,-⟩:=hk;have k0:a.tmps.getD 10 undef=.int .i64 (z.form m.length):=k0;have k1:a.tmps.getD 17 undef=.int .i64 (10000*(fi:Int)+100*(bi:Int)+(q:Int)):=k1;have hC:Rd Tryz.prog 105 #[.int .i64 (z.form m.length),.int .i64 (10000*(fi:Int)+100*(bi:Int)+(q:Int))] w (.agg #[.int .i64 ((atF (z.form m.length) (10000*(fi:Int)+100*(bi:Int)+(q:Int))).1),.int .i64 ((atF (z.form m.length) (10000*(fi:Int)+100*(bi:Int)+(q:Int))).2)]):=faultAt_any (xc:=z.form m.length) (xp:=10000*(fi:Int)+100*(bi:Int)+(q:Int));go_simp;refine hC.mono ?_;rintro e w9 ⟨rfl,hb⟩;exact hK _ _ hb ⟨hW.1.below hb,Below.andThen hW.2 hb⟩ rfl
   trivial
  case hend =>
   intro ops a7 w7 hWD hE hFD;have hd18:a7.tmps.getD 18 undef=.agg #[.int .i64 ((atF (z.form m.length) (10000*(fi:Int)+100*(bi:Int)+(q:Int))).1),.int .i64 ((atF (z.form m.length) (10000*(fi:Int)+100*(bi:Int)+(q:Int))).2)]:=hE 18 rfl;have hF7:Fr 19 a7 [(18,.agg #[.int .i64 ((atF (z.form m.length) (10000*(fi:Int)+100*(bi:Int)+(q:Int))).1),.int .i64 ((atF (z.form m.length) (10000*(fi:Int)+100*(bi:Int)+(q:Int))).2)]),(2,.pointer (some ⟨Bc,0,none⟩)),(1,.agg #[.int .i64 z.op,.int .i64 z.a,.int .i64 z.b,.int .i64 z.c,.int .i64 z.k,.int .i64 z.n,.slice zi.pR z.regs.length zi.cR,.slice zi.pA z.args.length zi.cA]),(0,.int .i64 (q:Int)),(4,.pointer (some ⟨B2,0,none⟩)),(5,.pointer (some ⟨B3,0,none⟩))]:=(hFD.cons hd18);clear hd18;have hW7:Wd w w7 [(B3,#[.int .i64 0,.int .i64 0],27),(B2,#[.int .i64 z.op,.int .i64 z.a,.int .i64 z.b,.int .i64 z.c,.int .i64 z.k,.int .i64 z.n,.slice zi.pR z.regs.length zi.cR,.slice zi.pA z.args.length zi.cA],45)]:=hWD.1;clear hFD hWD hE hF6 h4;clear hW3;refine St.go hF7 ?_;clear hF7 a7;refine sT 0 hW7 rfl rfl infFault rfl rfl rfl ?_;clear hW7;intro w8 hW8;refine St.nil fun a9 h9=>?_;refine hK5 _ _ ?_;refine wp_ret ?_;with_reducible repeat first | refine of_then_ret ?_ | refine of_block_ret ?_
   exact ret_box 0 h9 hW8 rfl rfl rfl Tryz.underlying27 rfl infFault ⟨rfl,hW8.bel⟩
theorem cBlockFault_any {n : Nat} {m : List (MFunc n)} {p : Option Addr} {c : Nat} {x : MFunc n} {fp : FP} {fi : Nat} {y : MBlock n} {bp : BP} {bi : Nat} {w : World} (hx0 : FIn w All x fp) (hs0 : x.small) (hy0 : BIn w All y bp) (ht0 : y.small) (hm : m.length ≤ 100000) (hfi : fi < 1000000) (hbi : bi < 1000000) :
    Rd Tryz.prog 109 #[.agg #[.slice p m.length c,.int .i64 x.regs,.slice fp.pP x.params.length fp.cP,.slice fp.pR x.results.length fp.cR,.slice fp.pB x.blocks.length fp.cB,.int .i64 (fi:Int),.int .i64 y.regs,.slice bp.pP y.params.length bp.cP,.slice bp.pC y.code.length bp.cC,.int .i64 y.fin.op,.int .i64 y.fin.a,.int .i64 y.fin.yes.block,.slice bp.e.pYR y.fin.yes.regs.length bp.e.cYR,.slice bp.e.pYA y.fin.yes.args.length bp.e.cYA,.int .i64 y.fin.no.block,.slice bp.e.pNR y.fin.no.regs.length bp.e.cNR,.slice bp.e.pNA y.fin.no.args.length bp.e.cNA,.slice bp.e.pA y.fin.args.length bp.e.cA,.int .i64 (bi:Int)]] w (faultV (MBlock.fault m.length fi x bi y)):=by
  have hx:Hid _:=hx0;have hs:Hid _:=hs0;have hy:Hid _:=hy0;have ht:Hid _:=ht0;clear hx0 hs0 hy0 ht0;refine fr_enter (n:=40) Tryz.func109 rfl rfl rfl ?_;intro a hF;have hW:=Wd.start w;replace hF:Fr 40 a [(0,.agg #[.slice p m.length c,.int .i64 x.regs,.slice fp.pP x.params.length fp.cP,.slice fp.pR x.results.length fp.cR,.slice fp.pB x.blocks.length fp.cB,.int .i64 (fi:Int),.int .i64 y.regs,.slice bp.pP y.params.length bp.cP,.slice bp.pC y.code.length bp.cC,.int .i64 y.fin.op,.int .i64 y.fin.a,.int .i64 y.fin.yes.block,.slice bp.e.pYR y.fin.yes.regs.length bp.e.cYR,.slice bp.e.pYA y.fin.yes.args.length bp.e.cYA,.int .i64 y.fin.no.block,.slice bp.e.pNR y.fin.no.regs.length bp.e.cNR,.slice bp.e.pNA y.fin.no.args.length bp.e.cNA,.slice bp.e.pA y.fin.args.length bp.e.cA,.int .i64 (bi:Int)])]:=hF;refine wp_seq_k fun K1 hK1=>?_;refine rg hF fun ops=>?_;clear hF a;refine sB hW trivial rfl rfl ?_;clear hW;intro w2 B2 hW2 hN;clear hN;refine sAFault hW2 trivial rfl ?_;clear hW2;intro w3 B3 hW3 hN;clear hN;refine St.nil fun a4 h4=>?_;refine hK1 _ _ ?_;refine wp_seq_k fun K5 hK5=>?_;refine wp_seq_k fun K6 hK6=>?_;refine rg h4 fun ops=>?_;clear h4 a4;refine sS 1 19 Tryz.underlying148 rfl infblockLook hW3 trivial rfl rfl rfl rfl ?_;refine sc_1 cf136 hW3 (blockCode_any (m:=m) (p:=p) (c:=c) (fi:=fi) (bi:=bi) (hx.out.below hW3.bel) hs.out (hy.out.below hW3.bel) ht.out) trivial rfl rfl ?_;clear hW3;intro w7 hW7;refine sa trivial rfl rfl ?_;refine St.nil fun a8 h8=>?_;refine hK6 _ _ ?_;refine wp_seq_k fun K9 hK9=>?_;refine rg h8 fun ops=>?_;clear h8 a8;refine sm trivial rfl rfl ?_;refine sne trivial rfl rfl rfl ?_;refine St.nil fun a10 h10=>?_;refine hK9 _ _ ?_;refine fr_cond (t:=8) h10 rfl (fun hb=>?_) (fun hb=>?_)
  ·have h9:¬ (y.code' x bi)=0:=bne_iff_ne.1 hb
   have hc11:¬ (y.code' x bi)=0:=h9;clear h9;clear hb;refine wp_seq_k fun K12 hK12=>?_;refine rg h10 fun ops=>?_;clear h10 a10;refine sm trivial rfl rfl ?_;refine sfblockLook0 trivial rfl rfl ?_;refine sffuncLook2 trivial rfl rfl ?_;refine sbInt 1 hW7 trivial rfl rfl rfl rfl ?_;refine sfblockLook2 trivial rfl rfl ?_;refine sbInt 1 hW7 trivial rfl rfl rfl rfl ?_;refine sc_2 cf137 hW7 (cBlockAt_any (f:=fi) (b:=bi) ⟨by omega,by omega⟩) trivial rfl rfl rfl ?_;clear hW7;intro w13 hW13;refine sc_2 cf105 hW13 (faultAt_any (xc:=y.code' x bi) (xp:=10000*(fi:Int)+100*(bi:Int)+90)) trivial rfl rfl rfl ?_;clear hW13;intro w14 hW14;refine sT 0 hW14 rfl rfl infFault rfl rfl rfl ?_;clear hW14;intro w15 hW15;refine St.nil fun a16 h16=>?_;refine hK12 _ _ ?_;refine wp_ret ?_;with_reducible repeat first | refine of_then_ret ?_ | refine of_block_ret ?_
   have e0:=hc11;have EF:=MBlock.fault_eq m.length fi x bi y;have EI:=firstF_at (f:=fun i z=>(MIns.form m.length z,(10000*(fi:Int)+100*(bi:Int)+(i:Int)))) (l:=y.code) (j:=0);dsimp only at EI
   rw [if_neg e0] at EF;exact ret_box 0 h16 hW15 rfl rfl rfl Tryz.underlying27 rfl infFault ⟨by show Ending.returned (.agg #[.int .i64 ((atF (y.code' x bi) (10000*(fi:Int)+100*(bi:Int)+90)).1),.int .i64 ((atF (y.code' x bi) (10000*(fi:Int)+100*(bi:Int)+90)).2)])=_;rw [EF] ;simp [atF,e0],hW15.bel⟩
  have h9:(y.code' x bi)=0:=bne_eq_false_iff_eq.1 hb;have hc17:Hid ((y.code' x bi)=0):=h9;clear h9;clear hb;refine wp_skip ?_;refine hK5 _ _ ?_;refine wp_seq_k fun K18 hK18=>?_;refine rg h10 fun ops=>?_;clear h10 a10;refine sfblockLook1 trivial rfl rfl ?_;refine sfBlock2 trivial rfl rfl ?_;refine sbInss 1 hW7 trivial rfl rfl rfl rfl ?_;intro a19 h19;refine fr_pure (t:=20) (v:=.func (.func 139) #[] #[.pointer (some ⟨B2,0,none⟩)]) (w':=w7) h19 rfl rfl rfl (fun K hK=>?_) ?_
  ·have k0:a19.tmps.getD 1 undef=.pointer (some ⟨B2,0,none⟩):=h19.sl 1 _ rfl
   go_simp;exact hK
  clear h19;intro a20 hF20;refine St.go hF20 ?_;clear hF20 a20;refine sc_2 cf138 hW7 (ffIns_any (Bc:=B2) (fun i z=>atF (MIns.form m.length z) (10000*(fi:Int)+100*(bi:Int)+(i:Int))) (Lay.below hy.out.code hW7.bel) ht.out.1 (fun i z zi wx hz hi hb=>clo97_any (y:=y) (by have h9:=(List.getElem?_eq_some_iff.1 hz).1;have:=ht.out.1;omega) hm hfi hbi ((hW7.get 1 rfl).below hb))) trivial rfl rfl rfl ?_;clear hW7;intro w21 hW21;refine sAFault hW21 trivial rfl ?_;clear hW21;intro w22 B22 hW22 hN;clear hN;refine sT 0 hW22 rfl rfl infFault rfl rfl rfl ?_;clear hW22;intro w23 hW23;refine St.nil fun a24 h24=>?_;refine hK18 _ _ ?_;refine wp_seq_k fun K25 hK25=>?_;refine wp_seq_k fun K26 hK26=>?_;refine rg h24 fun ops=>?_;clear h24 a24;refine sfFault0 trivial rfl rfl ?_;refine sbInt 0 hW23 trivial rfl rfl rfl rfl ?_;refine sne trivial rfl rfl rfl ?_;refine St.nil fun a27 h27=>?_;refine hK26 _ _ ?_;refine fr_cond (t:=24) h27 rfl (fun hb=>?_) (fun hb=>?_)
  ·have h9:¬ ((firstF (fun i z=>atF (MIns.form m.length z) (10000*(fi:Int)+100*(bi:Int)+(i:Int))) 0 y.code).1)=0:=bne_iff_ne.1 hb
   have hc28:¬ ((firstF (fun i z=>atF (MIns.form m.length z) (10000*(fi:Int)+100*(bi:Int)+(i:Int))) 0 y.code).1)=0:=h9;clear h9;clear hb;refine wp_seq_k fun K29 hK29=>?_;refine rg h27 fun ops=>?_;clear h27 a27;refine sS 0 2 Tryz.underlying27 rfl infFault hW23 trivial rfl rfl rfl rfl ?_;refine sT 1 hW23 rfl rfl infFault rfl rfl rfl ?_;clear hW23;intro w30 hW30;refine St.nil fun a31 h31=>?_;refine hK29 _ _ ?_;refine wp_ret ?_;with_reducible repeat first | refine of_then_ret ?_ | refine of_block_ret ?_
   have e0:=hc17.out;have e1:=hc28;have EF:=MBlock.fault_eq m.length fi x bi y;have EI:=firstF_at (f:=fun i z=>(MIns.form m.length z,(10000*(fi:Int)+100*(bi:Int)+(i:Int)))) (l:=y.code) (j:=0);dsimp only at EI
   rw [if_pos e0,if_neg (by rw [← EI];exact e1),← EI] at EF;exact ret_box 1 h31 hW30 rfl rfl rfl Tryz.underlying27 rfl infFault ⟨by show Ending.returned (.agg #[.int .i64 ((firstF (fun i z=>atF (MIns.form m.length z) (10000*(fi:Int)+100*(bi:Int)+(i:Int))) 0 y.code).1),.int .i64 ((firstF (fun i z=>atF (MIns.form m.length z) (10000*(fi:Int)+100*(bi:Int)+(i:Int))) 0 y.code).2)])=_;rw [EF],hW30.bel⟩
  have h9:((firstF (fun i z=>atF (MIns.form m.length z) (10000*(fi:Int)+100*(bi:Int)+(i:Int))) 0 y.code).1)=0:=bne_eq_false_iff_eq.1 hb;have hc32:Hid (((firstF (fun i z=>atF (MIns.form m.length z) (10000*(fi:Int)+100*(bi:Int)+(i:Int))) 0 y.code).1)=0):=h9;clear h9;clear hb;refine wp_skip ?_;refine hK25 _ _ ?_;refine wp_seq_k fun K33 hK33=>?_;have hF34:Fr 40 a27 [(0,.agg #[.slice p m.length c,.int .i64 x.regs,.slice fp.pP x.params.length fp.cP,.slice fp.pR x.results.length fp.cR,.slice fp.pB x.blocks.length fp.cB,.int .i64 (fi:Int),.int .i64 y.regs,.slice bp.pP y.params.length bp.cP,.slice bp.pC y.code.length bp.cC,.int .i64 y.fin.op,.int .i64 y.fin.a,.int .i64 y.fin.yes.block,.slice bp.e.pYR y.fin.yes.regs.length bp.e.cYR,.slice bp.e.pYA y.fin.yes.args.length bp.e.cYA,.int .i64 y.fin.no.block,.slice bp.e.pNR y.fin.no.regs.length bp.e.cNR,.slice bp.e.pNA y.fin.no.args.length bp.e.cNA,.slice bp.e.pA y.fin.args.length bp.e.cA,.int .i64 (bi:Int)]),(1,.pointer (some ⟨B2,0,none⟩)),(2,.pointer (some ⟨B3,0,none⟩)),(3,.int .i64 (y.code' x bi)),(4,.pointer (some ⟨B22,0,none⟩))]:=(h27.keep (h27.keep (h27.keep (h27.keep (h27.keep h27.nil (t:=4) rfl) (t:=3) rfl) (t:=2) rfl) (t:=1) rfl) (t:=0) rfl);have ho1:a27.tmps.getD 1 undef=.pointer (some ⟨B2,0,none⟩):=h27.sl 1 _ rfl;refine fr_draw_k 14 ([(1,fun v _=>v=.pointer (some ⟨B2,0,none⟩)),(26,fun v _=>v=.pointer (some ⟨B2,0,none⟩)),(27,fun v _=>v=.pointer (some ⟨B2,1,none⟩)),(28,fun v _=>v=.agg #[.int .i64 x.regs,.slice fp.pP x.params.length fp.cP,.slice fp.pR x.results.length fp.cR,.slice fp.pB x.blocks.length fp.cB]),(29,fun v _=>v=.pointer (some ⟨B2,6,none⟩)),(30,fun v _=>v=.pointer (some ⟨B2,9,none⟩)),(31,fun v _=>v=.agg #[.int .i64 y.fin.op,.int .i64 y.fin.a,.int .i64 y.fin.yes.block,.slice bp.e.pYR y.fin.yes.regs.length bp.e.cYR,.slice bp.e.pYA y.fin.yes.args.length bp.e.cYA,.int .i64 y.fin.no.block,.slice bp.e.pNR y.fin.no.regs.length bp.e.cNR,.slice bp.e.pNA y.fin.no.args.length bp.e.cNA,.slice bp.e.pA y.fin.args.length bp.e.cA]),(32,fun v _=>v=.int .i64 (y.fin.form x.blocks.length)),(33,fun v _=>v=.pointer (some ⟨B2,0,none⟩)),(34,fun v _=>v=.pointer (some ⟨B2,5,none⟩)),(35,fun v _=>v=.int .i64 (fi:Int)),(36,fun v _=>v=.pointer (some ⟨B2,18,none⟩)),(37,fun v _=>v=.int .i64 (bi:Int)),(38,fun v _=>v=.int .i64 (10000*(fi:Int)+100*(bi:Int)+91)),(39,fun v _=>v=.agg #[.int .i64 ((atF (y.fin.form x.blocks.length) (10000*(fi:Int)+100*(bi:Int)+91)).1),.int .i64 ((atF (y.fin.form x.blocks.length) (10000*(fi:Int)+100*(bi:Int)+91)).2)])]:PTab) (fun w'=>Wd w w' [(B22,#[.int .i64 ((firstF (fun i z=>atF (MIns.form m.length z) (10000*(fi:Int)+100*(bi:Int)+(i:Int))) 0 y.code).1),.int .i64 ((firstF (fun i z=>atF (MIns.form m.length z) (10000*(fi:Int)+100*(bi:Int)+(i:Int))) 0 y.code).2)],27),(B3,#[.int .i64 0,.int .i64 0],27),(B2,#[.slice p m.length c,.int .i64 x.regs,.slice fp.pP x.params.length fp.cP,.slice fp.pR x.results.length fp.cR,.slice fp.pB x.blocks.length fp.cB,.int .i64 (fi:Int),.int .i64 y.regs,.slice bp.pP y.params.length bp.cP,.slice bp.pC y.code.length bp.cC,.int .i64 y.fin.op,.int .i64 y.fin.a,.int .i64 y.fin.yes.block,.slice bp.e.pYR y.fin.yes.regs.length bp.e.cYR,.slice bp.e.pYA y.fin.yes.args.length bp.e.cYA,.int .i64 y.fin.no.block,.slice bp.e.pNR y.fin.no.regs.length bp.e.cNR,.slice bp.e.pNA y.fin.no.args.length bp.e.cNA,.slice bp.e.pA y.fin.args.length bp.e.cA,.int .i64 (bi:Int)],148)]∧Below w23.heap.size w23 w') (fun w w'=>Below w.heap.size w w') (outs:=[1]) (gs:=[]) (bs:=[true,true,true,true,true,true,true,true,true,true,true,true,true,true]) (by kernel_rfl) hF34 rfl (by kernel_rfl) (by kernel_rfl) ?hR ?hG ⟨hW23.drewN 1,drewN_below (m:=1) (Below.refl _ _)⟩ ⟨ho1,trivial⟩ ?hA ?hend
  case hR=>exact ⟨fun _ _ _ _ h=>h,fun _ _ _ _ h=>h,fun _ _ _ _ h=>h,fun _ _ _ _ h=>h,fun _ _ _ _ h=>h,fun _ _ _ _ h=>h,fun _ _ _ _ h=>h,fun _ _ _ _ h=>h,fun _ _ _ _ h=>h,fun _ _ _ _ h=>h,fun _ _ _ _ h=>h,fun _ _ _ _ h=>h,fun _ _ _ _ h=>h,fun _ _ _ _ h=>h,fun _ _ _ _ h=>h,trivial⟩
  case hG=>exact trivial
  case hA =>
   refine ⟨fun a w hW hk K hK=>?_,?_⟩
   · obtain ⟨k0,-⟩:=hk;have k0:a.tmps.getD 1 undef=.pointer (some ⟨B2,0,none⟩):=k0;go_simp;exact hK _ _ (Below.refl _ _) hW rfl
   refine ⟨fun a w hW hk K hK=>?_,?_⟩
   · obtain ⟨k0,-⟩:=hk;have k0:a.tmps.getD 26 undef=.pointer (some ⟨B2,0,none⟩):=k0;go_simp;exact hK _ _ (Below.refl _ _) hW rfl
   refine ⟨fun a w hW hk K hK=>?_,?_⟩
   · obtain ⟨k0,-⟩:=hk;have k0:a.tmps.getD 27 undef=.pointer (some ⟨B2,1,none⟩):=k0;have c1:w.cell? ⟨B2,1,none⟩=some (.int .i64 x.regs):=cellOf (hW.1.get 2 rfl) 1 _ rfl;have c2:w.cell? ⟨B2,2,none⟩=some (.slice fp.pP x.params.length fp.cP):=cellOf (hW.1.get 2 rfl) 2 _ rfl;have c3:w.cell? ⟨B2,3,none⟩=some (.slice fp.pR x.results.length fp.cR):=cellOf (hW.1.get 2 rfl) 3 _ rfl;have c4:w.cell? ⟨B2,4,none⟩=some (.slice fp.pB x.blocks.length fp.cB):=cellOf (hW.1.get 2 rfl) 4 _ rfl;go_simp;exact hK _ _ (Below.refl _ _) hW rfl
   refine ⟨fun a w hW hk K hK=>?_,?_⟩
   · obtain ⟨k0,-⟩:=hk;have k0:a.tmps.getD 1 undef=.pointer (some ⟨B2,0,none⟩):=k0;go_simp;exact hK _ _ (Below.refl _ _) hW rfl
   refine ⟨fun a w hW hk K hK=>?_,?_⟩
   · obtain ⟨k0,-⟩:=hk;have k0:a.tmps.getD 29 undef=.pointer (some ⟨B2,6,none⟩):=k0;go_simp;exact hK _ _ (Below.refl _ _) hW rfl
   refine ⟨fun a w hW hk K hK=>?_,?_⟩
   · obtain ⟨k0,-⟩:=hk;have k0:a.tmps.getD 30 undef=.pointer (some ⟨B2,9,none⟩):=k0;have c9:w.cell? ⟨B2,9,none⟩=some (.int .i64 y.fin.op):=cellOf (hW.1.get 2 rfl) 9 _ rfl;have c10:w.cell? ⟨B2,10,none⟩=some (.int .i64 y.fin.a):=cellOf (hW.1.get 2 rfl) 10 _ rfl;have c11:w.cell? ⟨B2,11,none⟩=some (.int .i64 y.fin.yes.block):=cellOf (hW.1.get 2 rfl) 11 _ rfl;have c12:w.cell? ⟨B2,12,none⟩=some (.slice bp.e.pYR y.fin.yes.regs.length bp.e.cYR):=cellOf (hW.1.get 2 rfl) 12 _ rfl;have c13:w.cell? ⟨B2,13,none⟩=some (.slice bp.e.pYA y.fin.yes.args.length bp.e.cYA):=cellOf (hW.1.get 2 rfl) 13 _ rfl;have c14:w.cell? ⟨B2,14,none⟩=some (.int .i64 y.fin.no.block):=cellOf (hW.1.get 2 rfl) 14 _ rfl;have c15:w.cell? ⟨B2,15,none⟩=some (.slice bp.e.pNR y.fin.no.regs.length bp.e.cNR):=cellOf (hW.1.get 2 rfl) 15 _ rfl;have c16:w.cell? ⟨B2,16,none⟩=some (.slice bp.e.pNA y.fin.no.args.length bp.e.cNA):=cellOf (hW.1.get 2 rfl) 16 _ rfl;have c17:w.cell? ⟨B2,17,none⟩=some (.slice bp.e.pA y.fin.args.length bp.e.cA):=cellOf (hW.1.get 2 rfl) 17 _ rfl;go_simp;exact hK _ _ (Below.refl _ _) hW rfl
   refine ⟨fun a w hW hk K hK=>?_,?_⟩
   · obtain ⟨k0,k1,-⟩:=hk;have k0:a.tmps.getD 28 undef=.agg #[.int .i64 x.regs,.slice fp.pP x.params.length fp.cP,.slice fp.pR x.results.length fp.cR,.slice fp.pB x.blocks.length fp.cB]:=k0;have k1:a.tmps.getD 31 undef=.agg #[.int .i64 y.fin.op,.int .i64 y.fin.a,.int .i64 y.fin.yes.block,.slice bp.e.pYR y.fin.yes.regs.length bp.e.cYR,.slice bp.e.pYA y.fin.yes.args.length bp.e.cYA,.int .i64 y.fin.no.block,.slice bp.e.pNR y.fin.no.regs.length bp.e.cNR,.slice bp.e.pNA y.fin.no.args.length bp.e.cNA,.slice bp.e.pA y.fin.args.length bp.e.cA]:=k1;have hC:Rd Tryz.prog 142 #[.agg #[.int .i64 x.regs,.slice fp.pP x.params.length fp.cP,.slice fp.pR x.results.length fp.cR,.slice fp.pB x.blocks.length fp.cB],.agg #[.int .i64 y.fin.op,.int .i64 y.fin.a,.int .i64 y.fin.yes.block,.slice bp.e.pYR y.fin.yes.regs.length bp.e.cYR,.slice bp.e.pYA y.fin.yes.args.length bp.e.cYA,.int .i64 y.fin.no.block,.slice bp.e.pNR y.fin.no.regs.length bp.e.cNR,.slice bp.e.pNA y.fin.no.args.length bp.e.cNA,.slice bp.e.pA y.fin.args.length bp.e.cA]] w (.int .i64 (y.fin.form x.blocks.length)):=cEnd_any (x:=y.fin) (e:=bp.e) (fr:=x.regs) (fp:=fp.pP) (fl:=x.params.length) (fc:=fp.cP) (fq:=fp.pR) (fm:=x.results.length) (fd:=fp.cR) (fb:=fp.pB) (bl:=x.blocks.length) (fe:=fp.cB) (by have:=ht.out.2.2.1;exact ⟨by have:=this.1.1;omega,by have:=this.1.2;omega,by have:=this.2.1.1;omega,by have:=this.2.1.2;omega⟩) (by have:=hs.out.1;omega);go_simp;refine hC.mono ?_;rintro e w9 ⟨rfl,hb⟩;exact hK _ _ hb ⟨hW.1.below hb,Below.andThen hW.2 hb⟩ rfl
   refine ⟨fun a w hW hk K hK=>?_,?_⟩
   · obtain ⟨k0,-⟩:=hk;have k0:a.tmps.getD 1 undef=.pointer (some ⟨B2,0,none⟩):=k0;go_simp;exact hK _ _ (Below.refl _ _) hW rfl
   refine ⟨fun a w hW hk K hK=>?_,?_⟩
   · obtain ⟨k0,-⟩:=hk;have k0:a.tmps.getD 33 undef=.pointer (some ⟨B2,0,none⟩):=k0;go_simp;exact hK _ _ (Below.refl _ _) hW rfl
   refine ⟨fun a w hW hk K hK=>?_,?_⟩
   · obtain ⟨k0,-⟩:=hk;have k0:a.tmps.getD 34 undef=.pointer (some ⟨B2,5,none⟩):=k0;have c5:w.cell? ⟨B2,5,none⟩=some (.int .i64 (fi:Int)):=cellOf (hW.1.get 2 rfl) 5 _ rfl;go_simp;exact hK _ _ (Below.refl _ _) hW rfl
   refine ⟨fun a w hW hk K hK=>?_,?_⟩
   · obtain ⟨k0,-⟩:=hk;have k0:a.tmps.getD 1 undef=.pointer (some ⟨B2,0,none⟩):=k0;go_simp;exact hK _ _ (Below.refl _ _) hW rfl
   refine ⟨fun a w hW hk K hK=>?_,?_⟩
   · obtain ⟨k0,-⟩:=hk;have k0:a.tmps.getD 36 undef=.pointer (some ⟨B2,18,none⟩):=k0;have c18:w.cell? ⟨B2,18,none⟩=some (.int .i64 (bi:Int)):=cellOf (hW.1.get 2 rfl) 18 _ rfl;go_simp;exact hK _ _ (Below.refl _ _) hW rfl
   refine ⟨fun a w hW hk K hK=>?_,?_⟩
   · obtain ⟨k0,k1,-⟩:=hk;have k0:a.tmps.getD 35 undef=.int .i64 (fi:Int):=k0;have k1:a.tmps.getD 37 undef=.int .i64 (bi:Int):=k1;have hC:Rd Tryz.prog 143 #[.int .i64 (fi:Int),.int .i64 (bi:Int)] w (.int .i64 (10000*(fi:Int)+100*(bi:Int)+91)):=cEndAt_any (f:=fi) (b:=bi) ⟨by omega,by omega⟩;go_simp;refine hC.mono ?_;rintro e w9 ⟨rfl,hb⟩;exact hK _ _ hb ⟨hW.1.below hb,Below.andThen hW.2 hb⟩ rfl
   refine ⟨fun a w hW hk K hK=>?_,?_⟩
   · obtain ⟨k0,k1,-⟩:=hk;have k0:a.tmps.getD 32 undef=.int .i64 (y.fin.form x.blocks.length):=k0;have k1:a.tmps.getD 38 undef=.int .i64 (10000*(fi:Int)+100*(bi:Int)+91):=k1;have hC:Rd Tryz.prog 105 #[.int .i64 (y.fin.form x.blocks.length),.int .i64 (10000*(fi:Int)+100*(bi:Int)+91)] w (.agg #[.int .i64 ((atF (y.fin.form x.blocks.length) (10000*(fi:Int)+100*(bi:Int)+91)).1),.int .i64 ((atF (y.fin.form x.blocks.length) (10000*(fi:Int)+100*(bi:Int)+91)).2)]):=faultAt_any (xc:=y.fin.form x.blocks.length) (xp:=10000*(fi:Int)+100*(bi:Int)+91);go_simp;refine hC.mono ?_;rintro e w9 ⟨rfl,hb⟩;exact hK _ _ hb ⟨hW.1.below hb,Below.andThen hW.2 hb⟩ rfl
   trivial
  case hend =>
   intro ops a35 w35 hWD hE hFD;have hd39:a35.tmps.getD 39 undef=.agg #[.int .i64 ((atF (y.fin.form x.blocks.length) (10000*(fi:Int)+100*(bi:Int)+91)).1),.int .i64 ((atF (y.fin.form x.blocks.length) (10000*(fi:Int)+100*(bi:Int)+91)).2)]:=hE 39 rfl;have hF35:Fr 40 a35 [(39,.agg #[.int .i64 ((atF (y.fin.form x.blocks.length) (10000*(fi:Int)+100*(bi:Int)+91)).1),.int .i64 ((atF (y.fin.form x.blocks.length) (10000*(fi:Int)+100*(bi:Int)+91)).2)]),(0,.agg #[.slice p m.length c,.int .i64 x.regs,.slice fp.pP x.params.length fp.cP,.slice fp.pR x.results.length fp.cR,.slice fp.pB x.blocks.length fp.cB,.int .i64 (fi:Int),.int .i64 y.regs,.slice bp.pP y.params.length bp.cP,.slice bp.pC y.code.length bp.cC,.int .i64 y.fin.op,.int .i64 y.fin.a,.int .i64 y.fin.yes.block,.slice bp.e.pYR y.fin.yes.regs.length bp.e.cYR,.slice bp.e.pYA y.fin.yes.args.length bp.e.cYA,.int .i64 y.fin.no.block,.slice bp.e.pNR y.fin.no.regs.length bp.e.cNR,.slice bp.e.pNA y.fin.no.args.length bp.e.cNA,.slice bp.e.pA y.fin.args.length bp.e.cA,.int .i64 (bi:Int)]),(1,.pointer (some ⟨B2,0,none⟩)),(2,.pointer (some ⟨B3,0,none⟩)),(3,.int .i64 (y.code' x bi)),(4,.pointer (some ⟨B22,0,none⟩))]:=(hFD.cons hd39);clear hd39;have hW35:Wd w w35 [(B22,#[.int .i64 ((firstF (fun i z=>atF (MIns.form m.length z) (10000*(fi:Int)+100*(bi:Int)+(i:Int))) 0 y.code).1),.int .i64 ((firstF (fun i z=>atF (MIns.form m.length z) (10000*(fi:Int)+100*(bi:Int)+(i:Int))) 0 y.code).2)],27),(B3,#[.int .i64 0,.int .i64 0],27),(B2,#[.slice p m.length c,.int .i64 x.regs,.slice fp.pP x.params.length fp.cP,.slice fp.pR x.results.length fp.cR,.slice fp.pB x.blocks.length fp.cB,.int .i64 (fi:Int),.int .i64 y.regs,.slice bp.pP y.params.length bp.cP,.slice bp.pC y.code.length bp.cC,.int .i64 y.fin.op,.int .i64 y.fin.a,.int .i64 y.fin.yes.block,.slice bp.e.pYR y.fin.yes.regs.length bp.e.cYR,.slice bp.e.pYA y.fin.yes.args.length bp.e.cYA,.int .i64 y.fin.no.block,.slice bp.e.pNR y.fin.no.regs.length bp.e.cNR,.slice bp.e.pNA y.fin.no.args.length bp.e.cNA,.slice bp.e.pA y.fin.args.length bp.e.cA,.int .i64 (bi:Int)],148)]:=hWD.1;clear hFD hWD hE hF34 h27;clear hW23;refine St.go hF35 ?_;clear hF35 a35;refine sT 1 hW35 rfl rfl infFault rfl rfl rfl ?_;clear hW35;intro w36 hW36;refine St.nil fun a37 h37=>?_;refine hK33 _ _ ?_;refine wp_ret ?_;with_reducible repeat first | refine of_then_ret ?_ | refine of_block_ret ?_
   have e0:=hc17.out;have e1:=hc32.out;have EF:=MBlock.fault_eq m.length fi x bi y;have EI:=firstF_at (f:=fun i z=>(MIns.form m.length z,(10000*(fi:Int)+100*(bi:Int)+(i:Int)))) (l:=y.code) (j:=0);dsimp only at EI
   rw [if_pos e0,if_pos (by rw [← EI];exact e1)] at EF;exact ret_box 1 h37 hW36 rfl rfl rfl Tryz.underlying27 rfl infFault ⟨by show Ending.returned (.agg #[.int .i64 ((atF (y.fin.form x.blocks.length) (10000*(fi:Int)+100*(bi:Int)+91)).1),.int .i64 ((atF (y.fin.form x.blocks.length) (10000*(fi:Int)+100*(bi:Int)+91)).2)])=_;rw [EF],hW36.bel⟩
theorem clo72_any {n : Nat} {m : List (MFunc n)} {p : Option Addr} {c : Nat} {x : MFunc n} {fp : FP} {fi : Nat} {y : MBlock n} {bp : BP} {bi : Nat} {w : World} (hx0 : FIn w All x fp) (hs0 : x.small) (hy0 : BIn w All y bp) (ht0 : y.small) {Bc : Nat} (hm : m.length ≤ 100000) (hfi : fi < 1000000) (hbi : bi < 1000000) (hcap0 : Blk w Bc #[.slice p m.length c, .int .i64 x.regs, .slice fp.pP x.params.length fp.cP, .slice fp.pR x.results.length fp.cR, .slice fp.pB x.blocks.length fp.cB, .int .i64 (fi : Int)] 106) :
    Rd Tryz.prog 108 #[.int .i64 (bi:Int),.agg #[.int .i64 y.regs,.slice bp.pP y.params.length bp.cP,.slice bp.pC y.code.length bp.cC,.int .i64 y.fin.op,.int .i64 y.fin.a,.int .i64 y.fin.yes.block,.slice bp.e.pYR y.fin.yes.regs.length bp.e.cYR,.slice bp.e.pYA y.fin.yes.args.length bp.e.cYA,.int .i64 y.fin.no.block,.slice bp.e.pNR y.fin.no.regs.length bp.e.cNR,.slice bp.e.pNA y.fin.no.args.length bp.e.cNA,.slice bp.e.pA y.fin.args.length bp.e.cA],.pointer (some ⟨Bc,0,none⟩)] w (faultV (MBlock.fault m.length fi x bi y)):=by
  have hx:Hid _:=hx0;have hs:Hid _:=hs0;have hy:Hid _:=hy0;have ht:Hid _:=ht0;clear hx0 hs0 hy0 ht0;have hcap:Hid _:=hcap0;clear hcap0;refine fr_enter (n:=11) Tryz.func108 rfl rfl rfl ?_;intro a hF;have hW:=Wd.start w;replace hF:Fr 11 a [(0,.int .i64 (bi:Int)),(1,.agg #[.int .i64 y.regs,.slice bp.pP y.params.length bp.cP,.slice bp.pC y.code.length bp.cC,.int .i64 y.fin.op,.int .i64 y.fin.a,.int .i64 y.fin.yes.block,.slice bp.e.pYR y.fin.yes.regs.length bp.e.cYR,.slice bp.e.pYA y.fin.yes.args.length bp.e.cYA,.int .i64 y.fin.no.block,.slice bp.e.pNR y.fin.no.regs.length bp.e.cNR,.slice bp.e.pNA y.fin.no.args.length bp.e.cNA,.slice bp.e.pA y.fin.args.length bp.e.cA]),(2,.pointer (some ⟨Bc,0,none⟩))]:=hF;refine wp_seq_k fun K1 hK1=>?_;refine rg hF fun ops=>?_;clear hF a;refine sB hW trivial rfl rfl ?_;clear hW;intro w2 B2 hW2 hN;clear hN;refine sAFault hW2 trivial rfl ?_;clear hW2;intro w3 B3 hW3 hN;clear hN;refine St.nil fun a4 h4=>?_;refine hK1 _ _ ?_;refine wp_seq_k fun K5 hK5=>?_;refine rg h4 fun ops=>?_;clear h4 a4;refine sSE Tryz.underlying106 rfl (rangeAt_bel (rangeOf hcap.out 0 6 rfl) hW3.bel) inffuncLook trivial rfl rfl ?_;refine sS 1 12 Tryz.underlying52 rfl infBlock hW3 trivial rfl rfl rfl rfl ?_;refine sm trivial rfl rfl ?_;intro a6 h6;refine fr_pure (t:=9) (v:=.agg #[.slice p m.length c,.int .i64 x.regs,.slice fp.pP x.params.length fp.cP,.slice fp.pR x.results.length fp.cR,.slice fp.pB x.blocks.length fp.cB,.int .i64 (fi:Int),.int .i64 y.regs,.slice bp.pP y.params.length bp.cP,.slice bp.pC y.code.length bp.cC,.int .i64 y.fin.op,.int .i64 y.fin.a,.int .i64 y.fin.yes.block,.slice bp.e.pYR y.fin.yes.regs.length bp.e.cYR,.slice bp.e.pYA y.fin.yes.args.length bp.e.cYA,.int .i64 y.fin.no.block,.slice bp.e.pNR y.fin.no.regs.length bp.e.cNR,.slice bp.e.pNA y.fin.no.args.length bp.e.cNA,.slice bp.e.pA y.fin.args.length bp.e.cA,.int .i64 (bi:Int)]) (w':=w3) h6 rfl rfl rfl (fun K hK=>?_) ?_
  ·have k0:a6.tmps[6]?.getD undef=.agg #[.slice p m.length c,.int .i64 x.regs,.slice fp.pP x.params.length fp.cP,.slice fp.pR x.results.length fp.cR,.slice fp.pB x.blocks.length fp.cB,.int .i64 (fi:Int)]:=h6.sl2 6 _ rfl
   have k1:a6.tmps[7]?.getD undef=.agg #[.int .i64 y.regs,.slice bp.pP y.params.length bp.cP,.slice bp.pC y.code.length bp.cC,.int .i64 y.fin.op,.int .i64 y.fin.a,.int .i64 y.fin.yes.block,.slice bp.e.pYR y.fin.yes.regs.length bp.e.cYR,.slice bp.e.pYA y.fin.yes.args.length bp.e.cYA,.int .i64 y.fin.no.block,.slice bp.e.pNR y.fin.no.regs.length bp.e.cNR,.slice bp.e.pNA y.fin.no.args.length bp.e.cNA,.slice bp.e.pA y.fin.args.length bp.e.cA]:=h6.sl2 7 _ rfl;have k2:a6.tmps[8]?.getD undef=.int .i64 (bi:Int):=h6.sl2 8 _ rfl;go_simp;exact hK
  clear h6;intro a7 hF7;refine St.go hF7 ?_;clear hF7 a7;refine sc_1 cf109 hW3 (cBlockFault_any (m:=m) (p:=p) (c:=c) (x:=x) (fp:=fp) (fi:=fi) (y:=y) (bp:=bp) (bi:=bi) (hx.out.below hW3.bel) hs.out (hy.out.below hW3.bel) ht.out hm hfi hbi) trivial rfl rfl ?_;clear hW3;intro w8 hW8;refine sT 0 hW8 rfl rfl infFault rfl rfl rfl ?_;clear hW8;intro w9 hW9;refine St.nil fun a10 h10=>?_;refine hK5 _ _ ?_;refine wp_ret ?_;with_reducible repeat first | refine of_then_ret ?_ | refine of_block_ret ?_
  exact ret_box 0 h10 hW9 rfl rfl rfl Tryz.underlying27 rfl infFault ⟨rfl,hW9.bel⟩
theorem cFuncFault_any {n : Nat} {m : List (MFunc n)} {p : Option Addr} {c : Nat} {x : MFunc n} {fp : FP} {fi : Nat} {w : World} (hx0 : FIn w All x fp) (hs0 : x.small) (hm : m.length ≤ 100000) (hfi : fi < 1000000) :
    Rd Tryz.prog 56 #[.agg #[.slice p m.length c,.int .i64 x.regs,.slice fp.pP x.params.length fp.cP,.slice fp.pR x.results.length fp.cR,.slice fp.pB x.blocks.length fp.cB,.int .i64 (fi:Int)]] w (faultV (MFunc.fault m.length fi x)):=by
  have hx:Hid _:=hx0;have hs:Hid _:=hs0;clear hx0 hs0;refine fr_enter (n:=18) Tryz.func56 rfl rfl rfl ?_;intro a hF;have hW:=Wd.start w;replace hF:Fr 18 a [(0,.agg #[.slice p m.length c,.int .i64 x.regs,.slice fp.pP x.params.length fp.cP,.slice fp.pR x.results.length fp.cR,.slice fp.pB x.blocks.length fp.cB,.int .i64 (fi:Int)])]:=hF;refine wp_seq_k fun K1 hK1=>?_;refine rg hF fun ops=>?_;clear hF a;refine sB hW trivial rfl rfl ?_;clear hW;intro w2 B2 hW2 hN;clear hN;refine sAFault hW2 trivial rfl ?_;clear hW2;intro w3 B3 hW3 hN;clear hN;refine St.nil fun a4 h4=>?_;refine hK1 _ _ ?_;refine wp_seq_k fun K5 hK5=>?_;refine wp_seq_k fun K6 hK6=>?_;refine rg h4 fun ops=>?_;clear h4 a4;refine sS 1 6 Tryz.underlying106 rfl inffuncLook hW3 trivial rfl rfl rfl rfl ?_;refine sc_1 cf104 hW3 (funcCode_any (m:=m) (p:=p) (c:=c) (fi:=fi) (hx.out.below hW3.bel) hs.out) trivial rfl rfl ?_;clear hW3;intro w7 hW7;refine sa trivial rfl rfl ?_;refine St.nil fun a8 h8=>?_;refine hK6 _ _ ?_;refine wp_seq_k fun K9 hK9=>?_;refine rg h8 fun ops=>?_;clear h8 a8;refine sm trivial rfl rfl ?_;refine sne trivial rfl rfl rfl ?_;refine St.nil fun a10 h10=>?_;refine hK9 _ _ ?_;refine fr_cond (t:=7) h10 rfl (fun hb=>?_) (fun hb=>?_)
  ·have h9:¬ (x.code fi)=0:=bne_iff_ne.1 hb
   have hc11:¬ (x.code fi)=0:=h9;clear h9;clear hb;refine wp_seq_k fun K12 hK12=>?_;refine rg h10 fun ops=>?_;clear h10 a10;refine sm trivial rfl rfl ?_;refine sffuncLook2 trivial rfl rfl ?_;refine sbInt 1 hW7 trivial rfl rfl rfl rfl ?_;refine sc_1 cf106 hW7 (cFuncAt_any (f:=fi) (by omega)) trivial rfl rfl ?_;clear hW7;intro w13 hW13;refine sc_2 cf105 hW13 (faultAt_any (xc:=x.code fi) (xp:=10000*(fi:Int)+9999)) trivial rfl rfl rfl ?_;clear hW13;intro w14 hW14;refine sT 0 hW14 rfl rfl infFault rfl rfl rfl ?_;clear hW14;intro w15 hW15;refine St.nil fun a16 h16=>?_;refine hK12 _ _ ?_;refine wp_ret ?_;with_reducible repeat first | refine of_then_ret ?_ | refine of_block_ret ?_
   have e0:=hc11;have EF:=MFunc.fault_eq m.length fi x;rw [if_neg e0] at EF;exact ret_box 0 h16 hW15 rfl rfl rfl Tryz.underlying27 rfl infFault ⟨by show Ending.returned (.agg #[.int .i64 ((atF (x.code fi) (10000*(fi:Int)+9999)).1),.int .i64 ((atF (x.code fi) (10000*(fi:Int)+9999)).2)])=_;rw [EF] ;simp [atF,e0],hW15.bel⟩
  have h9:(x.code fi)=0:=bne_eq_false_iff_eq.1 hb;have hc17:Hid ((x.code fi)=0):=h9;clear h9;clear hb;refine wp_skip ?_;refine hK5 _ _ ?_;refine wp_seq_k fun K18 hK18=>?_;refine rg h10 fun ops=>?_;clear h10 a10;refine sffuncLook1 trivial rfl rfl ?_;refine sfFunc3 trivial rfl rfl ?_;refine sbBlocks 1 hW7 trivial rfl rfl rfl rfl ?_;intro a19 h19;refine fr_pure (t:=16) (v:=.func (.func 108) #[] #[.pointer (some ⟨B2,0,none⟩)]) (w':=w7) h19 rfl rfl rfl (fun K hK=>?_) ?_
  ·have k0:a19.tmps.getD 1 undef=.pointer (some ⟨B2,0,none⟩):=h19.sl 1 _ rfl
   go_simp;exact hK
  clear h19;intro a20 hF20;refine St.go hF20 ?_;clear hF20 a20;refine sc_2 cf107 hW7 (ffBlock_any (Bc:=B2) (fun b y=>MBlock.fault m.length fi x b y) (Lay.below hx.out.blocks hW7.bel) (by have:=hs.out.1;omega) (fun b y yi wx hz hi hb=>clo72_any ((hx.out.below hW7.bel).below hb) hs.out hi (hs.out.2.2.2 _ (List.mem_of_getElem? hz)) hm hfi (by have h9:=(List.getElem?_eq_some_iff.1 hz).1;have:=hs.out.1;omega) ((hW7.get 1 rfl).below hb))) trivial rfl rfl rfl ?_;clear hW7;intro w21 hW21;refine sT 0 hW21 rfl rfl infFault rfl rfl rfl ?_;clear hW21;intro w22 hW22;refine St.nil fun a23 h23=>?_;refine hK18 _ _ ?_;refine wp_ret ?_;with_reducible repeat first | refine of_then_ret ?_ | refine of_block_ret ?_
  have e0:=hc17.out;have EF:=MFunc.fault_eq m.length fi x;rw [if_pos e0] at EF;exact ret_box 0 h23 hW22 rfl rfl rfl Tryz.underlying27 rfl infFault ⟨by show Ending.returned (.agg #[.int .i64 ((firstF (fun b y=>MBlock.fault m.length fi x b y) 0 x.blocks).1),.int .i64 ((firstF (fun b y=>MBlock.fault m.length fi x b y) 0 x.blocks).2)])=_;rw [EF],hW22.bel⟩
theorem clo46_any {n : Nat} {m : List (MFunc n)} {p : Option Addr} {c : Nat} {x : MFunc n} {fp : FP} {fi : Nat} {w : World} (hx0 : FIn w All x fp) (hs0 : x.small) {Bc : Nat} (hm : m.length ≤ 100000) (hfi : fi < 1000000) (hcap0 : Blk w Bc #[.slice p m.length c] 25) :
    Rd Tryz.prog 55 #[.int .i64 (fi:Int),.agg #[.int .i64 x.regs,.slice fp.pP x.params.length fp.cP,.slice fp.pR x.results.length fp.cR,.slice fp.pB x.blocks.length fp.cB],.pointer (some ⟨Bc,0,none⟩)] w (faultV (MFunc.fault m.length fi x)):=by
  have hx:Hid _:=hx0;have hs:Hid _:=hs0;clear hx0 hs0;have hcap:Hid _:=hcap0;clear hcap0;refine fr_enter (n:=11) Tryz.func55 rfl rfl rfl ?_;intro a hF;have hW:=Wd.start w;replace hF:Fr 11 a [(0,.int .i64 (fi:Int)),(1,.agg #[.int .i64 x.regs,.slice fp.pP x.params.length fp.cP,.slice fp.pR x.results.length fp.cR,.slice fp.pB x.blocks.length fp.cB]),(2,.pointer (some ⟨Bc,0,none⟩))]:=hF;refine wp_seq_k fun K1 hK1=>?_;refine rg hF fun ops=>?_;clear hF a;refine sB hW trivial rfl rfl ?_;clear hW;intro w2 B2 hW2 hN;clear hN;refine sAFault hW2 trivial rfl ?_;clear hW2;intro w3 B3 hW3 hN;clear hN;refine St.nil fun a4 h4=>?_;refine hK1 _ _ ?_;refine wp_seq_k fun K5 hK5=>?_;refine rg h4 fun ops=>?_;clear h4 a4;refine sSE Tryz.underlying25 rfl (rangeAt_bel (rangeOf hcap.out 0 1 rfl) hW3.bel) infModule trivial rfl rfl ?_;refine sS 1 4 Tryz.underlying42 rfl infFunc hW3 trivial rfl rfl rfl rfl ?_;refine sm trivial rfl rfl ?_;intro a6 h6;refine fr_pure (t:=9) (v:=.agg #[.slice p m.length c,.int .i64 x.regs,.slice fp.pP x.params.length fp.cP,.slice fp.pR x.results.length fp.cR,.slice fp.pB x.blocks.length fp.cB,.int .i64 (fi:Int)]) (w':=w3) h6 rfl rfl rfl (fun K hK=>?_) ?_
  ·have k0:a6.tmps[6]?.getD undef=.agg #[.slice p m.length c]:=h6.sl2 6 _ rfl
   have k1:a6.tmps[7]?.getD undef=.agg #[.int .i64 x.regs,.slice fp.pP x.params.length fp.cP,.slice fp.pR x.results.length fp.cR,.slice fp.pB x.blocks.length fp.cB]:=h6.sl2 7 _ rfl;have k2:a6.tmps[8]?.getD undef=.int .i64 (fi:Int):=h6.sl2 8 _ rfl;go_simp;exact hK
  clear h6;intro a7 hF7;refine St.go hF7 ?_;clear hF7 a7;refine sc_1 cf56 hW3 (cFuncFault_any (m:=m) (p:=p) (c:=c) (x:=x) (fp:=fp) (fi:=fi) (hx.out.below hW3.bel) hs.out hm hfi) trivial rfl rfl ?_;clear hW3;intro w8 hW8;refine sT 0 hW8 rfl rfl infFault rfl rfl rfl ?_;clear hW8;intro w9 hW9;refine St.nil fun a10 h10=>?_;refine hK5 _ _ ?_;refine wp_ret ?_;with_reducible repeat first | refine of_then_ret ?_ | refine of_block_ret ?_
  exact ret_box 0 h10 hW9 rfl rfl rfl Tryz.underlying27 rfl infFault ⟨rfl,hW9.bel⟩
theorem cCheck_any {n : Nat} {m : List (MFunc n)} {p : Option Addr} {c : Nat} {w : World} (hm0 : (modL n).In w All m [.slice p m.length c]) (hs0 : msmall m) :
    Rd Tryz.prog 24 #[.agg #[.slice p m.length c]] w (faultV (modFault m)):=by
  have hmm:Hid _:=hm0;have hms:Hid _:=hs0;clear hm0 hs0;refine fr_enter (n:=18) Tryz.func24 rfl rfl rfl ?_;intro a hF;have hW:=Wd.start w;replace hF:Fr 18 a [(0,.agg #[.slice p m.length c])]:=hF;refine wp_seq_k fun K1 hK1=>?_;refine rg hF fun ops=>?_;clear hF a;refine sB hW trivial rfl rfl ?_;clear hW;intro w2 B2 hW2 hN;clear hN;refine sAFault hW2 trivial rfl ?_;clear hW2;intro w3 B3 hW3 hN;clear hN;refine St.nil fun a4 h4=>?_;refine hK1 _ _ ?_;refine wp_seq_k fun K5 hK5=>?_;refine wp_seq_k fun K6 hK6=>?_;refine fr_region ?_;intro ops hops;have hg4:(ops[4]?).bind (fun o:Oper=>o.dst)=some 7:=hops 4;clear hops;refine St.go h4 ?_;clear h4 a4;refine sfModule0 trivial rfl rfl ?_;refine sbFuncs 1 hW3 trivial rfl rfl rfl rfl ?_;refine slFuncs trivial rfl rfl ?_;refine slt trivial rfl rfl rfl ?_;refine sm trivial rfl rfl ?_;intro a7 h7;rcases Bool.eq_false_or_eq_true (decide ((m.length:Int)<1)) with hb | hb
  ·rw [hb] at h7
   have hc8:m.length<1:=by have:=of_decide_eq_true hb;omega
   clear hb;refine St.go h7 ?_;clear h7 a7;refine so hg4 rfl rfl rfl rfl ?_;refine so hg4 rfl rfl rfl rfl ?_;refine so hg4 rfl rfl rfl rfl ?_;refine so hg4 rfl rfl rfl rfl ?_;refine sp trivial rfl rfl rfl ?_;refine St.nil fun a9 h9=>?_;refine hK6 _ _ ?_;refine fr_true (t:=12) h9 rfl ?_;refine wp_seq_k fun K10 hK10=>?_;refine rg h9 fun ops=>?_;clear h9 a9;intro a11 h11;refine fr_pure (t:=13) (v:=.agg #[.int .i64 2,.int .i64 (-1)]) (w':=w3) h11 rfl rfl rfl (fun K hK=>?_) ?_
   ·go_simp
    exact hK
   clear h11;intro a12 hF12;refine St.go hF12 ?_;clear hF12 a12;refine sT 0 hW3 rfl rfl infFault rfl rfl rfl ?_;clear hW3;intro w13 hW13;refine St.nil fun a14 h14=>?_;refine hK10 _ _ ?_;refine wp_ret ?_;with_reducible repeat first | refine of_then_ret ?_ | refine of_block_ret ?_
   have R:modFault m=(2,-1):=if_pos (by omega);exact ret_box 0 h14 hW13 rfl rfl rfl Tryz.underlying27 rfl infFault ⟨by show Ending.returned (.agg #[.int .i64 2,.int .i64 (-1)])=_;rw [R],hW13.bel⟩
  rw [hb] at h7;have hc15:¬ (m.length<1):=by have:=of_decide_eq_false hb;omega
  clear hb;refine St.go h7 ?_;clear h7 a7;refine sfModule0 ⟨_,hg4,rfl,rfl⟩ rfl rfl ?_;refine sbFuncs 1 hW3 ⟨_,hg4,rfl,rfl⟩ rfl rfl rfl rfl ?_;refine slFuncs ⟨_,hg4,rfl,rfl⟩ rfl rfl ?_;refine sgt ⟨_,hg4,rfl,rfl⟩ rfl rfl rfl ?_;refine spf trivial rfl rfl rfl ?_;refine St.nil fun a16 h16=>?_;refine hK6 _ _ ?_;refine fr_cond (t:=12) h16 rfl (fun hb=>?_) (fun hb=>?_)
  ·have hc17:8<m.length:=by have:=of_decide_eq_true hb;omega
   clear hb;refine wp_seq_k fun K18 hK18=>?_;refine rg h16 fun ops=>?_;clear h16 a16;intro a19 h19;refine fr_pure (t:=13) (v:=.agg #[.int .i64 2,.int .i64 (-1)]) (w':=w3) h19 rfl rfl rfl (fun K hK=>?_) ?_
   ·go_simp
    exact hK
   clear h19;intro a20 hF20;refine St.go hF20 ?_;clear hF20 a20;refine sT 0 hW3 rfl rfl infFault rfl rfl rfl ?_;clear hW3;intro w21 hW21;refine St.nil fun a22 h22=>?_;refine hK18 _ _ ?_;refine wp_ret ?_;with_reducible repeat first | refine of_then_ret ?_ | refine of_block_ret ?_
   have R:modFault m=(2,-1):=if_pos (by omega);exact ret_box 0 h22 hW21 rfl rfl rfl Tryz.underlying27 rfl infFault ⟨by show Ending.returned (.agg #[.int .i64 2,.int .i64 (-1)])=_;rw [R],hW21.bel⟩
  have hc23:¬ (8<m.length):=by have:=of_decide_eq_false hb;omega
  clear hb;refine wp_skip ?_;refine hK5 _ _ ?_;refine wp_seq_k fun K24 hK24=>?_;refine rg h16 fun ops=>?_;clear h16 a16;refine sfModule0 trivial rfl rfl ?_;refine sbFuncs 1 hW3 trivial rfl rfl rfl rfl ?_;intro a25 h25;refine fr_pure (t:=16) (v:=.func (.func 55) #[] #[.pointer (some ⟨B2,0,none⟩)]) (w':=w3) h25 rfl rfl rfl (fun K hK=>?_) ?_
  ·have k0:a25.tmps.getD 1 undef=.pointer (some ⟨B2,0,none⟩):=h25.sl 1 _ rfl
   go_simp;exact hK
  clear h25;intro a26 hF26;refine St.go hF26 ?_;clear hF26 a26;refine sc_2 cf54 hW3 (ffFunc_any (Bc:=B2) (fun f x=>MFunc.fault m.length f x) (Lay.below hmm.out hW3.bel) (by have:=hms.out.1;omega) (fun f x xi wx hz hi hb=>clo46_any hi (hms.out.2 _ (List.mem_of_getElem? hz)) (by have:=hms.out.1;omega) (by have h9:=(List.getElem?_eq_some_iff.1 hz).1;have:=hms.out.1;omega) ((hW3.get 1 rfl).below hb))) trivial rfl rfl rfl ?_;clear hW3;intro w27 hW27;refine sT 0 hW27 rfl rfl infFault rfl rfl rfl ?_;clear hW27;intro w28 hW28;refine St.nil fun a29 h29=>?_;refine hK24 _ _ ?_;refine wp_ret ?_;with_reducible repeat first | refine of_then_ret ?_ | refine of_block_ret ?_
  have R:modFault m=firstF (fun f x=>MFunc.fault m.length f x) 0 m:=if_neg (by omega);exact ret_box 0 h29 hW28 rfl rfl rfl Tryz.underlying27 rfl infFault ⟨by show Ending.returned (.agg #[.int .i64 ((firstF (fun f x=>MFunc.fault m.length f x) 0 m).1),.int .i64 ((firstF (fun f x=>MFunc.fault m.length f x) 0 m).2)])=_;rw [R],hW28.bel⟩
end Go.Proofs.YtalfbnllodhkiacGreatDoor
namespace Go.Proofs.YtalfbnllodhkiacGreatDoor
open Go.ChangeShapes Go.WideShapes Go.ChangeAt Go.RowKit Go.Shelf
set_option linter.unusedSimpArgs false
set_option linter.unusedVariables false
theorem isS_new {w : World} {B : Nat} (hB : B ≤ w.heap.size) : IsS B w.heap.size [] (w.alloc (.cells #[.pointer none, .slice none 0 0] 90)) :=
  Or.inl ⟨hB,.slice none 0 0,blockNew w _ _,⟨rfl,Or.inl ⟨rfl,rfl⟩⟩,by simp [Value.ownBlock]⟩
def PrintV (x : List UInt8 × Int × Int) : Value := .tuple #[.string (str x.1), .agg #[.int .i64 x.2.1, .int .i64 x.2.2]]
def Prints (w : World) (x : List UInt8 × Int × Int) (e : Ending) (w' : World) : Prop := e = .returned (PrintV x) ∧ Below w.heap.size w w'
theorem blk_facts {w : World} {g : Nat} {x y : Value} {t : TypeId} (h : Blk w g #[x, y] t) : w.cell? ⟨g, 0, none⟩ = some x ∧ w.cell? ⟨g, 1, none⟩ = some y ∧ w.frozen? ⟨g, 0, none⟩ = false ∧ w.frozen? ⟨g, 1, none⟩ = false ∧ g < w.heap.size :=
  ⟨cellOf h 0 _ rfl,cellOf h 1 _ rfl,Lib.frozen_of_heap h 0,Lib.frozen_of_heap h 1,lt_of_block h⟩
theorem stored {w : World} {g : Nat} {x y : Value} {t : TypeId} (x' y' : Value) (h : Blk w g #[x, y] t) : Blk ((w.setCell ⟨g, 0, none⟩ x').setCell ⟨g, 1, none⟩ y') g #[x', y'] t := by
  have:=blockSet (blockSet h 0 x') 1 y'
  simpa using this
theorem storedB {w w0 : World} {g B : Nat} (x' y' : Value) (hg : B ≤ g) (h : Below B w0 w) : Below B w0 ((w.setCell ⟨g, 0, none⟩ x').setCell ⟨g, 1, none⟩ y') := (h.setCell (p := ⟨g, 0, none⟩) hg x').setCell (p := ⟨g, 1, none⟩) hg y'
theorem print_walk {ml : Nat} {p : Option Addr} {c : Nat} {w : World} {fc fa : Int} {nm : Bool} {t : List UInt8} {res : List UInt8 × Int × Int}
    (CC:Hid (∀ wx,Below w.heap.size w wx→Calls Tryz.prog 24 #[.agg #[.slice p ml c]] wx fun e w'=>e=.returned (.agg #[.int .i64 fc,.int .i64 fa])∧Below wx.heap.size wx w'))
    (CM:Hid (∀ wx,Below w.heap.size w wx→Calls Tryz.prog 45 #[.agg #[.slice p ml c]] wx fun e w'=>e=.returned (.bool nm)∧Below wx.heap.size wx w'))
    (CT:Hid (fc=0→∀ b wx,Below w.heap.size w wx→IsS w.heap.size b [] wx→Calls Tryz.prog 46 #[.pointer (some ⟨b,0,none⟩),.agg #[.slice p ml c]] wx (Parts w.heap.size b t wx)))
    (ht:Hid (t≠[]∨fc≠0)) (hres:Hid (res=if fc≠0 then ([],fc,fa) else if nm=false then ([],8,-1) else if 40000<t.length then ([],2,-1) else (t,0,0))) :
    Calls Tryz.prog 20 #[.agg #[.slice p ml c]] w (Prints w res):=by
  have b1:Below w.heap.size w ((w.alloc (.cells #[.slice p ml c] 25)).alloc (.cells #[.int .i64 0,.int .i64 0] 27)):=bel2 _ _ _;have X1:Blk ((w.alloc (.cells #[.slice p ml c] 25)).alloc (.cells #[.int .i64 0,.int .i64 0] 27)) w.heap.size #[.slice p ml c] 25:=Blk.new1 _ _ _ _ _;have X2:Blk ((w.alloc (.cells #[.slice p ml c] 25)).alloc (.cells #[.int .i64 0,.int .i64 0] 27)) (w.heap.size+1) #[.int .i64 0,.int .i64 0] 27:=Blk.new2 _ _ _ _;have B1:Hid (Below w.heap.size w ((w.alloc (.cells #[.slice p ml c] 25)).alloc (.cells #[.int .i64 0,.int .i64 0] 27))):=b1;clear b1;go_enter Tryz.func20,Tryz.ntmps20
  go_wp2_with fail
  generalize ((w.alloc (.cells #[.slice p ml c] 25)).alloc (.cells #[.int .i64 0,.int .i64 0] 27))=w1 at X1 X2 B1 ⊢;refine (CC.out _ B1.out).mono ?_;rintro e w2 ⟨rfl,b2⟩;replace X1:=(b2.block _ (lt_of_block X1)).trans X1;replace X2:=(b2.block _ (lt_of_block X2)).trans X2;have B2:Hid (Below w.heap.size w w2):=B1.out.trans (b2.mono B1.out.size);clear b2 B1 CC;have d0:=cellOf X1 0 _ rfl;have d1:=lt_of_block X1;obtain ⟨e0,e1,f0,f1,l1⟩:=blk_facts X2;by_cases hc:fc=0
  · have hc':Hid (fc=0):=hc;replace CT:=CT.out hc;have hz:Hid (t≠[]):=ht.out.resolve_right (fun h=>h hc);have hr:Hid (res=if nm=false then ([],8,-1) else if 40000<t.length then ([],2,-1) else (t,0,0)):=by show _=_;rw [hres.out,if_neg (by simp [hc])]
    subst hc;clear hres ht hc';have B3:Hid (Below w.heap.size w (w2.alloc (.cells #[.int .i64 0,.int .i64 fa] 27))):=B2.out.trans ((bel1 _ _).mono B2.out.size);replace X1:=((bel1 w2 (.cells #[.int .i64 0,.int .i64 fa] 27)).block _ (lt_of_block X1)).trans X1;replace X2:=((bel1 w2 (.cells #[.int .i64 0,.int .i64 fa] 27)).block _ (lt_of_block X2)).trans X2;go_wp2_with fail
    clear d0 d1 e0 e1 f0 f1 l1 B2;generalize w2.alloc (.cells #[.int .i64 0,.int .i64 fa] 27)=w3 at X1 X2 B3 ⊢;refine (CM.out _ B3.out).mono ?_;rintro e w4 ⟨rfl,b4⟩;replace X1:=(b4.block _ (lt_of_block X1)).trans X1;replace X2:=(b4.block _ (lt_of_block X2)).trans X2;have B4:Hid (Below w.heap.size w w4):=B3.out.trans (b4.mono B3.out.size);clear b4 B3 CM;have d0:=cellOf X1 0 _ rfl;have d1:=lt_of_block X1;obtain ⟨e0,e1,f0,f1,l1⟩:=blk_facts X2
    cases nm with
    | false =>
      have R:Hid (PrintV res=.tuple #[.string ⟨#[]⟩,.agg #[.int .i64 8,.int .i64 (-1)]]):=by show _=_;rw [hr.out,if_pos rfl];rfl
      have X5:=stored (.int .i64 8) (.int .i64 (-1)) X2;have B5:Hid (Below w.heap.size w ((w4.setCell ⟨w.heap.size+1,0,none⟩ (.int .i64 8)).setCell ⟨w.heap.size+1,1,none⟩ (.int .i64 (-1)))):=storedB _ _ (Nat.le_succ _) B4.out;clear X1 X2 CT hr hz B4;go_wp2
      generalize (w4.setCell ⟨w.heap.size+1,0,none⟩ (.int .i64 8)).setCell ⟨w.heap.size+1,1,none⟩ (.int .i64 (-1))=w9 at X5 B5 ⊢;have y0:=cellOf X5 0 _ rfl;have y1:=cellOf X5 1 _ rfl;exact bodyPost_ret (v:=.tuple #[.string ⟨#[]⟩,.agg #[.int .i64 8,.int .i64 (-1)]]) (by simp [results,Tryz.results20,go_sem,y0,y1]) rfl ⟨by rw [R.out],B5.out⟩
    | true =>
      replace hr:Hid (res=if 40000<t.length then ([],2,-1) else (t,0,0)):=by show _=_;rw [hr.out,if_neg (by decide)]
      have b5:Below w4.heap.size w4 (w4.alloc (.cells #[.pointer none,.slice none 0 0] 90)):=bel1 _ _;have I5:Hid (IsS w.heap.size w4.heap.size [] (w4.alloc (.cells #[.pointer none,.slice none 0 0] 90))):=isS_new B4.out.size;have B5:Hid (Below w.heap.size w (w4.alloc (.cells #[.pointer none,.slice none 0 0] 90))):=B4.out.trans (b5.mono B4.out.size);replace X1:=(b5.block _ (lt_of_block X1)).trans X1;replace X2:=(b5.block _ (lt_of_block X2)).trans X2;have nb:w.heap.size+1≠w4.heap.size:=by omega
      have HCT:Hid (∀ b wx,Below w.heap.size w wx→IsS w.heap.size b [] wx→Calls Tryz.prog 46 #[.pointer (some ⟨b,0,none⟩),.agg #[.slice p ml c]] wx (Parts w.heap.size b t wx)):=CT;clear b5 CT;go_wp2_with fail
      clear e0 e1 f0 f1 d0 B4;generalize w4.alloc (.cells #[.pointer none,.slice none 0 0] 90)=w5 at X1 X2 B5 I5 ⊢;generalize w4.heap.size=b at I5 nb ⊢;refine (HCT.out b w5 B5.out I5.out).mono ?_;rintro e w6 (⟨rfl,h6,-⟩ | ⟨rfl,h6,-⟩)
      · have X6:=h6.1.wr.blk X2 nb (by decide);have B6:Hid (Below w.heap.size w w6):=B5.out.trans h6.1.wr.below;have CS:Hid (Calls Tryz.prog 47 #[.pointer (some ⟨b,0,none⟩)] w6 fun e w'=>e=.returned (.string (str t))∧Wr w.heap.size b w6 w'):=sstr_any w.heap.size b t w6 h6.1.is hz.out;have R:Hid (PrintV res=.tuple #[.string (str t),.agg #[.int .i64 0,.int .i64 0]]):=by show _=_;rw [hr.out,if_neg (by have:=h6.2;omega)];rfl
        clear h6 X1 X2 hr hz I5 B5 HCT;go_wp2_with fail
        refine CS.out.mono ?_;rintro e w7 ⟨rfl,b7⟩;have X7:=b7.blk X6 nb (by decide);have B7:Hid (Below w.heap.size w w7):=B6.out.trans b7.below;obtain ⟨e0,e1,f0,f1,l7⟩:=blk_facts X7;have X8:=stored (.int .i64 0) (.int .i64 0) X7;have B8:Hid (Below w.heap.size w ((w7.setCell ⟨w.heap.size+1,0,none⟩ (.int .i64 0)).setCell ⟨w.heap.size+1,1,none⟩ (.int .i64 0))):=storedB _ _ (Nat.le_succ _) B7.out;clear b7 X6 X7 B6 B7 CS;go_wp2
        generalize (w7.setCell ⟨w.heap.size+1,0,none⟩ (.int .i64 0)).setCell ⟨w.heap.size+1,1,none⟩ (.int .i64 0)=w9 at X8 B8 ⊢;have y0:=cellOf X8 0 _ rfl;have y1:=cellOf X8 1 _ rfl;exact bodyPost_ret (v:=.tuple #[.string (str t),.agg #[.int .i64 0,.int .i64 0]]) (by simp [results,Tryz.results20,go_sem,y0,y1]) rfl ⟨by rw [R.out],B8.out⟩
      · have X6:=h6.1.blk X2 nb (by decide);have B6:Hid (Below w.heap.size w w6):=B5.out.trans h6.1.below;have R:Hid (PrintV res=.tuple #[.string ⟨#[]⟩,.agg #[.int .i64 2,.int .i64 (-1)]]):=by show _=_;rw [hr.out,if_pos (by have:=h6.2;omega)];rfl
        obtain ⟨e0,e1,f0,f1,l7⟩:=blk_facts X6;have X8:=stored (.int .i64 2) (.int .i64 (-1)) X6;have B8:Hid (Below w.heap.size w ((w6.setCell ⟨w.heap.size+1,0,none⟩ (.int .i64 2)).setCell ⟨w.heap.size+1,1,none⟩ (.int .i64 (-1)))):=storedB _ _ (Nat.le_succ _) B6.out;clear h6 X1 X2 hr hz I5 B5 HCT B6;go_wp2
        generalize (w6.setCell ⟨w.heap.size+1,0,none⟩ (.int .i64 2)).setCell ⟨w.heap.size+1,1,none⟩ (.int .i64 (-1))=w9 at X8 B8 ⊢;have y0:=cellOf X8 0 _ rfl;have y1:=cellOf X8 1 _ rfl;exact bodyPost_ret (v:=.tuple #[.string ⟨#[]⟩,.agg #[.int .i64 2,.int .i64 (-1)]]) (by simp [results,Tryz.results20,go_sem,y0,y1]) rfl ⟨by rw [R.out],B8.out⟩
  · have R:Hid (PrintV res=.tuple #[.string ⟨#[]⟩,.agg #[.int .i64 fc,.int .i64 fa]]):=by show _=_;rw [hres.out,if_pos hc];rfl
    have B3:Hid (Below w.heap.size w (w2.alloc (.cells #[.int .i64 fc,.int .i64 fa] 27))):=B2.out.trans ((bel1 _ _).mono B2.out.size);have X3:=((bel1 w2 (.cells #[.int .i64 fc,.int .i64 fa] 27)).block _ (lt_of_block X2)).trans X2;have Y3:=Blk.new w2 #[.int .i64 fc,.int .i64 fa] 27;have hne:(fc==0)=false:=by simpa using hc
    clear CM CT ht hres;go_wp2_with fail
    clear d0 d1 e0 e1 f0 f1 B2 X1 X2;generalize w2.alloc (.cells #[.int .i64 fc,.int .i64 fa] 27)=w3 at X3 Y3 B3 ⊢;generalize w2.heap.size=Y at l1 Y3 ⊢;obtain ⟨e0,e1,f0,f1,l2⟩:=blk_facts X3;obtain ⟨g0,g1,-,-,l3⟩:=blk_facts Y3;have n2:¬ Y=w.heap.size+1:=by omega
    have X8:=stored (.int .i64 fc) (.int .i64 fa) X3;have B8:Hid (Below w.heap.size w ((w3.setCell ⟨w.heap.size+1,0,none⟩ (.int .i64 fc)).setCell ⟨w.heap.size+1,1,none⟩ (.int .i64 fa)).drew):=(storedB _ _ (Nat.le_succ _) B3.out).drew;go_region;clear g0 g1 e0 e1 f0 f1;replace X8:Blk ((w3.setCell ⟨w.heap.size+1,0,none⟩ (.int .i64 fc)).setCell ⟨w.heap.size+1,1,none⟩ (.int .i64 fa)).drew (w.heap.size+1) #[.int .i64 fc,.int .i64 fa] 27:=X8;generalize ((w3.setCell ⟨w.heap.size+1,0,none⟩ (.int .i64 fc)).setCell ⟨w.heap.size+1,1,none⟩ (.int .i64 fa)).drew=w9 at X8 B8 ⊢;have y0:=cellOf X8 0 _ rfl;have y1:=cellOf X8 1 _ rfl;go_wp2
    exact bodyPost_ret (v:=.tuple #[.string ⟨#[]⟩,.agg #[.int .i64 fc,.int .i64 fa]]) (by simp [results,Tryz.results20,go_sem,y0,y1]) rfl ⟨by rw [R.out],B8.out⟩
theorem print_any {n : Nat} (m : List (MFunc n)) (p : Option Addr) (c : Nat) (w : World) (h0 : (modL n).In w All m [.slice p m.length c]) (hp : Pows w) (hs : msmall m) (ht : ∀ x ∈ m, x.tiny) :
    Calls Tryz.prog 20 #[.agg #[.slice p m.length c]] w (Prints w (printL m)):=by
  refine print_walk (fc:=(modFault m).1) (fa:=(modFault m).2) (nm:=modNums m) (t:=modTxt m) (fun wx hb=>cCheck_any (Lay.below h0 hb) hs) (fun wx hb=>hasNums_any m p c wx (Lay.below h0 hb) hs) (fun hz b wx hb hI=>?_) ?_ rfl
  · exact module_any m p c hI hb.size (Lay.lt (B:=w.heap.size) (Lay.mono h0 fun k _ hk=>hk) hb) (fun w' hw=>hp.below (hb.trans hw)) hs ht (mod_of hz)
  · by_cases hf:(modFault m).1=0
    · refine .inl fun e=>?_;unfold modFault at hf
      cases m with
      | nil=>simp at hf
      | cons x l =>
        have:=congrArg List.length e
        simp [modTxt,MFunc.txt] at this
    · exact .inr hf
end Go.Proofs.YtalfbnllodhkiacGreatDoor
namespace Go.Proofs.YtalfbnllodhkiacGreatDoor
open Go.ChangeShapes Go.WideShapes Go.ChangeAt Go.RowKit
set_option linter.unusedSimpArgs false
set_option linter.unusedVariables false
def T00 : MTo := ⟨0, [], []⟩
def E00 : MEnd := ⟨3, 0, T00, T00, []⟩
def L0 : List (MFunc 1) := [⟨0, [], [], [⟨0, [], [], E00⟩]⟩]
theorem L0_fault : modFault L0 = (0, 0) := by decide +kernel
theorem L0_small : msmall L0 := msmall_of (by
  rintro (h | ⟨x,hx,h⟩)
  · exact absurd h (by decide)
  · simp only [L0,List.mem_singleton] at hx;subst hx;rcases h with h | h | h | ⟨y,hy,h⟩
    · exact absurd h (by decide)
    · rcases h with h | ⟨t,ht,_⟩
      · exact absurd h (by decide)
      · cases ht
    · rcases h with h | ⟨t,ht,_⟩
      · exact absurd h (by decide)
      · cases ht
    · simp only [List.mem_singleton] at hy;subst hy;rcases h with h | h | h | h | h | h | h | ⟨z,hz,h⟩
      · exact absurd h (by decide)
      · rcases h with h | ⟨t,ht,_⟩
        · exact absurd h (by decide)
        · cases ht
      · exact absurd h (by decide)
      · exact absurd h (by decide)
      · exact absurd h (by decide)
      · exact absurd h (by decide)
      · exact absurd h (by decide)
      · cases hz)
theorem one_list {α : Type} {A : Lay α} {w : World} {G : Nat} {c : Array Value} {t : TypeId} {x : α} {cs : List Value} (h : Blk w G c t) (hc : c.toList = cs) (hx : A.In w All x cs) : A.list.In w All [x] [.slice (some ⟨G, 0, none⟩) 1 1] := by
  refine ⟨some ⟨G,0,none⟩,1,rfl,fun i y hy=>?_⟩
  have hi:i=0:=by
    have:=(List.getElem?_eq_some_iff.1 hy).1
    simp at this;exact this
  subst hi;simp at hy
  subst hy;refine ⟨G,0,cs,rfl,trivial,h.lt,fun j hj=>?_,hx⟩;have hl:=A.len hx;have hj':j<c.size:=by rw [← hc] at hl;simp at hl;omega
  rw [Nat.zero_mul,Nat.zero_add,← hc,Array.getElem?_toList];exact (cellOf h j c[j] (Array.getElem?_eq_getElem hj')).trans (Array.getElem?_eq_getElem hj').symm
theorem end_in (w : World) : EIn w All E00 ⟨none, 0, none, 0, none, 0, none, 0, none, 0⟩ :=
  ⟨⟨Lay.list_nil _ _ _ _ _,Lay.list_nil _ _ _ _ _,by decide⟩,⟨Lay.list_nil _ _ _ _ _,Lay.list_nil _ _ _ _ _,by decide⟩,Lay.list_nil _ _ _ _ _,by decide,by decide⟩
theorem least_in {w : World} {G1 G2 : Nat} (h1 : Blk w G1 #[.int .i64 0, .slice none 0 0, .slice none 0 0, .int .i64 3, .int .i64 0, .int .i64 0, .slice none 0 0, .slice none 0 0, .int .i64 0, .slice none 0 0, .slice none 0 0, .slice none 0 0] 52) (h2 : Blk w G2 #[.int .i64 0, .slice none 0 0, .slice none 0 0, .slice (some ⟨G1, 0, none⟩) 1 1] 42) : (modL 1).In w All L0 [.slice (some ⟨G2, 0, none⟩) 1 1] :=
  one_list h2 rfl (func_shut (f:=⟨none,0,none,0,some ⟨G1,0,none⟩,1⟩) ⟨Lay.list_nil _ _ _ _ _,Lay.list_nil _ _ _ _ _,one_list h1 rfl (block_shut (x:=⟨0,[],[],E00⟩) (b:=⟨none,0,none,0,_⟩) ⟨Lay.list_nil _ _ _ _ _,Lay.list_nil _ _ _ _ _,end_in w,by decide⟩),by decide⟩)
def LeastOut (w w' : World) (e : Ending) : Prop := ∃ G1 G2, e = .returned (.agg #[.slice (some ⟨G2, 0, none⟩) 1 1]) ∧ Blk w' G1 #[.int .i64 0, .slice none 0 0, .slice none 0 0, .int .i64 3, .int .i64 0, .int .i64 0, .slice none 0 0, .slice none 0 0, .int .i64 0, .slice none 0 0, .slice none 0 0, .slice none 0 0] 52 ∧ Blk w' G2 #[.int .i64 0, .slice none 0 0, .slice none 0 0, .slice (some ⟨G1, 0, none⟩) 1 1] 42 ∧ w.heap.size ≤ G1 ∧ w.heap.size ≤ G2 ∧ G1 ≠ G2 ∧ Below w.heap.size w w'
theorem least_any (w : World) : Calls Tryz.prog 40 #[] w fun e w' => LeastOut w w' e := by
  refine fr_enter (n:=7) Tryz.func40 rfl rfl rfl ?_;intro a hF;have hW:=Wd.start w;replace hF:Fr 7 a []:=hF;refine wp_seq_k fun K1 hK1=>?_;refine rg hF fun ops=>?_;clear hF a;refine sAModule hW trivial rfl ?_;clear hW;intro w2 B2 hW2 hN;clear hN;refine St.nil fun a3 h3=>?_;refine hK1 _ _ ?_;refine wp_seq_k fun K4 hK4=>?_;refine rg h3 fun ops=>?_;clear h3 a3;intro a5 h5;refine fr_pure (t:=1) (v:=.agg #[.int .i64 3,.int .i64 0,.int .i64 0,.slice none 0 0,.slice none 0 0,.int .i64 0,.slice none 0 0,.slice none 0 0,.slice none 0 0]) (w':=w2) h5 rfl rfl rfl (fun K hK=>?_) ?_
  ·go_simp
   exact hK
  clear h5;intro a6 hF6;refine fr_pure (t:=2) (v:=.agg #[.int .i64 0,.slice none 0 0,.slice none 0 0,.int .i64 3,.int .i64 0,.int .i64 0,.slice none 0 0,.slice none 0 0,.int .i64 0,.slice none 0 0,.slice none 0 0,.slice none 0 0]) (w':=w2) hF6 rfl rfl rfl (fun K hK=>?_) ?_
  ·have k0:a6.tmps[1]?.getD undef=.agg #[.int .i64 3,.int .i64 0,.int .i64 0,.slice none 0 0,.slice none 0 0,.int .i64 0,.slice none 0 0,.slice none 0 0,.slice none 0 0]:=hF6.sl2 1 _ rfl
   go_simp;exact hK
  clear hF6;intro a7 hF7;refine fr_row (t:=3) #[.int .i64 0,.slice none 0 0,.slice none 0 0,.int .i64 3,.int .i64 0,.int .i64 0,.slice none 0 0,.slice none 0 0,.int .i64 0,.slice none 0 0,.slice none 0 0,.slice none 0 0] 52 1 hF7 hW2 rfl rfl rfl (fun K hK=>?_) ?_
  ·have k0:a7.tmps[2]?.getD undef=.agg #[.int .i64 0,.slice none 0 0,.slice none 0 0,.int .i64 3,.int .i64 0,.int .i64 0,.slice none 0 0,.slice none 0 0,.int .i64 0,.slice none 0 0,.slice none 0 0,.slice none 0 0]:=hF7.sl2 2 _ rfl
   go_simp;exact hK
  clear hF7 hW2;intro a8 w9 B9 hW9 hN hF8;clear hN;refine fr_pure (t:=4) (v:=.agg #[.int .i64 0,.slice none 0 0,.slice none 0 0,.slice (some ⟨B9,0,none⟩) 1 1]) (w':=w9) hF8 rfl rfl rfl (fun K hK=>?_) ?_
  ·have k0:a8.tmps[3]?.getD undef=.slice (some ⟨B9,0,none⟩) 1 1:=hF8.sl2 3 _ rfl
   go_simp;exact hK
  clear hF8;intro a10 hF10;refine fr_row (t:=5) #[.int .i64 0,.slice none 0 0,.slice none 0 0,.slice (some ⟨B9,0,none⟩) 1 1] 42 1 hF10 hW9 rfl rfl rfl (fun K hK=>?_) ?_
  ·have k0:a10.tmps[4]?.getD undef=.agg #[.int .i64 0,.slice none 0 0,.slice none 0 0,.slice (some ⟨B9,0,none⟩) 1 1]:=hF10.sl2 4 _ rfl
   go_simp;exact hK
  clear hF10 hW9;intro a11 w12 B12 hW12 hN hF11;clear hN;refine fr_pure (t:=6) (v:=.agg #[.slice (some ⟨B12,0,none⟩) 1 1]) (w':=w12) hF11 rfl rfl rfl (fun K hK=>?_) ?_
  ·have k0:a11.tmps[5]?.getD undef=.slice (some ⟨B12,0,none⟩) 1 1:=hF11.sl2 5 _ rfl
   go_simp;exact hK
  clear hF11;intro a13 hF13;refine St.go hF13 ?_;clear hF13 a13;refine sT 2 hW12 rfl rfl infModule rfl rfl rfl ?_;clear hW12;intro w14 hW14;refine St.nil fun a15 h15=>?_;refine hK4 _ _ ?_;refine wp_ret ?_;with_reducible repeat first | refine of_then_ret ?_ | refine of_block_ret ?_
  exact ret_box 2 h15 hW14 rfl rfl rfl Tryz.underlying25 rfl infModule ⟨B9,B12,rfl,hW14.get 1 rfl,hW14.get 0 rfl,hW14.new 1 _ rfl,hW14.new 0 _ rfl,fun e=>absurd (hW14.nd 1 0 _ _ rfl rfl e) (by decide),hW14.bel⟩
end Go.Proofs.YtalfbnllodhkiacGreatDoor
namespace Go.Proofs.YtalfbnllodhkiacGreatDoor
open Go.ChangeShapes Go.WideShapes Go.ChangeAt Go.RowKit
set_option linter.unusedVariables false
theorem size_any : ∀ (n : Nat) (t : TT n) (a : Option Addr) (c : Nat) (w : World) (left : Int), TIn w All t a → 0 ≤ left → left ≤ 2000 →
    Calls Tryz.prog 116 #[Tv t a c,.int .i64 left] w fun e w'=>e=.returned (.int .i64 (max (-1) (left - t.count)))∧Below w.heap.size w w':=by
  intro n
  induction n with
  | zero=>intro t;exact Empty.elim t
  | succ n ih =>
    intro t a c w left ht h0 h1
    have IH:Hid (∀ (t:TT n) (a:Option Addr) (c:Nat) (w:World) (left:Int),TIn w All t a→0≤left→left≤2000 →
      Calls Tryz.prog 116 #[Tv t a c,.int .i64 left] w fun e w'=>e=.returned (.int .i64 (max (-1) (left - t.count)))∧Below w.heap.size w w'):=ih
    clear ih;have hT:Hid (LIn w All t.2.2 a):=ht.list;have hc:t.count=1+(t.2.2.map TT.count).sum:=rfl;rw [hc];clear hc;simp only [Tv,TT.len_eq];generalize t.2.2=l at hT ⊢;generalize t.kind=k;generalize t.r=r;clear ht t;go_enter Tryz.func116,Tryz.ntmps116
    go_wp2_with fail
    have X0:Hid (Bx w (w.alloc (.cells #[.int .i64 k,.int .i64 r,.slice a l.length c] 78)) k r a l.length c):=Bx.start w k r a l.length c;generalize w.alloc (.cells #[.int .i64 k,.int .i64 r,.slice a l.length c] 78)=w1 at X0 ⊢;go_loopw [1,5] (fun lf i wr=>∃ q:Nat,q≤l.length∧i=.int .i64 q∧lf=.int .i64 (max (-1) (left - 1 - (((l.map TT.count).take q).sum:Nat)))∧Bx w wr k r a l.length c) (fun _ i _=>l.length - (intOf i).toNat)
    case atStart=>exact ⟨0,Nat.zero_le _,rfl,by simp;omega,X0.out⟩
    case round =>
      clear X0;obtain ⟨q,hq,rfl,rfl,hX⟩:=hrel;generalize hs:(((l.map TT.count).take q).sum:Nat)=s;have e2:wr.cell? ⟨w.heap.size,2,none⟩=some (.slice a l.length c):=cellOf hX.box 2 _ rfl;have X1:Hid (Bx w wr k r a l.length c):=hX;by_cases hlt:q<l.length
      · by_cases hge:0≤max (-1) (left - 1 - (s:Int))
        · have hx:l[q]?=some l[q]:=List.getElem?_eq_getElem hlt;generalize l[q]=x at hx;obtain ⟨g,o,a',c',rfl,_,d0,d1,d2,hk⟩:=LIn.at (hT.out.below hX.bel) hx;have H:Hid (TIn wr All x a'):=hk;have hS:=sum_take_succ TT.count l q x hx;rw [hs] at hS;have HS:Hid (((l.map TT.count).take (q+1)).sum=s+x.count):=hS;have S:Hid (max (-1) (left - 1 - (s:Int))≤2000):=by show _≤_;omega
          clear hX hk hx hS;generalize hm:max (-1) (left - 1 - (s:Int))=m at hge S;have M:Hid (max (-1) (left - 1 - (s:Int))=m):=hm;clear hm;have hk0:(0:Int)≤q:=by omega
          have hk1:(q:Int)<l.length:=by omega
          have hk2:(q:Int)<2000:=by
            have h3:=length_le_sum ((l.map TT.count).take q) (fun y hy=>by obtain ⟨z,_,rfl⟩:=List.mem_map.1 (List.mem_of_mem_take hy);exact z.count_pos);have h4:=M.out;rw [List.length_take,List.length_map] at h3;omega
          clear hs;go_wp2_with fail
          refine (IH.out x a' c' _ m H.out hge S.out).mono ?_;rintro e w2 ⟨rfl,b2⟩;have X2:Hid (Bx w w2 k r (some ⟨g,o,none⟩) l.length c):=X1.out.below b2;clear X1;go_wp2
          go_roundw
          case rel=>exact ⟨q+1,by omega,by go_num,by rw [HS.out];have:=M.out;have:=x.count_pos;congr 1;omega,X2.out⟩
          case measure=>simp [intOf];omega
        · have F:Hid (max (-1) (left - 1 - (s:Int))=max (-1) (left - ((1+(l.map TT.count).sum:Nat):Int))):=by
            have:=sum_take_le (l.map TT.count) q
            show _=_;omega
          have hge':max (-1) (left - 1 - (s:Int))<0:=by omega
          generalize max (-1) (left - 1 - (s:Int))=m at F hge' ⊢;clear hge hs;have hk1:(q:Int)<l.length:=by omega
          go_wp2
          go_ret;exact ⟨by show Ending.returned (.int .i64 m)=_;have:=F.out;congr 2,X1.out.bel⟩
      · have F:Hid (max (-1) (left - 1 - (s:Int))=max (-1) (left - ((1+(l.map TT.count).sum:Nat):Int))):=by
          rw [List.take_of_length_le (by simp;omega)] at hs;show _=_;omega
        generalize max (-1) (left - 1 - (s:Int))=m at F ⊢;clear hs;have hk1:¬ (q:Int)<l.length:=by omega
        go_wp2
        go_ret;exact ⟨by show Ending.returned (.int .i64 m)=_;have:=F.out;congr 2,X1.out.bel⟩
theorem great_any (n : Nat) (t : TT n) (a : Option Addr) (c : Nat) (w : World) (ht : TIn w All t a) :
    Calls Tryz.prog 78 #[Tv t a c] w fun e w'=>e=.returned (.bool (decide (2000<t.count)))∧Below w.heap.size w w':=by
  have C:Hid (∀ wx,Below w.heap.size w wx→Calls Tryz.prog 116 #[Tv t a c,.int .i64 2000] wx fun e w'=>e=.returned (.int .i64 (max (-1) (2000 - (t.count:Int))))∧Below wx.heap.size wx w') :=
    fun wx hb=>size_any n t a c wx 2000 (ht.below hb) (by omega) (by omega)
  clear ht;simp only [Tv] at C ⊢;generalize t.kind=k at C ⊢;generalize t.r=r at C ⊢;generalize t.len=len at C ⊢;generalize t.count=q at C ⊢;go_enter Tryz.func78,Tryz.ntmps78
  go_wp2_with fail
  refine (C.out _ ((Below.refl _ w).alloc (Nat.le_refl _) _)).mono ?_;rintro e w2 ⟨rfl,b2⟩;have B:Hid (Below w.heap.size w w2):=((Below.refl _ w).alloc (Nat.le_refl _) _).trans (b2.mono (by simp));have F:Hid (max (-1) (2000 - (q:Int))<0 ↔ 2000<q):=by show _ ↔ _;omega
  generalize max (-1) (2000 - (q:Int))=m at F ⊢;clear b2 C;go_wp2
  go_ret;exact ⟨by show Ending.returned (.bool (decide (m<0)))=_;rw [decide_eq_decide.2 F.out],B.out⟩
end Go.Proofs.YtalfbnllodhkiacGreatDoor
namespace Go.Proofs.YtalfbnllodhkiacGreatDoor
open Go.ChangeShapes Go.WideShapes Go.ChangeAt Go.RowKit
set_option linter.unusedSimpArgs false
set_option linter.unusedVariables false
theorem greatTypes_any (n : Nat) (l : List (TT n)) (p : Option Addr) (c : Nat) (w : World) (hl0 : LIn w All l p) :
    Rd Tryz.prog 41 #[.slice p l.length c] w (.bool (bdec (greatTs l))):=by
  have hl:Hid (LIn w All l p):=hl0;clear hl0;refine fr_enter (n:=18) Tryz.func41 rfl rfl rfl ?_;intro a hF;have hW:=Wd.start w;replace hF:Fr 18 a [(0,.slice p l.length c)]:=hF;refine wp_seq_k fun K1 hK1=>?_;refine rg hF fun ops=>?_;clear hF a;refine sa trivial rfl rfl ?_;refine St.nil fun a2 h2=>?_;refine hK1 _ _ ?_;refine wp_seq_k fun K3 hK3=>?_;refine wp_seq_k fun K4 hK4=>?_;refine rg h2 fun ops=>?_;clear h2 a2;refine sm trivial rfl rfl ?_;refine slTypes trivial rfl rfl ?_;refine sgt trivial rfl rfl rfl ?_;refine St.nil fun a5 h5=>?_;refine hK4 _ _ ?_;refine fr_cond (t:=6) h5 rfl (fun hb=>?_) (fun hb=>?_)
  ·have hlen:200<l.length:=by have:=of_decide_eq_true hb;omega
   refine wp_seq_k fun K6 hK6=>?_;refine rg h5 fun ops=>?_;clear h5 a5;refine sa trivial rfl rfl ?_;refine St.nil fun a7 h7=>?_;refine hK6 _ _ ?_;refine wp_ret ?_;with_reducible repeat first | refine of_then_ret ?_ | refine of_block_ret ?_
   have GR:greatTs l:=by first | exact .inl hlen | exact .inr ⟨x,List.mem_of_getElem? hx.out,hcx⟩
   exact ret_tmp (t:=2) h7 rfl rfl ⟨by rw [bdec_true GR],hW.bel⟩
  have hlen:l.length≤200:=by have:=of_decide_eq_false hb;omega
  refine wp_skip ?_;refine hK3 _ _ ?_;refine wp_seq_k fun K8 hK8=>?_;refine wp_seq_k fun K9 hK9=>?_;refine rg h5 fun ops=>?_;clear h5 a5;refine sa trivial rfl rfl ?_;refine St.nil fun a10 h10=>?_;refine hK9 _ _ ?_;refine wp_block ?_;refine fr_loop (fun r a w'=>∃ q:Nat,q≤l.length∧r=l.length - q∧(∀ (j:Nat) x,j<q→l[j]?=some x→x.count≤2000)∧Fr 18 a [(0,.slice p l.length c),(2,.bool false),(3,.int .i64 (q:Int))]∧Wd w w' []) l.length ⟨0,Nat.zero_le _,rfl,fun j x hj=>by omega,(h10.keep (h10.keep (h10.keep h10.nil (t:=3) rfl) (t:=2) rfl) (t:=0) rfl),hW⟩ ?_;clear h10 hW;rintro r a11 w11 ⟨q,hq,hr,hall,hF11,hW11⟩ KL hKL;refine wp_seq_k fun K12 hK12=>?_;refine wp_seq_k fun K13 hK13=>?_;refine rg hF11 fun ops=>?_;clear hF11 a11;refine sm trivial rfl rfl ?_;refine sm trivial rfl rfl ?_;refine slTypes trivial rfl rfl ?_;refine slt trivial rfl rfl rfl ?_;refine St.nil fun a14 h14=>?_;refine hK13 _ _ ?_;refine fr_cond (t:=10) h14 rfl (fun hb=>?_) (fun hb=>?_)
  ·have hlt:q<l.length:=by have:=of_decide_eq_true hb;omega
   clear hb;obtain ⟨x,hx⟩:∃ x,l[q]?=some x:=⟨_,List.getElem?_eq_getElem hlt⟩;obtain ⟨g,o,p',c',hp,E,H⟩:=lin_at hl.out hx;replace hp:Hid _:=hp;replace E:Hid _:=E;replace H:Hid _:=H;replace hx:Hid _:=hx;refine wp_skip ?_;refine hK12 _ _ ?_;refine wp_seq_k fun K15 hK15=>?_;refine wp_block ?_;refine wp_seq_k fun K16 hK16=>?_;refine rg h14 fun ops=>?_;clear h14 a14;refine sm trivial rfl rfl ?_;refine sm trivial rfl rfl ?_;refine siTypes hp.out hlt trivial rfl rfl rfl ?_;refine sSE Tryz.underlying78 rfl (rangeAt_bel E.out hW11.bel) infType trivial rfl rfl ?_;refine sc_1 cf78 hW11 (great_any n x p' c' w11 (H.out.below hW11.bel)) trivial rfl rfl ?_;clear hW11;intro w17 hW17;refine St.nil fun a18 h18=>?_;refine hK16 _ _ ?_;refine fr_cond (t:=17) h18 rfl (fun hb=>?_) (fun hb=>?_)
   ·have hcx:2000<x.count:=of_decide_eq_true hb
    refine wp_seq_k fun K19 hK19=>?_;refine rg h18 fun ops=>?_;clear h18 a18;refine sa trivial rfl rfl ?_;refine St.nil fun a20 h20=>?_;refine hK19 _ _ ?_;refine wp_ret ?_;with_reducible repeat first | refine of_then_ret ?_ | refine of_block_ret ?_
    have GR:greatTs l:=by first | exact .inl hlen | exact .inr ⟨x,List.mem_of_getElem? hx.out,hcx⟩
    exact ret_tmp (t:=2) h20 rfl rfl ⟨by rw [bdec_true GR],hW17.bel⟩
   have hcx:x.count≤2000:=by have:=of_decide_eq_false hb;omega
   refine wp_skip ?_;refine hK15 _ _ ?_;refine rg h18 fun ops=>?_;clear h18 a18;refine sm trivial rfl rfl ?_;refine sad (by omega) trivial rfl rfl rfl ?_;refine sa trivial rfl rfl ?_;refine St.nil fun a21 h21=>?_;refine hKL _ _ (l.length - (q+1)) (by omega) ⟨q+1,by omega,rfl,fun j y hj hy=>?_,(h21.keep (h21.keep (h21.keep h21.nil (t:=3) rfl) (t:=2) rfl) (t:=0) rfl),hW17⟩;by_cases e:j=q
   · subst e;rw [hx.out] at hy;cases hy;exact hcx
   · exact hall j y (by omega) hy
  have hge:q=l.length:=by have:=of_decide_eq_false hb;omega
  refine wp_exit ?_;refine hK8 _ _ ?_;refine wp_seq_k fun K22 hK22=>?_;refine rg h14 fun ops=>?_;clear h14 a14;refine sa trivial rfl rfl ?_;refine St.nil fun a23 h23=>?_;refine hK22 _ _ ?_;refine wp_ret ?_;with_reducible repeat first | refine of_then_ret ?_ | refine of_block_ret ?_
  have GR:¬ greatTs l:=by
    rintro (h | ⟨x,hx,h⟩)
    · omega
    · obtain ⟨i,hi,rfl⟩:=List.mem_iff_getElem.1 hx
      have:=hall i _ (by omega) (List.getElem?_eq_getElem hi)
      omega
  exact ret_tmp (t:=2) h23 rfl rfl ⟨by rw [bdec_false GR],hW11.bel⟩
theorem greatModule_any (n : Nat) (m : List (MFunc n)) (p : Option Addr) (c : Nat) (w : World) (hm0 : (modL n).In w All m [.slice p m.length c]) :
    Rd Tryz.prog 18 #[.agg #[.slice p m.length c]] w (.bool (bdec (greatMod m))):=by
  have hm:Hid ((modL n).In w All m [.slice p m.length c]):=hm0;clear hm0;refine fr_enter (n:=123) Tryz.func18 rfl rfl rfl ?_;intro a hF;have hW:=Wd.start w;replace hF:Fr 123 a [(0,.agg #[.slice p m.length c])]:=hF;refine wp_seq_k fun K1 hK1=>?_;refine rg hF fun ops=>?_;clear hF a;refine sB hW trivial rfl rfl ?_;clear hW;intro w2 B2 hW2 hN;clear hN;refine sa trivial rfl rfl ?_;refine St.nil fun a3 h3=>?_;refine hK1 _ _ ?_;refine wp_seq_k fun K4 hK4=>?_;refine wp_seq_k fun K5 hK5=>?_;refine rg h3 fun ops=>?_;clear h3 a3;refine sfModule0 trivial rfl rfl ?_;refine sbFuncs 0 hW2 trivial rfl rfl rfl rfl ?_;refine slFuncs trivial rfl rfl ?_;refine sgt trivial rfl rfl rfl ?_;refine St.nil fun a6 h6=>?_;refine hK5 _ _ ?_;refine fr_cond (t:=11) h6 rfl (fun hb=>?_) (fun hb=>?_)
  ·have hc7:20<m.length:=by have:=of_decide_eq_true hb;omega
   clear hb;refine wp_seq_k fun K8 hK8=>?_;refine rg h6 fun ops=>?_;clear h6 a6;refine sa trivial rfl rfl ?_;refine St.nil fun a9 h9=>?_;refine hK8 _ _ ?_;refine wp_ret ?_;with_reducible repeat first | refine of_then_ret ?_ | refine of_block_ret ?_
   have GR:greatMod m:=.inl hc7;exact ret_tmp (t:=2) h9 rfl rfl ⟨by rw [bdec_true GR],hW2.bel⟩
  have hc10:¬ (20<m.length):=by have:=of_decide_eq_false hb;omega
  clear hb;refine wp_skip ?_;refine hK4 _ _ ?_;refine wp_seq_k fun K11 hK11=>?_;refine wp_seq_k fun K12 hK12=>?_;refine rg h6 fun ops=>?_;clear h6 a6;refine sa trivial rfl rfl ?_;refine St.nil fun a13 h13=>?_;refine hK12 _ _ ?_;refine wp_block ?_;refine fr_loop (fun r a w'=>∃ q1:Nat,q1≤m.length∧r=m.length - q1∧(∀ (j:Nat) x,j<q1→m[j]?=some x→¬ x.great)∧Fr 123 a [(0,.agg #[.slice p m.length c]),(1,.pointer (some ⟨B2,0,none⟩)),(2,.bool false),(3,.int .i64 (q1:Int))]∧Wd w w' [(B2,#[.slice p m.length c],25)]) (m.length) ⟨0,Nat.zero_le _,rfl,(fun j x hj=>by omega),(h13.keep (h13.keep (h13.keep (h13.keep h13.nil (t:=3) rfl) (t:=2) rfl) (t:=1) rfl) (t:=0) rfl),hW2⟩ ?_;clear h13 hW2;rintro r1 a14 w14 ⟨q1,hq1,hr1,hall1,hF14,hW14⟩ KL1 hKL1;refine wp_seq_k fun K15 hK15=>?_;refine wp_seq_k fun K16 hK16=>?_;refine rg hF14 fun ops=>?_;clear hF14 a14;refine sm trivial rfl rfl ?_;refine sfModule0 trivial rfl rfl ?_;refine sbFuncs 0 hW14 trivial rfl rfl rfl rfl ?_;refine slFuncs trivial rfl rfl ?_;refine slt trivial rfl rfl rfl ?_;refine St.nil fun a17 h17=>?_;refine hK16 _ _ ?_;refine fr_cond (t:=16) h17 rfl (fun hb=>?_) (fun hb=>?_)
  ·have hlt1:q1<m.length:=by have:=of_decide_eq_true hb;omega
   clear hb;obtain ⟨x,hx1⟩:∃ v9,(m)[q1]?=some v9:=⟨_,List.getElem?_eq_getElem hlt1⟩;obtain ⟨g1,o1,f1,hp1,E1,In1⟩:=func_at hm.out hx1;replace In1:Hid _:=In1;replace hp1:Hid _:=hp1;replace hx1:Hid _:=hx1;replace E1:Hid _:=E1;refine wp_skip ?_;refine hK15 _ _ ?_;refine wp_seq_k fun K18 hK18=>?_;refine wp_block ?_;refine wp_seq_k fun K19 hK19=>?_;refine rg h17 fun ops=>?_;clear h17 a17;refine sfModule0 trivial rfl rfl ?_;refine sbFuncs 0 hW14 trivial rfl rfl rfl rfl ?_;refine sm trivial rfl rfl ?_;refine siFuncs hp1.out hlt1 trivial rfl rfl rfl ?_;refine sSE Tryz.underlying42 rfl (rangeAt_bel E1.out hW14.bel) infFunc trivial rfl rfl ?_;refine sAFunc hW14 trivial rfl ?_;clear hW14;intro w20 B20 hW20 hN;clear hN;refine sT 0 hW20 rfl rfl infFunc rfl rfl rfl ?_;clear hW20;intro w21 hW21;refine St.nil fun a22 h22=>?_;refine hK19 _ _ ?_;refine wp_seq_k fun K23 hK23=>?_;refine wp_seq_k fun K24 hK24=>?_;refine fr_region ?_;intro ops hops;have hg4:(ops[4]?).bind (fun o:Oper=>o.dst)=some 28:=hops 4;have hg9:(ops[9]?).bind (fun o:Oper=>o.dst)=some 33:=hops 9;clear hops;refine St.go h22 ?_;clear h22 a22;refine sfFunc3 trivial rfl rfl ?_;refine sbBlocks 0 hW21 trivial rfl rfl rfl rfl ?_;refine slBlocks trivial rfl rfl ?_;refine sgt trivial rfl rfl rfl ?_;refine sm trivial rfl rfl ?_;intro a25 h25;rcases Bool.eq_false_or_eq_true (decide (30<(x.blocks.length:Int))) with hb | hb
   ·rw [hb] at h25
    have hc26:30<x.blocks.length:=by have:=of_decide_eq_true hb;omega
    clear hb;refine St.go h25 ?_;clear h25 a25;refine so hg4 rfl rfl rfl rfl ?_;refine so hg4 rfl rfl rfl rfl ?_;refine so hg4 rfl rfl rfl rfl ?_;refine sp trivial rfl rfl rfl ?_;refine sm trivial rfl rfl ?_;refine so hg9 rfl rfl rfl rfl ?_;refine so hg9 rfl rfl rfl rfl ?_;refine so hg9 rfl rfl rfl rfl ?_;refine sp trivial rfl rfl rfl ?_;refine St.nil fun a27 h27=>?_;refine hK24 _ _ ?_;refine fr_true (t:=37) h27 rfl ?_;refine wp_seq_k fun K28 hK28=>?_;refine rg h27 fun ops=>?_;clear h27 a27;refine sa trivial rfl rfl ?_;refine St.nil fun a29 h29=>?_;refine hK28 _ _ ?_;refine wp_ret ?_;with_reducible repeat first | refine of_then_ret ?_ | refine of_block_ret ?_
    have GR:greatMod m:=.inr ⟨x,List.mem_of_getElem? hx1.out,.inl hc26⟩;exact ret_tmp (t:=2) h29 rfl rfl ⟨by rw [bdec_true GR],hW21.bel⟩
   rw [hb] at h25;have hc30:¬ (30<x.blocks.length):=by have:=of_decide_eq_false hb;omega
   clear hb;refine St.go h25 ?_;clear h25 a25;refine sfFunc1 ⟨_,hg4,rfl,rfl⟩ rfl rfl ?_;refine sbTypes 0 hW21 ⟨_,hg4,rfl,rfl⟩ rfl rfl rfl rfl ?_;refine sc_1 cf41 hW21 (greatTypes_any n x.params f1.pP f1.cP w21 ((types_lin In1.out.params).1.below hW21.bel)) ⟨_,hg4,rfl,rfl⟩ rfl rfl ?_;clear hW21;intro w31 hW31;refine spf trivial rfl rfl rfl ?_;refine sm trivial rfl rfl ?_;intro a32 h32;rcases Bool.eq_false_or_eq_true (bdec (greatTs x.params)) with hb | hb
   ·rw [hb] at h32
    have hc33:(greatTs x.params):=bdec_iff.1 hb;clear hb;refine St.go h32 ?_;clear h32 a32;refine so hg9 rfl rfl rfl rfl ?_;refine so hg9 rfl rfl rfl rfl ?_;refine so hg9 rfl rfl rfl rfl ?_;refine sp trivial rfl rfl rfl ?_;refine St.nil fun a34 h34=>?_;refine hK24 _ _ ?_;refine fr_true (t:=37) h34 rfl ?_;refine wp_seq_k fun K35 hK35=>?_;refine rg h34 fun ops=>?_;clear h34 a34;refine sa trivial rfl rfl ?_;refine St.nil fun a36 h36=>?_;refine hK35 _ _ ?_;refine wp_ret ?_;with_reducible repeat first | refine of_then_ret ?_ | refine of_block_ret ?_
    have GR:greatMod m:=.inr ⟨x,List.mem_of_getElem? hx1.out,.inr (.inl hc33)⟩;exact ret_tmp (t:=2) h36 rfl rfl ⟨by rw [bdec_true GR],hW31.bel⟩
   rw [hb] at h32;have hc37:¬ (greatTs x.params):=fun h=>by rw [bdec_true h] at hb;cases hb
   clear hb;refine St.go h32 ?_;clear h32 a32;refine sfFunc2 ⟨_,hg9,rfl,rfl⟩ rfl rfl ?_;refine sbTypes 0 hW31 ⟨_,hg9,rfl,rfl⟩ rfl rfl rfl rfl ?_;refine sc_1 cf41 hW31 (greatTypes_any n x.results f1.pR f1.cR w31 ((types_lin In1.out.results).1.below hW31.bel)) ⟨_,hg9,rfl,rfl⟩ rfl rfl ?_;clear hW31;intro w38 hW38;refine spf trivial rfl rfl rfl ?_;refine St.nil fun a39 h39=>?_;refine hK24 _ _ ?_;refine fr_cond (t:=37) h39 rfl (fun hb=>?_) (fun hb=>?_)
   ·have hc40:(greatTs x.results):=bdec_iff.1 hb
    clear hb;refine wp_seq_k fun K41 hK41=>?_;refine rg h39 fun ops=>?_;clear h39 a39;refine sa trivial rfl rfl ?_;refine St.nil fun a42 h42=>?_;refine hK41 _ _ ?_;refine wp_ret ?_;with_reducible repeat first | refine of_then_ret ?_ | refine of_block_ret ?_
    have GR:greatMod m:=.inr ⟨x,List.mem_of_getElem? hx1.out,.inr (.inr (.inl hc40))⟩;exact ret_tmp (t:=2) h42 rfl rfl ⟨by rw [bdec_true GR],hW38.bel⟩
   have hc43:¬ (greatTs x.results):=fun h=>by rw [bdec_true h] at hb;cases hb
   clear hb;refine wp_skip ?_;refine hK23 _ _ ?_;refine wp_seq_k fun K44 hK44=>?_;refine rg h39 fun ops=>?_;clear h39 a39;refine sa trivial rfl rfl ?_;refine St.nil fun a45 h45=>?_;refine hK44 _ _ ?_;refine wp_block ?_;refine fr_loop (fun r a w'=>∃ q2:Nat,q2≤x.blocks.length∧r=x.blocks.length - q2∧(∀ (j:Nat) y,j<q2→x.blocks[j]?=some y→¬ y.great)∧Fr 123 a [(0,.agg #[.slice p m.length c]),(1,.pointer (some ⟨B2,0,none⟩)),(2,.bool false),(3,.int .i64 (q1:Int)),(4,.pointer (some ⟨B20,0,none⟩)),(5,.int .i64 (q2:Int))]∧Wd w w' [(B20,#[.int .i64 x.regs,.slice f1.pP x.params.length f1.cP,.slice f1.pR x.results.length f1.cR,.slice f1.pB x.blocks.length f1.cB],42),(B2,#[.slice p m.length c],25)]) (x.blocks.length) ⟨0,Nat.zero_le _,rfl,(fun j x hj=>by omega),(h45.keep (h45.keep (h45.keep (h45.keep (h45.keep (h45.keep h45.nil (t:=5) rfl) (t:=4) rfl) (t:=3) rfl) (t:=2) rfl) (t:=1) rfl) (t:=0) rfl),hW38⟩ ?_;clear h45 hW38;rintro r2 a46 w46 ⟨q2,hq2,hr2,hall2,hF46,hW46⟩ KL2 hKL2;refine wp_seq_k fun K47 hK47=>?_;refine wp_seq_k fun K48 hK48=>?_;refine rg hF46 fun ops=>?_;clear hF46 a46;refine sm trivial rfl rfl ?_;refine sfFunc3 trivial rfl rfl ?_;refine sbBlocks 0 hW46 trivial rfl rfl rfl rfl ?_;refine slBlocks trivial rfl rfl ?_;refine slt trivial rfl rfl rfl ?_;refine St.nil fun a49 h49=>?_;refine hK48 _ _ ?_;refine fr_cond (t:=42) h49 rfl (fun hb=>?_) (fun hb=>?_)
   ·have hlt2:q2<x.blocks.length:=by have:=of_decide_eq_true hb;omega
    clear hb;obtain ⟨y,hx2⟩:∃ v9,(x.blocks)[q2]?=some v9:=⟨_,List.getElem?_eq_getElem hlt2⟩;obtain ⟨g2,o2,b2,hp2,E2,In2⟩:=block_at In1.out.blocks hx2;replace In2:Hid _:=In2;replace hp2:Hid _:=hp2;replace hx2:Hid _:=hx2;replace E2:Hid _:=E2;refine wp_skip ?_;refine hK47 _ _ ?_;refine wp_seq_k fun K50 hK50=>?_;refine wp_block ?_;refine wp_seq_k fun K51 hK51=>?_;refine rg h49 fun ops=>?_;clear h49 a49;refine sfFunc3 trivial rfl rfl ?_;refine sbBlocks 0 hW46 trivial rfl rfl rfl rfl ?_;refine sm trivial rfl rfl ?_;refine siBlocks hp2.out hlt2 trivial rfl rfl rfl ?_;refine sSE Tryz.underlying52 rfl (rangeAt_bel E2.out hW46.bel) infBlock trivial rfl rfl ?_;refine sABlock hW46 trivial rfl ?_;clear hW46;intro w52 B52 hW52 hN;clear hN;refine sT 0 hW52 rfl rfl infBlock rfl rfl rfl ?_;clear hW52;intro w53 hW53;refine St.nil fun a54 h54=>?_;refine hK51 _ _ ?_;refine wp_seq_k fun K55 hK55=>?_;refine wp_seq_k fun K56 hK56=>?_;refine fr_region ?_;intro ops hops;have hg4:(ops[4]?).bind (fun o:Oper=>o.dst)=some 54:=hops 4;have hg9:(ops[9]?).bind (fun o:Oper=>o.dst)=some 59:=hops 9;have hg16:(ops[16]?).bind (fun o:Oper=>o.dst)=some 66:=hops 16;have hg24:(ops[24]?).bind (fun o:Oper=>o.dst)=some 74:=hops 24;have hg32:(ops[32]?).bind (fun o:Oper=>o.dst)=some 82:=hops 32;have hg40:(ops[40]?).bind (fun o:Oper=>o.dst)=some 90:=hops 40;clear hops;refine St.go h54 ?_;clear h54 a54;refine sfBlock2 trivial rfl rfl ?_;refine sbInss 0 hW53 trivial rfl rfl rfl rfl ?_;refine slInss trivial rfl rfl ?_;refine sgt trivial rfl rfl rfl ?_;refine sm trivial rfl rfl ?_;intro a57 h57;rcases Bool.eq_false_or_eq_true (decide (200<(y.code.length:Int))) with hb | hb
    ·rw [hb] at h57
     have hc58:200<y.code.length:=by have:=of_decide_eq_true hb;omega
     clear hb;refine St.go h57 ?_;clear h57 a57;refine so hg4 rfl rfl rfl rfl ?_;refine so hg4 rfl rfl rfl rfl ?_;refine so hg4 rfl rfl rfl rfl ?_;refine sp trivial rfl rfl rfl ?_;refine sm trivial rfl rfl ?_;refine so hg9 rfl rfl rfl rfl ?_;refine so hg9 rfl rfl rfl rfl ?_;refine so hg9 rfl rfl rfl rfl ?_;refine so hg9 rfl rfl rfl rfl ?_;refine so hg9 rfl rfl rfl rfl ?_;refine sp trivial rfl rfl rfl ?_;refine sm trivial rfl rfl ?_;refine so hg16 rfl rfl rfl rfl ?_;refine so hg16 rfl rfl rfl rfl ?_;refine so hg16 rfl rfl rfl rfl ?_;refine so hg16 rfl rfl rfl rfl ?_;refine so hg16 rfl rfl rfl rfl ?_;refine so hg16 rfl rfl rfl rfl ?_;refine sp trivial rfl rfl rfl ?_;refine sm trivial rfl rfl ?_;refine so hg24 rfl rfl rfl rfl ?_;refine so hg24 rfl rfl rfl rfl ?_;refine so hg24 rfl rfl rfl rfl ?_;refine so hg24 rfl rfl rfl rfl ?_;refine so hg24 rfl rfl rfl rfl ?_;refine so hg24 rfl rfl rfl rfl ?_;refine sp trivial rfl rfl rfl ?_;refine sm trivial rfl rfl ?_;refine so hg32 rfl rfl rfl rfl ?_;refine so hg32 rfl rfl rfl rfl ?_;refine so hg32 rfl rfl rfl rfl ?_;refine so hg32 rfl rfl rfl rfl ?_;refine so hg32 rfl rfl rfl rfl ?_;refine so hg32 rfl rfl rfl rfl ?_;refine sp trivial rfl rfl rfl ?_;refine sm trivial rfl rfl ?_;refine so hg40 rfl rfl rfl rfl ?_;refine so hg40 rfl rfl rfl rfl ?_;refine so hg40 rfl rfl rfl rfl ?_;refine so hg40 rfl rfl rfl rfl ?_;refine so hg40 rfl rfl rfl rfl ?_;refine so hg40 rfl rfl rfl rfl ?_;refine sp trivial rfl rfl rfl ?_;refine St.nil fun a59 h59=>?_;refine hK56 _ _ ?_;refine fr_true (t:=97) h59 rfl ?_;refine wp_seq_k fun K60 hK60=>?_;refine rg h59 fun ops=>?_;clear h59 a59;refine sa trivial rfl rfl ?_;refine St.nil fun a61 h61=>?_;refine hK60 _ _ ?_;refine wp_ret ?_;with_reducible repeat first | refine of_then_ret ?_ | refine of_block_ret ?_
     have GR:greatMod m:=.inr ⟨x,List.mem_of_getElem? hx1.out,.inr (.inr (.inr ⟨y,List.mem_of_getElem? hx2.out,.inl hc58⟩))⟩;exact ret_tmp (t:=2) h61 rfl rfl ⟨by rw [bdec_true GR],hW53.bel⟩
    rw [hb] at h57;have hc62:¬ (200<y.code.length):=by have:=of_decide_eq_false hb;omega
    clear hb;refine St.go h57 ?_;clear h57 a57;refine sfBlock1 ⟨_,hg4,rfl,rfl⟩ rfl rfl ?_;refine sbTypes 0 hW53 ⟨_,hg4,rfl,rfl⟩ rfl rfl rfl rfl ?_;refine sc_1 cf41 hW53 (greatTypes_any n y.params b2.pP b2.cP w53 ((types_lin In2.out.params).1.below hW53.bel)) ⟨_,hg4,rfl,rfl⟩ rfl rfl ?_;clear hW53;intro w63 hW63;refine spf trivial rfl rfl rfl ?_;refine sm trivial rfl rfl ?_;intro a64 h64;rcases Bool.eq_false_or_eq_true (bdec (greatTs y.params)) with hb | hb
    ·rw [hb] at h64
     have hc65:(greatTs y.params):=bdec_iff.1 hb;clear hb;refine St.go h64 ?_;clear h64 a64;refine so hg9 rfl rfl rfl rfl ?_;refine so hg9 rfl rfl rfl rfl ?_;refine so hg9 rfl rfl rfl rfl ?_;refine so hg9 rfl rfl rfl rfl ?_;refine so hg9 rfl rfl rfl rfl ?_;refine sp trivial rfl rfl rfl ?_;refine sm trivial rfl rfl ?_;refine so hg16 rfl rfl rfl rfl ?_;refine so hg16 rfl rfl rfl rfl ?_;refine so hg16 rfl rfl rfl rfl ?_;refine so hg16 rfl rfl rfl rfl ?_;refine so hg16 rfl rfl rfl rfl ?_;refine so hg16 rfl rfl rfl rfl ?_;refine sp trivial rfl rfl rfl ?_;refine sm trivial rfl rfl ?_;refine so hg24 rfl rfl rfl rfl ?_;refine so hg24 rfl rfl rfl rfl ?_;refine so hg24 rfl rfl rfl rfl ?_;refine so hg24 rfl rfl rfl rfl ?_;refine so hg24 rfl rfl rfl rfl ?_;refine so hg24 rfl rfl rfl rfl ?_;refine sp trivial rfl rfl rfl ?_;refine sm trivial rfl rfl ?_;refine so hg32 rfl rfl rfl rfl ?_;refine so hg32 rfl rfl rfl rfl ?_;refine so hg32 rfl rfl rfl rfl ?_;refine so hg32 rfl rfl rfl rfl ?_;refine so hg32 rfl rfl rfl rfl ?_;refine so hg32 rfl rfl rfl rfl ?_;refine sp trivial rfl rfl rfl ?_;refine sm trivial rfl rfl ?_;refine so hg40 rfl rfl rfl rfl ?_;refine so hg40 rfl rfl rfl rfl ?_;refine so hg40 rfl rfl rfl rfl ?_;refine so hg40 rfl rfl rfl rfl ?_;refine so hg40 rfl rfl rfl rfl ?_;refine so hg40 rfl rfl rfl rfl ?_;refine sp trivial rfl rfl rfl ?_;refine St.nil fun a66 h66=>?_;refine hK56 _ _ ?_;refine fr_true (t:=97) h66 rfl ?_;refine wp_seq_k fun K67 hK67=>?_;refine rg h66 fun ops=>?_;clear h66 a66;refine sa trivial rfl rfl ?_;refine St.nil fun a68 h68=>?_;refine hK67 _ _ ?_;refine wp_ret ?_;with_reducible repeat first | refine of_then_ret ?_ | refine of_block_ret ?_
     have GR:greatMod m:=.inr ⟨x,List.mem_of_getElem? hx1.out,.inr (.inr (.inr ⟨y,List.mem_of_getElem? hx2.out,.inr (.inl hc65)⟩))⟩;exact ret_tmp (t:=2) h68 rfl rfl ⟨by rw [bdec_true GR],hW63.bel⟩
    rw [hb] at h64;have hc69:¬ (greatTs y.params):=fun h=>by rw [bdec_true h] at hb;cases hb
    clear hb;refine St.go h64 ?_;clear h64 a64;refine sfBlock3 ⟨_,hg9,rfl,rfl⟩ rfl rfl ?_;refine sfEnd4 ⟨_,hg9,rfl,rfl⟩ rfl rfl ?_;refine sbInts 0 hW63 ⟨_,hg9,rfl,rfl⟩ rfl rfl rfl rfl ?_;refine slInts ⟨_,hg9,rfl,rfl⟩ rfl rfl ?_;refine sgt ⟨_,hg9,rfl,rfl⟩ rfl rfl rfl ?_;refine spf trivial rfl rfl rfl ?_;refine sm trivial rfl rfl ?_;intro a70 h70;rcases Bool.eq_false_or_eq_true (decide (300<(y.fin.args.length:Int))) with hb | hb
    ·rw [hb] at h70
     have hc71:300<y.fin.args.length:=by have:=of_decide_eq_true hb;omega
     clear hb;refine St.go h70 ?_;clear h70 a70;refine so hg16 rfl rfl rfl rfl ?_;refine so hg16 rfl rfl rfl rfl ?_;refine so hg16 rfl rfl rfl rfl ?_;refine so hg16 rfl rfl rfl rfl ?_;refine so hg16 rfl rfl rfl rfl ?_;refine so hg16 rfl rfl rfl rfl ?_;refine sp trivial rfl rfl rfl ?_;refine sm trivial rfl rfl ?_;refine so hg24 rfl rfl rfl rfl ?_;refine so hg24 rfl rfl rfl rfl ?_;refine so hg24 rfl rfl rfl rfl ?_;refine so hg24 rfl rfl rfl rfl ?_;refine so hg24 rfl rfl rfl rfl ?_;refine so hg24 rfl rfl rfl rfl ?_;refine sp trivial rfl rfl rfl ?_;refine sm trivial rfl rfl ?_;refine so hg32 rfl rfl rfl rfl ?_;refine so hg32 rfl rfl rfl rfl ?_;refine so hg32 rfl rfl rfl rfl ?_;refine so hg32 rfl rfl rfl rfl ?_;refine so hg32 rfl rfl rfl rfl ?_;refine so hg32 rfl rfl rfl rfl ?_;refine sp trivial rfl rfl rfl ?_;refine sm trivial rfl rfl ?_;refine so hg40 rfl rfl rfl rfl ?_;refine so hg40 rfl rfl rfl rfl ?_;refine so hg40 rfl rfl rfl rfl ?_;refine so hg40 rfl rfl rfl rfl ?_;refine so hg40 rfl rfl rfl rfl ?_;refine so hg40 rfl rfl rfl rfl ?_;refine sp trivial rfl rfl rfl ?_;refine St.nil fun a72 h72=>?_;refine hK56 _ _ ?_;refine fr_true (t:=97) h72 rfl ?_;refine wp_seq_k fun K73 hK73=>?_;refine rg h72 fun ops=>?_;clear h72 a72;refine sa trivial rfl rfl ?_;refine St.nil fun a74 h74=>?_;refine hK73 _ _ ?_;refine wp_ret ?_;with_reducible repeat first | refine of_then_ret ?_ | refine of_block_ret ?_
     have GR:greatMod m:=.inr ⟨x,List.mem_of_getElem? hx1.out,.inr (.inr (.inr ⟨y,List.mem_of_getElem? hx2.out,.inr (.inr (.inl hc71))⟩))⟩;exact ret_tmp (t:=2) h74 rfl rfl ⟨by rw [bdec_true GR],hW63.bel⟩
    rw [hb] at h70;have hc75:¬ (300<y.fin.args.length):=by have:=of_decide_eq_false hb;omega
    clear hb;refine St.go h70 ?_;clear h70 a70;refine sfBlock3 ⟨_,hg16,rfl,rfl⟩ rfl rfl ?_;refine sfEnd2 ⟨_,hg16,rfl,rfl⟩ rfl rfl ?_;refine sfTo1 ⟨_,hg16,rfl,rfl⟩ rfl rfl ?_;refine sbInts 0 hW63 ⟨_,hg16,rfl,rfl⟩ rfl rfl rfl rfl ?_;refine slInts ⟨_,hg16,rfl,rfl⟩ rfl rfl ?_;refine sgt ⟨_,hg16,rfl,rfl⟩ rfl rfl rfl ?_;refine spf trivial rfl rfl rfl ?_;refine sm trivial rfl rfl ?_;intro a76 h76;rcases Bool.eq_false_or_eq_true (decide (300<(y.fin.yes.regs.length:Int))) with hb | hb
    ·rw [hb] at h76
     have hc77:300<y.fin.yes.regs.length:=by have:=of_decide_eq_true hb;omega
     clear hb;refine St.go h76 ?_;clear h76 a76;refine so hg24 rfl rfl rfl rfl ?_;refine so hg24 rfl rfl rfl rfl ?_;refine so hg24 rfl rfl rfl rfl ?_;refine so hg24 rfl rfl rfl rfl ?_;refine so hg24 rfl rfl rfl rfl ?_;refine so hg24 rfl rfl rfl rfl ?_;refine sp trivial rfl rfl rfl ?_;refine sm trivial rfl rfl ?_;refine so hg32 rfl rfl rfl rfl ?_;refine so hg32 rfl rfl rfl rfl ?_;refine so hg32 rfl rfl rfl rfl ?_;refine so hg32 rfl rfl rfl rfl ?_;refine so hg32 rfl rfl rfl rfl ?_;refine so hg32 rfl rfl rfl rfl ?_;refine sp trivial rfl rfl rfl ?_;refine sm trivial rfl rfl ?_;refine so hg40 rfl rfl rfl rfl ?_;refine so hg40 rfl rfl rfl rfl ?_;refine so hg40 rfl rfl rfl rfl ?_;refine so hg40 rfl rfl rfl rfl ?_;refine so hg40 rfl rfl rfl rfl ?_;refine so hg40 rfl rfl rfl rfl ?_;refine sp trivial rfl rfl rfl ?_;refine St.nil fun a78 h78=>?_;refine hK56 _ _ ?_;refine fr_true (t:=97) h78 rfl ?_;refine wp_seq_k fun K79 hK79=>?_;refine rg h78 fun ops=>?_;clear h78 a78;refine sa trivial rfl rfl ?_;refine St.nil fun a80 h80=>?_;refine hK79 _ _ ?_;refine wp_ret ?_;with_reducible repeat first | refine of_then_ret ?_ | refine of_block_ret ?_
     have GR:greatMod m:=.inr ⟨x,List.mem_of_getElem? hx1.out,.inr (.inr (.inr ⟨y,List.mem_of_getElem? hx2.out,.inr (.inr (.inr (.inl hc77)))⟩))⟩;exact ret_tmp (t:=2) h80 rfl rfl ⟨by rw [bdec_true GR],hW63.bel⟩
    rw [hb] at h76;have hc81:¬ (300<y.fin.yes.regs.length):=by have:=of_decide_eq_false hb;omega
    clear hb;refine St.go h76 ?_;clear h76 a76;refine sfBlock3 ⟨_,hg24,rfl,rfl⟩ rfl rfl ?_;refine sfEnd2 ⟨_,hg24,rfl,rfl⟩ rfl rfl ?_;refine sfTo2 ⟨_,hg24,rfl,rfl⟩ rfl rfl ?_;refine sbInts 0 hW63 ⟨_,hg24,rfl,rfl⟩ rfl rfl rfl rfl ?_;refine slInts ⟨_,hg24,rfl,rfl⟩ rfl rfl ?_;refine sgt ⟨_,hg24,rfl,rfl⟩ rfl rfl rfl ?_;refine spf trivial rfl rfl rfl ?_;refine sm trivial rfl rfl ?_;intro a82 h82;rcases Bool.eq_false_or_eq_true (decide (300<(y.fin.yes.args.length:Int))) with hb | hb
    ·rw [hb] at h82
     have hc83:300<y.fin.yes.args.length:=by have:=of_decide_eq_true hb;omega
     clear hb;refine St.go h82 ?_;clear h82 a82;refine so hg32 rfl rfl rfl rfl ?_;refine so hg32 rfl rfl rfl rfl ?_;refine so hg32 rfl rfl rfl rfl ?_;refine so hg32 rfl rfl rfl rfl ?_;refine so hg32 rfl rfl rfl rfl ?_;refine so hg32 rfl rfl rfl rfl ?_;refine sp trivial rfl rfl rfl ?_;refine sm trivial rfl rfl ?_;refine so hg40 rfl rfl rfl rfl ?_;refine so hg40 rfl rfl rfl rfl ?_;refine so hg40 rfl rfl rfl rfl ?_;refine so hg40 rfl rfl rfl rfl ?_;refine so hg40 rfl rfl rfl rfl ?_;refine so hg40 rfl rfl rfl rfl ?_;refine sp trivial rfl rfl rfl ?_;refine St.nil fun a84 h84=>?_;refine hK56 _ _ ?_;refine fr_true (t:=97) h84 rfl ?_;refine wp_seq_k fun K85 hK85=>?_;refine rg h84 fun ops=>?_;clear h84 a84;refine sa trivial rfl rfl ?_;refine St.nil fun a86 h86=>?_;refine hK85 _ _ ?_;refine wp_ret ?_;with_reducible repeat first | refine of_then_ret ?_ | refine of_block_ret ?_
     have GR:greatMod m:=.inr ⟨x,List.mem_of_getElem? hx1.out,.inr (.inr (.inr ⟨y,List.mem_of_getElem? hx2.out,.inr (.inr (.inr (.inr (.inl hc83))))⟩))⟩;exact ret_tmp (t:=2) h86 rfl rfl ⟨by rw [bdec_true GR],hW63.bel⟩
    rw [hb] at h82;have hc87:¬ (300<y.fin.yes.args.length):=by have:=of_decide_eq_false hb;omega
    clear hb;refine St.go h82 ?_;clear h82 a82;refine sfBlock3 ⟨_,hg32,rfl,rfl⟩ rfl rfl ?_;refine sfEnd3 ⟨_,hg32,rfl,rfl⟩ rfl rfl ?_;refine sfTo1 ⟨_,hg32,rfl,rfl⟩ rfl rfl ?_;refine sbInts 0 hW63 ⟨_,hg32,rfl,rfl⟩ rfl rfl rfl rfl ?_;refine slInts ⟨_,hg32,rfl,rfl⟩ rfl rfl ?_;refine sgt ⟨_,hg32,rfl,rfl⟩ rfl rfl rfl ?_;refine spf trivial rfl rfl rfl ?_;refine sm trivial rfl rfl ?_;intro a88 h88;rcases Bool.eq_false_or_eq_true (decide (300<(y.fin.no.regs.length:Int))) with hb | hb
    ·rw [hb] at h88
     have hc89:300<y.fin.no.regs.length:=by have:=of_decide_eq_true hb;omega
     clear hb;refine St.go h88 ?_;clear h88 a88;refine so hg40 rfl rfl rfl rfl ?_;refine so hg40 rfl rfl rfl rfl ?_;refine so hg40 rfl rfl rfl rfl ?_;refine so hg40 rfl rfl rfl rfl ?_;refine so hg40 rfl rfl rfl rfl ?_;refine so hg40 rfl rfl rfl rfl ?_;refine sp trivial rfl rfl rfl ?_;refine St.nil fun a90 h90=>?_;refine hK56 _ _ ?_;refine fr_true (t:=97) h90 rfl ?_;refine wp_seq_k fun K91 hK91=>?_;refine rg h90 fun ops=>?_;clear h90 a90;refine sa trivial rfl rfl ?_;refine St.nil fun a92 h92=>?_;refine hK91 _ _ ?_;refine wp_ret ?_;with_reducible repeat first | refine of_then_ret ?_ | refine of_block_ret ?_
     have GR:greatMod m:=.inr ⟨x,List.mem_of_getElem? hx1.out,.inr (.inr (.inr ⟨y,List.mem_of_getElem? hx2.out,.inr (.inr (.inr (.inr (.inr (.inl hc89)))))⟩))⟩;exact ret_tmp (t:=2) h92 rfl rfl ⟨by rw [bdec_true GR],hW63.bel⟩
    rw [hb] at h88;have hc93:¬ (300<y.fin.no.regs.length):=by have:=of_decide_eq_false hb;omega
    clear hb;refine St.go h88 ?_;clear h88 a88;refine sfBlock3 ⟨_,hg40,rfl,rfl⟩ rfl rfl ?_;refine sfEnd3 ⟨_,hg40,rfl,rfl⟩ rfl rfl ?_;refine sfTo2 ⟨_,hg40,rfl,rfl⟩ rfl rfl ?_;refine sbInts 0 hW63 ⟨_,hg40,rfl,rfl⟩ rfl rfl rfl rfl ?_;refine slInts ⟨_,hg40,rfl,rfl⟩ rfl rfl ?_;refine sgt ⟨_,hg40,rfl,rfl⟩ rfl rfl rfl ?_;refine spf trivial rfl rfl rfl ?_;refine St.nil fun a94 h94=>?_;refine hK56 _ _ ?_;refine fr_cond (t:=97) h94 rfl (fun hb=>?_) (fun hb=>?_)
    ·have hc95:300<y.fin.no.args.length:=by have:=of_decide_eq_true hb;omega
     clear hb;refine wp_seq_k fun K96 hK96=>?_;refine rg h94 fun ops=>?_;clear h94 a94;refine sa trivial rfl rfl ?_;refine St.nil fun a97 h97=>?_;refine hK96 _ _ ?_;refine wp_ret ?_;with_reducible repeat first | refine of_then_ret ?_ | refine of_block_ret ?_
     have GR:greatMod m:=.inr ⟨x,List.mem_of_getElem? hx1.out,.inr (.inr (.inr ⟨y,List.mem_of_getElem? hx2.out,.inr (.inr (.inr (.inr (.inr (.inr (.inl hc95))))))⟩))⟩;exact ret_tmp (t:=2) h97 rfl rfl ⟨by rw [bdec_true GR],hW63.bel⟩
    have hc98:¬ (300<y.fin.no.args.length):=by have:=of_decide_eq_false hb;omega
    clear hb;refine wp_skip ?_;refine hK55 _ _ ?_;refine wp_seq_k fun K99 hK99=>?_;refine rg h94 fun ops=>?_;clear h94 a94;refine sa trivial rfl rfl ?_;refine St.nil fun a100 h100=>?_;refine hK99 _ _ ?_;refine wp_block ?_;refine fr_loop (fun r a w'=>∃ q3:Nat,q3≤y.code.length∧r=y.code.length - q3∧(∀ (j:Nat) z,j<q3→y.code[j]?=some z→¬ (300<z.regs.length)∧¬ (300<z.args.length))∧Fr 123 a [(0,.agg #[.slice p m.length c]),(1,.pointer (some ⟨B2,0,none⟩)),(2,.bool false),(3,.int .i64 (q1:Int)),(4,.pointer (some ⟨B20,0,none⟩)),(5,.int .i64 (q2:Int)),(6,.pointer (some ⟨B52,0,none⟩)),(7,.int .i64 (q3:Int))]∧Wd w w' [(B52,#[.int .i64 y.regs,.slice b2.pP y.params.length b2.cP,.slice b2.pC y.code.length b2.cC,.int .i64 y.fin.op,.int .i64 y.fin.a,.int .i64 y.fin.yes.block,.slice b2.e.pYR y.fin.yes.regs.length b2.e.cYR,.slice b2.e.pYA y.fin.yes.args.length b2.e.cYA,.int .i64 y.fin.no.block,.slice b2.e.pNR y.fin.no.regs.length b2.e.cNR,.slice b2.e.pNA y.fin.no.args.length b2.e.cNA,.slice b2.e.pA y.fin.args.length b2.e.cA],52),(B20,#[.int .i64 x.regs,.slice f1.pP x.params.length f1.cP,.slice f1.pR x.results.length f1.cR,.slice f1.pB x.blocks.length f1.cB],42),(B2,#[.slice p m.length c],25)]) (y.code.length) ⟨0,Nat.zero_le _,rfl,(fun j x hj=>by omega),(h100.keep (h100.keep (h100.keep (h100.keep (h100.keep (h100.keep (h100.keep (h100.keep h100.nil (t:=7) rfl) (t:=6) rfl) (t:=5) rfl) (t:=4) rfl) (t:=3) rfl) (t:=2) rfl) (t:=1) rfl) (t:=0) rfl),hW63⟩ ?_;clear h100 hW63;rintro r3 a101 w101 ⟨q3,hq3,hr3,hall3,hF101,hW101⟩ KL3 hKL3;refine wp_seq_k fun K102 hK102=>?_;refine wp_seq_k fun K103 hK103=>?_;refine rg hF101 fun ops=>?_;clear hF101 a101;refine sm trivial rfl rfl ?_;refine sfBlock2 trivial rfl rfl ?_;refine sbInss 0 hW101 trivial rfl rfl rfl rfl ?_;refine slInss trivial rfl rfl ?_;refine slt trivial rfl rfl rfl ?_;refine St.nil fun a104 h104=>?_;refine hK103 _ _ ?_;refine fr_cond (t:=102) h104 rfl (fun hb=>?_) (fun hb=>?_)
    ·have hlt3:q3<y.code.length:=by have:=of_decide_eq_true hb;omega
     clear hb;obtain ⟨z,hx3⟩:∃ v9,(y.code)[q3]?=some v9:=⟨_,List.getElem?_eq_getElem hlt3⟩;obtain ⟨g3,o3,i3,hp3,E3,In3⟩:=ins_at In2.out.code hx3;replace In3:Hid _:=In3;replace hp3:Hid _:=hp3;replace hx3:Hid _:=hx3;replace E3:Hid _:=E3;refine wp_skip ?_;refine hK102 _ _ ?_;refine wp_seq_k fun K105 hK105=>?_;refine wp_block ?_;refine wp_seq_k fun K106 hK106=>?_;refine fr_region ?_;intro ops hops;have hg8:(ops[8]?).bind (fun o:Oper=>o.dst)=some 113:=hops 8;clear hops;refine St.go h104 ?_;clear h104 a104;refine sfBlock2 trivial rfl rfl ?_;refine sbInss 0 hW101 trivial rfl rfl rfl rfl ?_;refine sm trivial rfl rfl ?_;refine siInss hp3.out hlt3 trivial rfl rfl rfl ?_;refine sfIns6 trivial rfl rfl ?_;refine scInts (bel_cell hW101.bel (E3.out 6 _ rfl)) trivial rfl rfl ?_;refine slInts trivial rfl rfl ?_;refine sgt trivial rfl rfl rfl ?_;refine sm trivial rfl rfl ?_;intro a107 h107;rcases Bool.eq_false_or_eq_true (decide (300<(z.regs.length:Int))) with hb | hb
     ·rw [hb] at h107
      have hc108:300<z.regs.length:=by have:=of_decide_eq_true hb;omega
      clear hb;refine St.go h107 ?_;clear h107 a107;refine so hg8 rfl rfl rfl rfl ?_;refine so hg8 rfl rfl rfl rfl ?_;refine so hg8 rfl rfl rfl rfl ?_;refine so hg8 rfl rfl rfl rfl ?_;refine so hg8 rfl rfl rfl rfl ?_;refine so hg8 rfl rfl rfl rfl ?_;refine so hg8 rfl rfl rfl rfl ?_;refine so hg8 rfl rfl rfl rfl ?_;refine sp trivial rfl rfl rfl ?_;refine St.nil fun a109 h109=>?_;refine hK106 _ _ ?_;refine fr_true (t:=122) h109 rfl ?_;refine wp_seq_k fun K110 hK110=>?_;refine rg h109 fun ops=>?_;clear h109 a109;refine sa trivial rfl rfl ?_;refine St.nil fun a111 h111=>?_;refine hK110 _ _ ?_;refine wp_ret ?_;with_reducible repeat first | refine of_then_ret ?_ | refine of_block_ret ?_
      have GR:greatMod m:=.inr ⟨x,List.mem_of_getElem? hx1.out,.inr (.inr (.inr ⟨y,List.mem_of_getElem? hx2.out,.inr (.inr (.inr (.inr (.inr (.inr (.inr ⟨z,List.mem_of_getElem? hx3.out,.inl hc108⟩))))))⟩))⟩;exact ret_tmp (t:=2) h111 rfl rfl ⟨by rw [bdec_true GR],hW101.bel⟩
     rw [hb] at h107;have hc112:¬ (300<z.regs.length):=by have:=of_decide_eq_false hb;omega
     clear hb;refine St.go h107 ?_;clear h107 a107;refine sfBlock2 ⟨_,hg8,rfl,rfl⟩ rfl rfl ?_;refine sbInss 0 hW101 ⟨_,hg8,rfl,rfl⟩ rfl rfl rfl rfl ?_;refine sm ⟨_,hg8,rfl,rfl⟩ rfl rfl ?_;refine siInss hp3.out hlt3 ⟨_,hg8,rfl,rfl⟩ rfl rfl rfl ?_;refine sfIns7 ⟨_,hg8,rfl,rfl⟩ rfl rfl ?_;refine scInts (bel_cell hW101.bel (E3.out 7 _ rfl)) ⟨_,hg8,rfl,rfl⟩ rfl rfl ?_;refine slInts ⟨_,hg8,rfl,rfl⟩ rfl rfl ?_;refine sgt ⟨_,hg8,rfl,rfl⟩ rfl rfl rfl ?_;refine spf trivial rfl rfl rfl ?_;refine St.nil fun a113 h113=>?_;refine hK106 _ _ ?_;refine fr_cond (t:=122) h113 rfl (fun hb=>?_) (fun hb=>?_)
     ·have hc114:300<z.args.length:=by have:=of_decide_eq_true hb;omega
      clear hb;refine wp_seq_k fun K115 hK115=>?_;refine rg h113 fun ops=>?_;clear h113 a113;refine sa trivial rfl rfl ?_;refine St.nil fun a116 h116=>?_;refine hK115 _ _ ?_;refine wp_ret ?_;with_reducible repeat first | refine of_then_ret ?_ | refine of_block_ret ?_
      have GR:greatMod m:=.inr ⟨x,List.mem_of_getElem? hx1.out,.inr (.inr (.inr ⟨y,List.mem_of_getElem? hx2.out,.inr (.inr (.inr (.inr (.inr (.inr (.inr ⟨z,List.mem_of_getElem? hx3.out,.inr hc114⟩))))))⟩))⟩;exact ret_tmp (t:=2) h116 rfl rfl ⟨by rw [bdec_true GR],hW101.bel⟩
     have hc117:¬ (300<z.args.length):=by have:=of_decide_eq_false hb;omega
     clear hb;refine wp_skip ?_;refine hK105 _ _ ?_;refine rg h113 fun ops=>?_;clear h113 a113;refine sm trivial rfl rfl ?_;refine sad (by omega) trivial rfl rfl rfl ?_;refine sa trivial rfl rfl ?_;refine St.nil fun a118 h118=>?_;refine hKL3 _ _ (y.code.length - (q3+1)) (by omega) ⟨q3+1,by omega,rfl,?_,(h118.keep (h118.keep (h118.keep (h118.keep (h118.keep (h118.keep (h118.keep (h118.keep h118.nil (t:=7) rfl) (t:=6) rfl) (t:=5) rfl) (t:=4) rfl) (t:=3) rfl) (t:=2) rfl) (t:=1) rfl) (t:=0) rfl),hW101⟩
     ·intro j y hj hy
      by_cases e:j=q3
      · subst e;rw [hx3.out] at hy;cases hy;exact ⟨hc112,hc117⟩
      · exact hall3 j y (by omega) hy
    have hge3:q3=y.code.length:=by have:=of_decide_eq_false hb;omega
    clear hb
    have NG2:¬ y.great:=by
      rintro (h | h | h | h | h | h | h | ⟨z,hz,h⟩)
      · exact absurd h hc62
      · exact absurd h hc69
      · exact absurd h hc75
      · exact absurd h hc81
      · exact absurd h hc87
      · exact absurd h hc93
      · exact absurd h hc98
      · obtain ⟨i,hi,rfl⟩:=List.mem_iff_getElem.1 hz
        have:=hall3 i _ (by omega) (List.getElem?_eq_getElem hi)
        omega
    refine wp_exit ?_;refine hK50 _ _ ?_;refine rg h104 fun ops=>?_;clear h104 a104;refine sm trivial rfl rfl ?_;refine sad (by omega) trivial rfl rfl rfl ?_;refine sa trivial rfl rfl ?_;refine St.nil fun a119 h119=>?_;refine hKL2 _ _ (x.blocks.length - (q2+1)) (by omega) ⟨q2+1,by omega,rfl,?_,(h119.keep (h119.keep (h119.keep (h119.keep (h119.keep (h119.keep h119.nil (t:=5) rfl) (t:=4) rfl) (t:=3) rfl) (t:=2) rfl) (t:=1) rfl) (t:=0) rfl),hW101.tail⟩
    ·intro j y hj hy
     by_cases e:j=q2
     · subst e;rw [hx2.out] at hy;cases hy;exact NG2
     · exact hall2 j y (by omega) hy
   have hge2:q2=x.blocks.length:=by have:=of_decide_eq_false hb;omega
   clear hb
   have NG1:¬ x.great:=by
     rintro (h | h | h | ⟨y,hy,h⟩)
     · exact absurd h hc30
     · exact absurd h hc37
     · exact absurd h hc43
     · obtain ⟨i,hi,rfl⟩:=List.mem_iff_getElem.1 hy;exact hall2 i _ (by omega) (List.getElem?_eq_getElem hi) h
   refine wp_exit ?_;refine hK18 _ _ ?_;refine rg h49 fun ops=>?_;clear h49 a49;refine sm trivial rfl rfl ?_;refine sad (by omega) trivial rfl rfl rfl ?_;refine sa trivial rfl rfl ?_;refine St.nil fun a120 h120=>?_;refine hKL1 _ _ (m.length - (q1+1)) (by omega) ⟨q1+1,by omega,rfl,?_,(h120.keep (h120.keep (h120.keep (h120.keep h120.nil (t:=3) rfl) (t:=2) rfl) (t:=1) rfl) (t:=0) rfl),hW46.tail⟩
   ·intro j y hj hy
    by_cases e:j=q1
    · subst e;rw [hx1.out] at hy;cases hy;exact NG1
    · exact hall1 j y (by omega) hy
  have hge1:q1=m.length:=by have:=of_decide_eq_false hb;omega
  clear hb;refine wp_exit ?_;refine hK11 _ _ ?_;refine wp_seq_k fun K121 hK121=>?_;refine rg h17 fun ops=>?_;clear h17 a17;refine sa trivial rfl rfl ?_;refine St.nil fun a122 h122=>?_;refine hK121 _ _ ?_;refine wp_ret ?_;with_reducible repeat first | refine of_then_ret ?_ | refine of_block_ret ?_
  have GR:¬ greatMod m:=by
    rintro (h | ⟨x,hx,h⟩)
    · omega
    · obtain ⟨i,hi,rfl⟩:=List.mem_iff_getElem.1 hx;exact hall1 i _ (by omega) (List.getElem?_eq_getElem hi) h
  exact ret_tmp (t:=2) h122 rfl rfl ⟨by rw [bdec_false GR],hW14.bel⟩
end Go.Proofs.YtalfbnllodhkiacGreatDoor
namespace Go.Proofs.YtalfbnllodhkiacGreatDoor
open Go.ChangeShapes Go.WideShapes Go.ChangeAt Go.RowKit Go.Shelf
set_option linter.unusedSimpArgs false
set_option linter.unusedVariables false
def T0txt : List UInt8 := [102, 117, 110, 99, 32, 48, 32, 40, 41, 32, 45, 62, 32, 40, 41, 32, 123, 10, 98, 108, 111, 99, 107, 32, 48, 32, 40, 41, 32, 123, 10, 9, 114, 101, 116, 32, 40, 41, 59, 10, 125, 10, 125, 10]
theorem itoa0 : Lib.itoa 0 = [48] := by
  unfold Lib.itoa;rw [if_neg (by decide),Lib.decDigits,dif_pos (by decide)];rfl
theorem L0_txt : modTxt L0 = T0txt := by
  simp only [modTxt,L0,List.flatMap_cons,List.flatMap_nil,List.append_nil,MFunc.txt,MFunc.head,blocksT,MBlock.txt,MBlock.head,nT,itoa0,MEnd.txt,E00];rfl
theorem L0_print : printL L0 = (T0txt, 0, 0) := by
  unfold printL;rw [if_neg (by rw [L0_fault];decide),L0_txt];rfl
theorem L0_tiny : ∀ x ∈ L0, x.tiny := by
  intro x hx;simp only [L0,List.mem_singleton] at hx;subst hx;refine ⟨(fun t ht=>by cases ht),(fun t ht=>by cases ht),fun y hy=>?_⟩;simp only [List.mem_singleton] at hy;subst hy;exact fun t ht=>by cases ht
theorem rBegun_any (w : World) (hp : Pows w) : Calls Tryz.prog 17 #[] w fun e w' => e = .returned (.bool true) ∧ Below w.heap.size w w' := by
  have HP:Hid (Pows w):=hp;clear hp;go_enter Tryz.func17,Tryz.ntmps17
  go_wp2_with fail
  refine (least_any w).mono ?_;rintro e w1 ⟨G1,G2,rfl,h1,h2,-,-,-,b1⟩
  have C:Hid (Calls Tryz.prog 20 #[.agg #[.slice (some ⟨G2,0,none⟩) 1 1]] w1 (Prints w1 (T0txt,0,0))):=by
    have:=print_any L0 _ 1 w1 (least_in h1 h2) (HP.out.below b1) L0_small L0_tiny
    rw [L0_print] at this;exact this
  have B1:Hid (Below w.heap.size w w1):=b1;clear h1 h2 b1;go_wp2_with fail
  refine C.out.mono ?_;rintro e w2 ⟨rfl,b2⟩;have B2:Hid (Below w.heap.size w (w2.alloc (.cells #[.int .i64 0,.int .i64 0] 27))):=(B1.out.trans (b2.mono B1.out.size)).alloc (Nat.le_trans B1.out.size b2.size) _;clear b2 C B1;unfold PrintV T0txt;simp only [str];go_wp2
  go_ret;exact ⟨rfl,B2.out⟩
end Go.Proofs.YtalfbnllodhkiacGreatDoor
namespace Go.Proofs.YtalfbnllodhkiacGreatDoor
open Go.ChangeShapes Go.WideShapes Go.ChangeAt Go.RowKit
set_option linter.unusedSimpArgs false
set_option linter.unusedVariables false
theorem sameBlock_any {n : Nat} {x y : MBlock n} {b d : BP} {w : World} (hx0 : BIn w All x b) (hy0 : BIn w All y d) (hs0 : x.small) :
    Rd Tryz.prog 34 #[.agg #[.int .i64 x.regs,.slice b.pP x.params.length b.cP,.slice b.pC x.code.length b.cC,.int .i64 x.fin.op,.int .i64 x.fin.a,.int .i64 x.fin.yes.block,.slice b.e.pYR x.fin.yes.regs.length b.e.cYR,.slice b.e.pYA x.fin.yes.args.length b.e.cYA,.int .i64 x.fin.no.block,.slice b.e.pNR x.fin.no.regs.length b.e.cNR,.slice b.e.pNA x.fin.no.args.length b.e.cNA,.slice b.e.pA x.fin.args.length b.e.cA],.agg #[.int .i64 y.regs,.slice d.pP y.params.length d.cP,.slice d.pC y.code.length d.cC,.int .i64 y.fin.op,.int .i64 y.fin.a,.int .i64 y.fin.yes.block,.slice d.e.pYR y.fin.yes.regs.length d.e.cYR,.slice d.e.pYA y.fin.yes.args.length d.e.cYA,.int .i64 y.fin.no.block,.slice d.e.pNR y.fin.no.regs.length d.e.cNR,.slice d.e.pNA y.fin.no.args.length d.e.cNA,.slice d.e.pA y.fin.args.length d.e.cA]] w (.bool (bdec (x=y))):=by
  have hcl:=hs0.1;have hx:Hid _:=hx0;have hy:Hid _:=hy0;have hs:Hid _:=hs0;clear hx0 hy0 hs0;refine fr_enter (n:=90) Tryz.func34 rfl rfl rfl ?_;intro a hF;have hW:=Wd.start w;replace hF:Fr 90 a [(0,.agg #[.int .i64 x.regs,.slice b.pP x.params.length b.cP,.slice b.pC x.code.length b.cC,.int .i64 x.fin.op,.int .i64 x.fin.a,.int .i64 x.fin.yes.block,.slice b.e.pYR x.fin.yes.regs.length b.e.cYR,.slice b.e.pYA x.fin.yes.args.length b.e.cYA,.int .i64 x.fin.no.block,.slice b.e.pNR x.fin.no.regs.length b.e.cNR,.slice b.e.pNA x.fin.no.args.length b.e.cNA,.slice b.e.pA x.fin.args.length b.e.cA]),(1,.agg #[.int .i64 y.regs,.slice d.pP y.params.length d.cP,.slice d.pC y.code.length d.cC,.int .i64 y.fin.op,.int .i64 y.fin.a,.int .i64 y.fin.yes.block,.slice d.e.pYR y.fin.yes.regs.length d.e.cYR,.slice d.e.pYA y.fin.yes.args.length d.e.cYA,.int .i64 y.fin.no.block,.slice d.e.pNR y.fin.no.regs.length d.e.cNR,.slice d.e.pNA y.fin.no.args.length d.e.cNA,.slice d.e.pA y.fin.args.length d.e.cA])]:=hF;refine wp_seq_k fun K1 hK1=>?_;refine rg hF fun ops=>?_;clear hF a;refine sB hW trivial rfl rfl ?_;clear hW;intro w2 B2 hW2 hN;clear hN;refine sB hW2 trivial rfl rfl ?_;clear hW2;intro w3 B3 hW3 hN;clear hN;refine sa trivial rfl rfl ?_;refine St.nil fun a4 h4=>?_;refine hK1 _ _ ?_;refine wp_seq_k fun K5 hK5=>?_;refine wp_seq_k fun K6 hK6=>?_;refine fr_region ?_;intro ops hops;have hg5:(ops[5]?).bind (fun o:Oper=>o.dst)=some 11:=hops 5;have hg13:(ops[13]?).bind (fun o:Oper=>o.dst)=some 19:=hops 13;clear hops;refine St.go h4 ?_;clear h4 a4;refine sfBlock0 trivial rfl rfl ?_;refine sbInt 1 hW3 trivial rfl rfl rfl rfl ?_;refine sfBlock0 trivial rfl rfl ?_;refine sbInt 0 hW3 trivial rfl rfl rfl rfl ?_;refine sne trivial rfl rfl rfl ?_;refine sm trivial rfl rfl ?_;intro a7 h7;rcases Bool.eq_false_or_eq_true (x.regs != y.regs) with hb | hb
  ·rw [hb] at h7
   have h9:¬ x.regs=y.regs:=bne_iff_ne.1 hb;have hc8:¬ x.regs=y.regs:=h9;clear h9;clear hb;refine St.go h7 ?_;clear h7 a7;refine so hg5 rfl rfl rfl rfl ?_;refine so hg5 rfl rfl rfl rfl ?_;refine so hg5 rfl rfl rfl rfl ?_;refine so hg5 rfl rfl rfl rfl ?_;refine so hg5 rfl rfl rfl rfl ?_;refine so hg5 rfl rfl rfl rfl ?_;refine sp trivial rfl rfl rfl ?_;refine sm trivial rfl rfl ?_;refine so hg13 rfl rfl rfl rfl ?_;refine so hg13 rfl rfl rfl rfl ?_;refine so hg13 rfl rfl rfl rfl ?_;refine so hg13 rfl rfl rfl rfl ?_;refine so hg13 rfl rfl rfl rfl ?_;refine so hg13 rfl rfl rfl rfl ?_;refine so hg13 rfl rfl rfl rfl ?_;refine sp trivial rfl rfl rfl ?_;refine St.nil fun a9 h9=>?_;refine hK6 _ _ ?_;refine fr_true (t:=27) h9 rfl ?_;refine wp_seq_k fun K10 hK10=>?_;refine rg h9 fun ops=>?_;clear h9 a9;refine sa trivial rfl rfl ?_;refine St.nil fun a11 h11=>?_;refine hK10 _ _ ?_;refine wp_ret ?_;with_reducible repeat first | refine of_then_ret ?_ | refine of_block_ret ?_
   have R:¬ x=y:=fun e=>hc8 (by rw [e]);exact ret_tmp (t:=4) h11 rfl rfl ⟨by rw [bdec_false R],hW3.bel⟩
  rw [hb] at h7;have h9:x.regs=y.regs:=bne_eq_false_iff_eq.1 hb;have hc12:Hid (x.regs=y.regs):=h9;clear h9;clear hb;refine St.go h7 ?_;clear h7 a7;refine sfBlock1 ⟨_,hg5,rfl,rfl⟩ rfl rfl ?_;refine sbTypes 1 hW3 ⟨_,hg5,rfl,rfl⟩ rfl rfl rfl rfl ?_;refine sfBlock1 ⟨_,hg5,rfl,rfl⟩ rfl rfl ?_;refine sbTypes 0 hW3 ⟨_,hg5,rfl,rfl⟩ rfl rfl rfl rfl ?_;refine sc_2 cf33 hW3 (sameTypes_any (Lay.below hx.out.params hW3.bel) (Lay.below hy.out.params hW3.bel) hs.out.2.1) ⟨_,hg5,rfl,rfl⟩ rfl rfl rfl ?_;clear hW3;intro w13 hW13;refine sn ⟨_,hg5,rfl,rfl⟩ rfl rfl ?_;refine spf trivial rfl rfl rfl ?_;refine sm trivial rfl rfl ?_;intro a14 h14;rcases Bool.eq_false_or_eq_true (!(bdec (x.params=y.params))) with hb | hb
  ·rw [hb] at h14
   have hb:(bdec (x.params=y.params))=false:=by simpa using hb
   have hc15:¬ (x.params=y.params):=fun h=>by rw [bdec_true h] at hb;cases hb
   clear hb;refine St.go h14 ?_;clear h14 a14;refine so hg13 rfl rfl rfl rfl ?_;refine so hg13 rfl rfl rfl rfl ?_;refine so hg13 rfl rfl rfl rfl ?_;refine so hg13 rfl rfl rfl rfl ?_;refine so hg13 rfl rfl rfl rfl ?_;refine so hg13 rfl rfl rfl rfl ?_;refine so hg13 rfl rfl rfl rfl ?_;refine sp trivial rfl rfl rfl ?_;refine St.nil fun a16 h16=>?_;refine hK6 _ _ ?_;refine fr_true (t:=27) h16 rfl ?_;refine wp_seq_k fun K17 hK17=>?_;refine rg h16 fun ops=>?_;clear h16 a16;refine sa trivial rfl rfl ?_;refine St.nil fun a18 h18=>?_;refine hK17 _ _ ?_;refine wp_ret ?_;with_reducible repeat first | refine of_then_ret ?_ | refine of_block_ret ?_
   have R:¬ x=y:=fun e=>hc15 (by rw [e]);exact ret_tmp (t:=4) h18 rfl rfl ⟨by rw [bdec_false R],hW13.bel⟩
  rw [hb] at h14;have hb:(bdec (x.params=y.params))=true:=by simpa using hb
  have hc19:(x.params=y.params):=bdec_iff.1 hb;clear hb;refine St.go h14 ?_;clear h14 a14;refine sfBlock2 ⟨_,hg13,rfl,rfl⟩ rfl rfl ?_;refine sbInss 1 hW13 ⟨_,hg13,rfl,rfl⟩ rfl rfl rfl rfl ?_;refine slInss ⟨_,hg13,rfl,rfl⟩ rfl rfl ?_;refine sfBlock2 ⟨_,hg13,rfl,rfl⟩ rfl rfl ?_;refine sbInss 0 hW13 ⟨_,hg13,rfl,rfl⟩ rfl rfl rfl rfl ?_;refine slInss ⟨_,hg13,rfl,rfl⟩ rfl rfl ?_;refine sne ⟨_,hg13,rfl,rfl⟩ rfl rfl rfl ?_;refine spf trivial rfl rfl rfl ?_;refine St.nil fun a20 h20=>?_;refine hK6 _ _ ?_;refine fr_cond (t:=27) h20 rfl (fun hb=>?_) (fun hb=>?_)
  ·have h9:¬ x.code.length=y.code.length:=by have h8:=bne_iff_ne.1 hb;omega
   have hlen:¬ x.code.length=y.code.length:=h9;clear h9;clear hb;refine wp_seq_k fun K21 hK21=>?_;refine rg h20 fun ops=>?_;clear h20 a20;refine sa trivial rfl rfl ?_;refine St.nil fun a22 h22=>?_;refine hK21 _ _ ?_;refine wp_ret ?_;with_reducible repeat first | refine of_then_ret ?_ | refine of_block_ret ?_
   have R:¬ x=y:=fun e=>hlen (by rw [e]);exact ret_tmp (t:=4) h22 rfl rfl ⟨by rw [bdec_false R],hW13.bel⟩
  have h9:x.code.length=y.code.length:=by have h8:=bne_eq_false_iff_eq.1 hb;omega
  have hlen:Hid (x.code.length=y.code.length):=h9;clear h9;clear hb;refine wp_skip ?_;refine hK5 _ _ ?_;refine wp_seq_k fun K23 hK23=>?_;refine wp_seq_k fun K24 hK24=>?_;refine rg h20 fun ops=>?_;clear h20 a20;refine sa trivial rfl rfl ?_;refine St.nil fun a25 h25=>?_;refine hK24 _ _ ?_;refine wp_block ?_;refine fr_loop (fun r a w'=>∃ q:Nat,q≤x.code.length∧r=x.code.length - q∧(∀ j,j<q→x.code[j]?=y.code[j]?)∧Fr 90 a [(1,.agg #[.int .i64 y.regs,.slice d.pP y.params.length d.cP,.slice d.pC y.code.length d.cC,.int .i64 y.fin.op,.int .i64 y.fin.a,.int .i64 y.fin.yes.block,.slice d.e.pYR y.fin.yes.regs.length d.e.cYR,.slice d.e.pYA y.fin.yes.args.length d.e.cYA,.int .i64 y.fin.no.block,.slice d.e.pNR y.fin.no.regs.length d.e.cNR,.slice d.e.pNA y.fin.no.args.length d.e.cNA,.slice d.e.pA y.fin.args.length d.e.cA]),(0,.agg #[.int .i64 x.regs,.slice b.pP x.params.length b.cP,.slice b.pC x.code.length b.cC,.int .i64 x.fin.op,.int .i64 x.fin.a,.int .i64 x.fin.yes.block,.slice b.e.pYR x.fin.yes.regs.length b.e.cYR,.slice b.e.pYA x.fin.yes.args.length b.e.cYA,.int .i64 x.fin.no.block,.slice b.e.pNR x.fin.no.regs.length b.e.cNR,.slice b.e.pNA x.fin.no.args.length b.e.cNA,.slice b.e.pA x.fin.args.length b.e.cA]),(2,.pointer (some ⟨B2,0,none⟩)),(3,.pointer (some ⟨B3,0,none⟩)),(4,.bool false),(5,.int .i64 (q:Int))]∧Wd w w' [(B3,#[.int .i64 y.regs,.slice d.pP y.params.length d.cP,.slice d.pC y.code.length d.cC,.int .i64 y.fin.op,.int .i64 y.fin.a,.int .i64 y.fin.yes.block,.slice d.e.pYR y.fin.yes.regs.length d.e.cYR,.slice d.e.pYA y.fin.yes.args.length d.e.cYA,.int .i64 y.fin.no.block,.slice d.e.pNR y.fin.no.regs.length d.e.cNR,.slice d.e.pNA y.fin.no.args.length d.e.cNA,.slice d.e.pA y.fin.args.length d.e.cA],52),(B2,#[.int .i64 x.regs,.slice b.pP x.params.length b.cP,.slice b.pC x.code.length b.cC,.int .i64 x.fin.op,.int .i64 x.fin.a,.int .i64 x.fin.yes.block,.slice b.e.pYR x.fin.yes.regs.length b.e.cYR,.slice b.e.pYA x.fin.yes.args.length b.e.cYA,.int .i64 x.fin.no.block,.slice b.e.pNR x.fin.no.regs.length b.e.cNR,.slice b.e.pNA x.fin.no.args.length b.e.cNA,.slice b.e.pA x.fin.args.length b.e.cA],52)]) (x.code.length) ⟨0,Nat.zero_le _,rfl,(fun j hj=>by omega),(h25.keep (h25.keep (h25.keep (h25.keep (h25.keep (h25.keep h25.nil (t:=5) rfl) (t:=4) rfl) (t:=3) rfl) (t:=2) rfl) (t:=0) rfl) (t:=1) rfl),hW13⟩ ?_;clear h25 hW13;rintro r a26 w26 ⟨q,hq,hr,hall,hF26,hW26⟩ KL hKL;refine wp_seq_k fun K27 hK27=>?_;refine wp_seq_k fun K28 hK28=>?_;refine rg hF26 fun ops=>?_;clear hF26 a26;refine sm trivial rfl rfl ?_;refine sfBlock2 trivial rfl rfl ?_;refine sbInss 1 hW26 trivial rfl rfl rfl rfl ?_;refine slInss trivial rfl rfl ?_;refine slt trivial rfl rfl rfl ?_;refine St.nil fun a29 h29=>?_;refine hK28 _ _ ?_;refine fr_cond (t:=32) h29 rfl (fun hb=>?_) (fun hb=>?_)
  ·have hlt1:q<x.code.length:=by have:=of_decide_eq_true hb;omega
   have hlt2:q<y.code.length:=by have:=hlen.out;omega
   clear hb;obtain ⟨z,hx1⟩:∃ v9,(x.code)[q]?=some v9:=⟨_,List.getElem?_eq_getElem hlt1⟩;obtain ⟨g1,o1,i1,hp1,E1,In1⟩:=ins_at hx.out.code hx1;replace In1:Hid _:=In1;replace hp1:Hid _:=hp1;replace hx1:Hid _:=hx1;replace E1:Hid _:=E1;obtain ⟨u,hx2⟩:∃ v9,(y.code)[q]?=some v9:=⟨_,List.getElem?_eq_getElem hlt2⟩;obtain ⟨g2,o2,i2,hp2,E2,In2⟩:=ins_at hy.out.code hx2;replace In2:Hid _:=In2;replace hp2:Hid _:=hp2;replace hx2:Hid _:=hx2;replace E2:Hid _:=E2;refine wp_skip ?_;refine hK27 _ _ ?_;refine wp_seq_k fun K30 hK30=>?_;refine wp_block ?_;refine wp_seq_k fun K31 hK31=>?_;have hF32:Fr 90 a29 [(1,.agg #[.int .i64 y.regs,.slice d.pP y.params.length d.cP,.slice d.pC y.code.length d.cC,.int .i64 y.fin.op,.int .i64 y.fin.a,.int .i64 y.fin.yes.block,.slice d.e.pYR y.fin.yes.regs.length d.e.cYR,.slice d.e.pYA y.fin.yes.args.length d.e.cYA,.int .i64 y.fin.no.block,.slice d.e.pNR y.fin.no.regs.length d.e.cNR,.slice d.e.pNA y.fin.no.args.length d.e.cNA,.slice d.e.pA y.fin.args.length d.e.cA]),(0,.agg #[.int .i64 x.regs,.slice b.pP x.params.length b.cP,.slice b.pC x.code.length b.cC,.int .i64 x.fin.op,.int .i64 x.fin.a,.int .i64 x.fin.yes.block,.slice b.e.pYR x.fin.yes.regs.length b.e.cYR,.slice b.e.pYA x.fin.yes.args.length b.e.cYA,.int .i64 x.fin.no.block,.slice b.e.pNR x.fin.no.regs.length b.e.cNR,.slice b.e.pNA x.fin.no.args.length b.e.cNA,.slice b.e.pA x.fin.args.length b.e.cA]),(2,.pointer (some ⟨B2,0,none⟩)),(3,.pointer (some ⟨B3,0,none⟩)),(4,.bool false),(5,.int .i64 (q:Int))]:=(h29.keep (h29.keep (h29.keep (h29.keep (h29.keep (h29.keep h29.nil (t:=5) rfl) (t:=4) rfl) (t:=3) rfl) (t:=2) rfl) (t:=0) rfl) (t:=1) rfl);have ho2:a29.tmps.getD 2 undef=.pointer (some ⟨B2,0,none⟩):=h29.sl 2 _ rfl;have ho5:a29.tmps.getD 5 undef=.int .i64 (q:Int):=h29.sl 5 _ rfl;have ho3:a29.tmps.getD 3 undef=.pointer (some ⟨B3,0,none⟩):=h29.sl 3 _ rfl;refine fr_draw_k 12 ([(2,fun v _=>v=.pointer (some ⟨B2,0,none⟩)),(5,fun v _=>v=.int .i64 (q:Int)),(3,fun v _=>v=.pointer (some ⟨B3,0,none⟩)),(35,fun v _=>v=.pointer (some ⟨B2,2,none⟩)),(36,fun v _=>v=.slice b.pC x.code.length b.cC),(37,fun v _=>v=.int .i64 (q:Int)),(38,fun v _=>v=.pointer (some ⟨g1,o1+q*8,none⟩)),(39,fun v _=>v=.agg #[.int .i64 z.op,.int .i64 z.a,.int .i64 z.b,.int .i64 z.c,.int .i64 z.k,.int .i64 z.n,.slice i1.pR z.regs.length i1.cR,.slice i1.pA z.args.length i1.cA]),(40,fun v _=>v=.pointer (some ⟨B3,2,none⟩)),(41,fun v _=>v=.slice d.pC y.code.length d.cC),(42,fun v _=>v=.int .i64 (q:Int)),(43,fun v _=>v=.pointer (some ⟨g2,o2+q*8,none⟩)),(44,fun v _=>v=.agg #[.int .i64 u.op,.int .i64 u.a,.int .i64 u.b,.int .i64 u.c,.int .i64 u.k,.int .i64 u.n,.slice i2.pR u.regs.length i2.cR,.slice i2.pA u.args.length i2.cA]),(45,fun v _=>v=.bool (bdec (z=u))),(46,fun v _=>v=.bool (!(bdec (z=u))))]:PTab) (fun w'=>Wd w w' [(B3,#[.int .i64 y.regs,.slice d.pP y.params.length d.cP,.slice d.pC y.code.length d.cC,.int .i64 y.fin.op,.int .i64 y.fin.a,.int .i64 y.fin.yes.block,.slice d.e.pYR y.fin.yes.regs.length d.e.cYR,.slice d.e.pYA y.fin.yes.args.length d.e.cYA,.int .i64 y.fin.no.block,.slice d.e.pNR y.fin.no.regs.length d.e.cNR,.slice d.e.pNA y.fin.no.args.length d.e.cNA,.slice d.e.pA y.fin.args.length d.e.cA],52),(B2,#[.int .i64 x.regs,.slice b.pP x.params.length b.cP,.slice b.pC x.code.length b.cC,.int .i64 x.fin.op,.int .i64 x.fin.a,.int .i64 x.fin.yes.block,.slice b.e.pYR x.fin.yes.regs.length b.e.cYR,.slice b.e.pYA x.fin.yes.args.length b.e.cYA,.int .i64 x.fin.no.block,.slice b.e.pNR x.fin.no.regs.length b.e.cNR,.slice b.e.pNA x.fin.no.args.length b.e.cNA,.slice b.e.pA x.fin.args.length b.e.cA],52)]∧Below w26.heap.size w26 w') (fun w w'=>Below w.heap.size w w') (outs:=[2,5,3]) (gs:=[]) (bs:=[true,true,true,true,true,true,true,true,true,true,true,true]) (by kernel_rfl) hF32 rfl (by kernel_rfl) (by kernel_rfl) ?hR ?hG ⟨hW26.drewN 1,drewN_below (m:=1) (Below.refl _ _)⟩ ⟨ho2,ho5,ho3,trivial⟩ ?hA ?hend
   case hR=>exact ⟨fun _ _ _ _ h=>h,fun _ _ _ _ h=>h,fun _ _ _ _ h=>h,fun _ _ _ _ h=>h,fun _ _ _ _ h=>h,fun _ _ _ _ h=>h,fun _ _ _ _ h=>h,fun _ _ _ _ h=>h,fun _ _ _ _ h=>h,fun _ _ _ _ h=>h,fun _ _ _ _ h=>h,fun _ _ _ _ h=>h,fun _ _ _ _ h=>h,fun _ _ _ _ h=>h,fun _ _ _ _ h=>h,trivial⟩
   case hG=>exact trivial
   case hA =>
    refine ⟨fun a w hW hk K hK=>?_,?_⟩
    · obtain ⟨k0,-⟩:=hk;have k0:a.tmps.getD 2 undef=.pointer (some ⟨B2,0,none⟩):=k0;go_simp;exact hK _ _ (Below.refl _ _) hW rfl
    refine ⟨fun a w hW hk K hK=>?_,?_⟩
    · obtain ⟨k0,-⟩:=hk;have k0:a.tmps.getD 35 undef=.pointer (some ⟨B2,2,none⟩):=k0;have c2:w.cell? ⟨B2,2,none⟩=some (.slice b.pC x.code.length b.cC):=cellOf (hW.1.get 1 rfl) 2 _ rfl;go_simp;exact hK _ _ (Below.refl _ _) hW rfl
    refine ⟨fun a w hW hk K hK=>?_,?_⟩
    · obtain ⟨k0,-⟩:=hk;have k0:a.tmps.getD 5 undef=.int .i64 (q:Int):=k0;go_simp;exact hK _ _ (Below.refl _ _) hW rfl
    refine ⟨fun a w hW hk K hK=>?_,?_⟩
    · obtain ⟨k0,k1,-⟩:=hk;have k0:a.tmps.getD 36 undef=.slice b.pC x.code.length b.cC:=k0;have k1:a.tmps.getD 37 undef=.int .i64 (q:Int):=k1;have hpq:=hp1.out;have hk0:(0:Int)≤q:=by omega
      have hk1:(q:Int)<(x.code.length:Int):=by omega
      go_simp;exact hK _ _ (Below.refl _ _) hW rfl
    refine ⟨fun a w hW hk K hK=>?_,?_⟩
    · obtain ⟨k0,-⟩:=hk;have k0:a.tmps.getD 38 undef=.pointer (some ⟨g1,o1+q*8,none⟩):=k0;have d0:w.cell? ⟨g1,o1+q*8,none⟩=some (.int .i64 z.op):=bel_cell hW.1.bel (E1.out 0 _ rfl);have d1:w.cell? ⟨g1,o1+q*8+1,none⟩=some (.int .i64 z.a):=bel_cell hW.1.bel (E1.out 1 _ rfl);have d2:w.cell? ⟨g1,o1+q*8+2,none⟩=some (.int .i64 z.b):=bel_cell hW.1.bel (E1.out 2 _ rfl);have d3:w.cell? ⟨g1,o1+q*8+3,none⟩=some (.int .i64 z.c):=bel_cell hW.1.bel (E1.out 3 _ rfl);have d4:w.cell? ⟨g1,o1+q*8+4,none⟩=some (.int .i64 z.k):=bel_cell hW.1.bel (E1.out 4 _ rfl);have d5:w.cell? ⟨g1,o1+q*8+5,none⟩=some (.int .i64 z.n):=bel_cell hW.1.bel (E1.out 5 _ rfl);have d6:w.cell? ⟨g1,o1+q*8+6,none⟩=some (.slice i1.pR z.regs.length i1.cR):=bel_cell hW.1.bel (E1.out 6 _ rfl);have d7:w.cell? ⟨g1,o1+q*8+7,none⟩=some (.slice i1.pA z.args.length i1.cA):=bel_cell hW.1.bel (E1.out 7 _ rfl);go_simp;exact hK _ _ (Below.refl _ _) hW rfl
    refine ⟨fun a w hW hk K hK=>?_,?_⟩
    · obtain ⟨k0,-⟩:=hk;have k0:a.tmps.getD 3 undef=.pointer (some ⟨B3,0,none⟩):=k0;go_simp;exact hK _ _ (Below.refl _ _) hW rfl
    refine ⟨fun a w hW hk K hK=>?_,?_⟩
    · obtain ⟨k0,-⟩:=hk;have k0:a.tmps.getD 40 undef=.pointer (some ⟨B3,2,none⟩):=k0;have c2:w.cell? ⟨B3,2,none⟩=some (.slice d.pC y.code.length d.cC):=cellOf (hW.1.get 0 rfl) 2 _ rfl;go_simp;exact hK _ _ (Below.refl _ _) hW rfl
    refine ⟨fun a w hW hk K hK=>?_,?_⟩
    · obtain ⟨k0,-⟩:=hk;have k0:a.tmps.getD 5 undef=.int .i64 (q:Int):=k0;go_simp;exact hK _ _ (Below.refl _ _) hW rfl
    refine ⟨fun a w hW hk K hK=>?_,?_⟩
    · obtain ⟨k0,k1,-⟩:=hk;have k0:a.tmps.getD 41 undef=.slice d.pC y.code.length d.cC:=k0;have k1:a.tmps.getD 42 undef=.int .i64 (q:Int):=k1;have hpq:=hp2.out;have hk0:(0:Int)≤q:=by omega
      have hk1:(q:Int)<(y.code.length:Int):=by omega
      go_simp;exact hK _ _ (Below.refl _ _) hW rfl
    refine ⟨fun a w hW hk K hK=>?_,?_⟩
    · obtain ⟨k0,-⟩:=hk;have k0:a.tmps.getD 43 undef=.pointer (some ⟨g2,o2+q*8,none⟩):=k0;have d0:w.cell? ⟨g2,o2+q*8,none⟩=some (.int .i64 u.op):=bel_cell hW.1.bel (E2.out 0 _ rfl);have d1:w.cell? ⟨g2,o2+q*8+1,none⟩=some (.int .i64 u.a):=bel_cell hW.1.bel (E2.out 1 _ rfl);have d2:w.cell? ⟨g2,o2+q*8+2,none⟩=some (.int .i64 u.b):=bel_cell hW.1.bel (E2.out 2 _ rfl);have d3:w.cell? ⟨g2,o2+q*8+3,none⟩=some (.int .i64 u.c):=bel_cell hW.1.bel (E2.out 3 _ rfl);have d4:w.cell? ⟨g2,o2+q*8+4,none⟩=some (.int .i64 u.k):=bel_cell hW.1.bel (E2.out 4 _ rfl);have d5:w.cell? ⟨g2,o2+q*8+5,none⟩=some (.int .i64 u.n):=bel_cell hW.1.bel (E2.out 5 _ rfl);have d6:w.cell? ⟨g2,o2+q*8+6,none⟩=some (.slice i2.pR u.regs.length i2.cR):=bel_cell hW.1.bel (E2.out 6 _ rfl);have d7:w.cell? ⟨g2,o2+q*8+7,none⟩=some (.slice i2.pA u.args.length i2.cA):=bel_cell hW.1.bel (E2.out 7 _ rfl);go_simp;exact hK _ _ (Below.refl _ _) hW rfl
    refine ⟨fun a w hW hk K hK=>?_,?_⟩
    · obtain ⟨k0,k1,-⟩:=hk;have k0:a.tmps.getD 39 undef=.agg #[.int .i64 z.op,.int .i64 z.a,.int .i64 z.b,.int .i64 z.c,.int .i64 z.k,.int .i64 z.n,.slice i1.pR z.regs.length i1.cR,.slice i1.pA z.args.length i1.cA]:=k0;have k1:a.tmps.getD 44 undef=.agg #[.int .i64 u.op,.int .i64 u.a,.int .i64 u.b,.int .i64 u.c,.int .i64 u.k,.int .i64 u.n,.slice i2.pR u.regs.length i2.cR,.slice i2.pA u.args.length i2.cA]:=k1;have hC:Rd Tryz.prog 69 #[.agg #[.int .i64 z.op,.int .i64 z.a,.int .i64 z.b,.int .i64 z.c,.int .i64 z.k,.int .i64 z.n,.slice i1.pR z.regs.length i1.cR,.slice i1.pA z.args.length i1.cA],.agg #[.int .i64 u.op,.int .i64 u.a,.int .i64 u.b,.int .i64 u.c,.int .i64 u.k,.int .i64 u.n,.slice i2.pR u.regs.length i2.cR,.slice i2.pA u.args.length i2.cA]] w (.bool (bdec (z=u))):=sameIns_any (In1.out.below hW.1.bel) (In2.out.below hW.1.bel) (hs.out.2.2.2 _ (List.mem_of_getElem? hx1.out));go_simp;refine hC.mono ?_;rintro e w9 ⟨rfl,hb⟩;exact hK _ _ hb ⟨hW.1.below hb,Below.andThen hW.2 hb⟩ rfl
    refine ⟨fun a w hW hk K hK=>?_,?_⟩
    · obtain ⟨k0,-⟩:=hk;have k0:a.tmps.getD 45 undef=.bool (bdec (z=u)):=k0;go_simp;exact hK _ _ (Below.refl _ _) hW rfl
    trivial
   case hend =>
    intro ops a33 w33 hWD hE hFD;have hd46:a33.tmps.getD 46 undef=.bool (!(bdec (z=u))):=hE 46 rfl;have hF33:Fr 90 a33 [(46,.bool (!(bdec (z=u)))),(1,.agg #[.int .i64 y.regs,.slice d.pP y.params.length d.cP,.slice d.pC y.code.length d.cC,.int .i64 y.fin.op,.int .i64 y.fin.a,.int .i64 y.fin.yes.block,.slice d.e.pYR y.fin.yes.regs.length d.e.cYR,.slice d.e.pYA y.fin.yes.args.length d.e.cYA,.int .i64 y.fin.no.block,.slice d.e.pNR y.fin.no.regs.length d.e.cNR,.slice d.e.pNA y.fin.no.args.length d.e.cNA,.slice d.e.pA y.fin.args.length d.e.cA]),(0,.agg #[.int .i64 x.regs,.slice b.pP x.params.length b.cP,.slice b.pC x.code.length b.cC,.int .i64 x.fin.op,.int .i64 x.fin.a,.int .i64 x.fin.yes.block,.slice b.e.pYR x.fin.yes.regs.length b.e.cYR,.slice b.e.pYA x.fin.yes.args.length b.e.cYA,.int .i64 x.fin.no.block,.slice b.e.pNR x.fin.no.regs.length b.e.cNR,.slice b.e.pNA x.fin.no.args.length b.e.cNA,.slice b.e.pA x.fin.args.length b.e.cA]),(2,.pointer (some ⟨B2,0,none⟩)),(3,.pointer (some ⟨B3,0,none⟩)),(4,.bool false),(5,.int .i64 (q:Int))]:=(hFD.cons hd46);clear hd46;have hW33:Wd w w33 [(B3,#[.int .i64 y.regs,.slice d.pP y.params.length d.cP,.slice d.pC y.code.length d.cC,.int .i64 y.fin.op,.int .i64 y.fin.a,.int .i64 y.fin.yes.block,.slice d.e.pYR y.fin.yes.regs.length d.e.cYR,.slice d.e.pYA y.fin.yes.args.length d.e.cYA,.int .i64 y.fin.no.block,.slice d.e.pNR y.fin.no.regs.length d.e.cNR,.slice d.e.pNA y.fin.no.args.length d.e.cNA,.slice d.e.pA y.fin.args.length d.e.cA],52),(B2,#[.int .i64 x.regs,.slice b.pP x.params.length b.cP,.slice b.pC x.code.length b.cC,.int .i64 x.fin.op,.int .i64 x.fin.a,.int .i64 x.fin.yes.block,.slice b.e.pYR x.fin.yes.regs.length b.e.cYR,.slice b.e.pYA x.fin.yes.args.length b.e.cYA,.int .i64 x.fin.no.block,.slice b.e.pNR x.fin.no.regs.length b.e.cNR,.slice b.e.pNA x.fin.no.args.length b.e.cNA,.slice b.e.pA x.fin.args.length b.e.cA],52)]:=hWD.1;clear hFD hWD hE hF32 h29;clear hW26;refine wpList_nil ?_;refine hK31 _ _ ?_;refine fr_cond (t:=46) hF33 rfl (fun hb=>?_) (fun hb=>?_)
    ·have hb:(bdec (z=u))=false:=by simpa using hb
     have hel:¬ (z=u):=fun h=>by rw [bdec_true h] at hb;cases hb
     clear hb;refine wp_seq_k fun K34 hK34=>?_;refine rg hF33 fun ops=>?_;clear hF33 a33;refine sa trivial rfl rfl ?_;refine St.nil fun a35 h35=>?_;refine hK34 _ _ ?_;refine wp_ret ?_;with_reducible repeat first | refine of_then_ret ?_ | refine of_block_ret ?_
     have R:¬ x=y:=by
       intro e;have h1:=hx1.out;rw [e,hx2.out] at h1;exact hel (Option.some.inj h1).symm
     exact ret_tmp (t:=4) h35 rfl rfl ⟨by rw [bdec_false R],hW33.bel⟩
    have hb:(bdec (z=u))=true:=by simpa using hb
    have hel:(z=u):=bdec_iff.1 hb;clear hb;refine wp_skip ?_;refine hK30 _ _ ?_;refine rg hF33 fun ops=>?_;clear hF33 a33;refine sm trivial rfl rfl ?_;refine sad (by omega) trivial rfl rfl rfl ?_;refine sa trivial rfl rfl ?_;refine St.nil fun a36 h36=>?_;refine hKL _ _ (x.code.length - (q+1)) (by omega) ⟨q+1,by omega,rfl,?_,(h36.keep (h36.keep (h36.keep (h36.keep (h36.keep (h36.keep h36.nil (t:=5) rfl) (t:=4) rfl) (t:=3) rfl) (t:=2) rfl) (t:=0) rfl) (t:=1) rfl),hW33⟩
    ·intro j hj
     by_cases e:j=q
     · subst e;rw [hx1.out,hx2.out,hel]
     · exact hall j (by omega)
  have hge:q=x.code.length:=by have:=of_decide_eq_false hb;omega
  clear hb;refine wp_exit ?_;refine hK23 _ _ ?_;refine wp_seq_k fun K37 hK37=>?_;refine fr_region ?_;intro ops hops;have hg7:(ops[7]?).bind (fun o:Oper=>o.dst)=some 54:=hops 7;have hg16:(ops[16]?).bind (fun o:Oper=>o.dst)=some 63:=hops 16;have hg25:(ops[25]?).bind (fun o:Oper=>o.dst)=some 72:=hops 25;have hg34:(ops[34]?).bind (fun o:Oper=>o.dst)=some 81:=hops 34;clear hops;refine St.go h29 ?_;clear h29 a29;refine sfBlock3 trivial rfl rfl ?_;refine sfEnd0 trivial rfl rfl ?_;refine sbInt 1 hW26 trivial rfl rfl rfl rfl ?_;refine sfBlock3 trivial rfl rfl ?_;refine sfEnd0 trivial rfl rfl ?_;refine sbInt 0 hW26 trivial rfl rfl rfl rfl ?_;refine seq trivial rfl rfl rfl ?_;refine sm trivial rfl rfl ?_;intro a38 h38;rcases Bool.eq_false_or_eq_true (x.fin.op==y.fin.op) with hb | hb
  ·rw [hb] at h38
   have h9:x.fin.op=y.fin.op:=eq_of_beq hb;have hc39:Hid (x.fin.op=y.fin.op):=h9;clear h9;clear hb;refine St.go h38 ?_;clear h38 a38;refine sfBlock3 ⟨_,hg7,rfl,rfl⟩ rfl rfl ?_;refine sfEnd1 ⟨_,hg7,rfl,rfl⟩ rfl rfl ?_;refine sbInt 1 hW26 ⟨_,hg7,rfl,rfl⟩ rfl rfl rfl rfl ?_;refine sfBlock3 ⟨_,hg7,rfl,rfl⟩ rfl rfl ?_;refine sfEnd1 ⟨_,hg7,rfl,rfl⟩ rfl rfl ?_;refine sbInt 0 hW26 ⟨_,hg7,rfl,rfl⟩ rfl rfl rfl rfl ?_;refine seq ⟨_,hg7,rfl,rfl⟩ rfl rfl rfl ?_;refine sp trivial rfl rfl rfl ?_;refine sm trivial rfl rfl ?_;intro a40 h40;rcases Bool.eq_false_or_eq_true (x.fin.a==y.fin.a) with hb | hb
   ·rw [hb] at h40
    have h9:x.fin.a=y.fin.a:=eq_of_beq hb;have hc41:Hid (x.fin.a=y.fin.a):=h9;clear h9;clear hb;refine St.go h40 ?_;clear h40 a40;refine sfBlock3 ⟨_,hg16,rfl,rfl⟩ rfl rfl ?_;refine sfEnd2 ⟨_,hg16,rfl,rfl⟩ rfl rfl ?_;refine sS 1 3 Tryz.underlying48 rfl infTo hW26 ⟨_,hg16,rfl,rfl⟩ rfl rfl rfl rfl ?_;refine sfBlock3 ⟨_,hg16,rfl,rfl⟩ rfl rfl ?_;refine sfEnd2 ⟨_,hg16,rfl,rfl⟩ rfl rfl ?_;refine sS 0 3 Tryz.underlying48 rfl infTo hW26 ⟨_,hg16,rfl,rfl⟩ rfl rfl rfl rfl ?_;refine sc_2 cf70 hW26 (sameTo_any (hx.out.fin.yes.below hW26.bel) (hy.out.fin.yes.below hW26.bel) hs.out.2.2.1.1) ⟨_,hg16,rfl,rfl⟩ rfl rfl rfl ?_;clear hW26;intro w42 hW42;refine sp trivial rfl rfl rfl ?_;refine sm trivial rfl rfl ?_;intro a43 h43;rcases Bool.eq_false_or_eq_true (bdec (x.fin.yes=y.fin.yes)) with hb | hb
    ·rw [hb] at h43
     have hc44:(x.fin.yes=y.fin.yes):=bdec_iff.1 hb;clear hb;refine St.go h43 ?_;clear h43 a43;refine sfBlock3 ⟨_,hg25,rfl,rfl⟩ rfl rfl ?_;refine sfEnd3 ⟨_,hg25,rfl,rfl⟩ rfl rfl ?_;refine sS 1 3 Tryz.underlying48 rfl infTo hW42 ⟨_,hg25,rfl,rfl⟩ rfl rfl rfl rfl ?_;refine sfBlock3 ⟨_,hg25,rfl,rfl⟩ rfl rfl ?_;refine sfEnd3 ⟨_,hg25,rfl,rfl⟩ rfl rfl ?_;refine sS 0 3 Tryz.underlying48 rfl infTo hW42 ⟨_,hg25,rfl,rfl⟩ rfl rfl rfl rfl ?_;refine sc_2 cf70 hW42 (sameTo_any (hx.out.fin.no.below hW42.bel) (hy.out.fin.no.below hW42.bel) hs.out.2.2.1.2.1) ⟨_,hg25,rfl,rfl⟩ rfl rfl rfl ?_;clear hW42;intro w45 hW45;refine sp trivial rfl rfl rfl ?_;refine sm trivial rfl rfl ?_;intro a46 h46;rcases Bool.eq_false_or_eq_true (bdec (x.fin.no=y.fin.no)) with hb | hb
     ·rw [hb] at h46
      have hc47:(x.fin.no=y.fin.no):=bdec_iff.1 hb;clear hb;refine St.go h46 ?_;clear h46 a46;refine sfBlock3 ⟨_,hg34,rfl,rfl⟩ rfl rfl ?_;refine sfEnd4 ⟨_,hg34,rfl,rfl⟩ rfl rfl ?_;refine sbInts 1 hW45 ⟨_,hg34,rfl,rfl⟩ rfl rfl rfl rfl ?_;refine sfBlock3 ⟨_,hg34,rfl,rfl⟩ rfl rfl ?_;refine sfEnd4 ⟨_,hg34,rfl,rfl⟩ rfl rfl ?_;refine sbInts 0 hW45 ⟨_,hg34,rfl,rfl⟩ rfl rfl rfl rfl ?_;refine sc_2 cf71 hW45 (sameInts_any x.fin.args y.fin.args b.e.pA d.e.pA b.e.cA d.e.cA w45 (Lay.below hx.out.fin.args hW45.bel) (Lay.below hy.out.fin.args hW45.bel) (by have:=hs.out.2.2.1.2.2;omega)) ⟨_,hg34,rfl,rfl⟩ rfl rfl rfl ?_;clear hW45;intro w48 hW48;refine sp trivial rfl rfl rfl ?_;refine sa trivial rfl rfl ?_;refine St.nil fun a49 h49=>?_;refine hK37 _ _ ?_;refine wp_ret ?_;with_reducible repeat first | refine of_then_ret ?_ | refine of_block_ret ?_
      have RC:x.code=y.code:=by
        have:=hlen.out
        refine List.ext_getElem? fun i=>?_;by_cases hi:i<q
        · exact hall i hi
        · rw [List.getElem?_eq_none (by omega),List.getElem?_eq_none (by omega)]
      have R:x.fin.args=y.fin.args ↔ x=y:=⟨fun h=>MBlock.eq_of hc12.out hc19 RC (MEnd.eq_of hc39.out hc41.out hc44 hc47 h),fun e=>by rw [e]⟩;exact ret_tmp (t:=4) h49 rfl rfl ⟨by rw [bdec_congr R],hW48.bel⟩
     rw [hb] at h46;have hc50:¬ (x.fin.no=y.fin.no):=fun h=>by rw [bdec_true h] at hb;cases hb
     clear hb;refine St.go h46 ?_;clear h46 a46;refine so hg34 rfl rfl rfl rfl ?_;refine so hg34 rfl rfl rfl rfl ?_;refine so hg34 rfl rfl rfl rfl ?_;refine so hg34 rfl rfl rfl rfl ?_;refine so hg34 rfl rfl rfl rfl ?_;refine so hg34 rfl rfl rfl rfl ?_;refine so hg34 rfl rfl rfl rfl ?_;refine spf trivial rfl rfl rfl ?_;refine sa trivial rfl rfl ?_;refine St.nil fun a51 h51=>?_;refine hK37 _ _ ?_;refine wp_ret ?_;with_reducible repeat first | refine of_then_ret ?_ | refine of_block_ret ?_
     have R:¬ x=y:=fun e=>hc50 (by rw [e]);exact ret_tmp (t:=4) h51 rfl rfl ⟨by rw [bdec_false R],hW45.bel⟩
    rw [hb] at h43;have hc52:¬ (x.fin.yes=y.fin.yes):=fun h=>by rw [bdec_true h] at hb;cases hb
    clear hb;refine St.go h43 ?_;clear h43 a43;refine so hg25 rfl rfl rfl rfl ?_;refine so hg25 rfl rfl rfl rfl ?_;refine so hg25 rfl rfl rfl rfl ?_;refine so hg25 rfl rfl rfl rfl ?_;refine so hg25 rfl rfl rfl rfl ?_;refine so hg25 rfl rfl rfl rfl ?_;refine so hg25 rfl rfl rfl rfl ?_;refine spf trivial rfl rfl rfl ?_;refine sm trivial rfl rfl ?_;refine so hg34 rfl rfl rfl rfl ?_;refine so hg34 rfl rfl rfl rfl ?_;refine so hg34 rfl rfl rfl rfl ?_;refine so hg34 rfl rfl rfl rfl ?_;refine so hg34 rfl rfl rfl rfl ?_;refine so hg34 rfl rfl rfl rfl ?_;refine so hg34 rfl rfl rfl rfl ?_;refine spf trivial rfl rfl rfl ?_;refine sa trivial rfl rfl ?_;refine St.nil fun a53 h53=>?_;refine hK37 _ _ ?_;refine wp_ret ?_;with_reducible repeat first | refine of_then_ret ?_ | refine of_block_ret ?_
    have R:¬ x=y:=fun e=>hc52 (by rw [e]);exact ret_tmp (t:=4) h53 rfl rfl ⟨by rw [bdec_false R],hW42.bel⟩
   rw [hb] at h40;have h9:¬ x.fin.a=y.fin.a:=ne_of_beq_false hb;have hc54:¬ x.fin.a=y.fin.a:=h9;clear h9;clear hb;refine St.go h40 ?_;clear h40 a40;refine so hg16 rfl rfl rfl rfl ?_;refine so hg16 rfl rfl rfl rfl ?_;refine so hg16 rfl rfl rfl rfl ?_;refine so hg16 rfl rfl rfl rfl ?_;refine so hg16 rfl rfl rfl rfl ?_;refine so hg16 rfl rfl rfl rfl ?_;refine so hg16 rfl rfl rfl rfl ?_;refine spf trivial rfl rfl rfl ?_;refine sm trivial rfl rfl ?_;refine so hg25 rfl rfl rfl rfl ?_;refine so hg25 rfl rfl rfl rfl ?_;refine so hg25 rfl rfl rfl rfl ?_;refine so hg25 rfl rfl rfl rfl ?_;refine so hg25 rfl rfl rfl rfl ?_;refine so hg25 rfl rfl rfl rfl ?_;refine so hg25 rfl rfl rfl rfl ?_;refine spf trivial rfl rfl rfl ?_;refine sm trivial rfl rfl ?_;refine so hg34 rfl rfl rfl rfl ?_;refine so hg34 rfl rfl rfl rfl ?_;refine so hg34 rfl rfl rfl rfl ?_;refine so hg34 rfl rfl rfl rfl ?_;refine so hg34 rfl rfl rfl rfl ?_;refine so hg34 rfl rfl rfl rfl ?_;refine so hg34 rfl rfl rfl rfl ?_;refine spf trivial rfl rfl rfl ?_;refine sa trivial rfl rfl ?_;refine St.nil fun a55 h55=>?_;refine hK37 _ _ ?_;refine wp_ret ?_;with_reducible repeat first | refine of_then_ret ?_ | refine of_block_ret ?_
   have R:¬ x=y:=fun e=>hc54 (by rw [e]);exact ret_tmp (t:=4) h55 rfl rfl ⟨by rw [bdec_false R],hW26.bel⟩
  rw [hb] at h38;have h9:¬ x.fin.op=y.fin.op:=ne_of_beq_false hb;have hc56:¬ x.fin.op=y.fin.op:=h9;clear h9;clear hb;refine St.go h38 ?_;clear h38 a38;refine so hg7 rfl rfl rfl rfl ?_;refine so hg7 rfl rfl rfl rfl ?_;refine so hg7 rfl rfl rfl rfl ?_;refine so hg7 rfl rfl rfl rfl ?_;refine so hg7 rfl rfl rfl rfl ?_;refine so hg7 rfl rfl rfl rfl ?_;refine so hg7 rfl rfl rfl rfl ?_;refine spf trivial rfl rfl rfl ?_;refine sm trivial rfl rfl ?_;refine so hg16 rfl rfl rfl rfl ?_;refine so hg16 rfl rfl rfl rfl ?_;refine so hg16 rfl rfl rfl rfl ?_;refine so hg16 rfl rfl rfl rfl ?_;refine so hg16 rfl rfl rfl rfl ?_;refine so hg16 rfl rfl rfl rfl ?_;refine so hg16 rfl rfl rfl rfl ?_;refine spf trivial rfl rfl rfl ?_;refine sm trivial rfl rfl ?_;refine so hg25 rfl rfl rfl rfl ?_;refine so hg25 rfl rfl rfl rfl ?_;refine so hg25 rfl rfl rfl rfl ?_;refine so hg25 rfl rfl rfl rfl ?_;refine so hg25 rfl rfl rfl rfl ?_;refine so hg25 rfl rfl rfl rfl ?_;refine so hg25 rfl rfl rfl rfl ?_;refine spf trivial rfl rfl rfl ?_;refine sm trivial rfl rfl ?_;refine so hg34 rfl rfl rfl rfl ?_;refine so hg34 rfl rfl rfl rfl ?_;refine so hg34 rfl rfl rfl rfl ?_;refine so hg34 rfl rfl rfl rfl ?_;refine so hg34 rfl rfl rfl rfl ?_;refine so hg34 rfl rfl rfl rfl ?_;refine so hg34 rfl rfl rfl rfl ?_;refine spf trivial rfl rfl rfl ?_;refine sa trivial rfl rfl ?_;refine St.nil fun a57 h57=>?_;refine hK37 _ _ ?_;refine wp_ret ?_;with_reducible repeat first | refine of_then_ret ?_ | refine of_block_ret ?_
  have R:¬ x=y:=fun e=>hc56 (by rw [e]);exact ret_tmp (t:=4) h57 rfl rfl ⟨by rw [bdec_false R],hW26.bel⟩
theorem sameModule_any {n : Nat} {m k : List (MFunc n)} {p p2 : Option Addr} {c d : Nat} {w : World} (hm0 : (modL n).In w All m [.slice p m.length c]) (hk0 : (modL n).In w All k [.slice p2 k.length d]) (hs0 : msmall m) :
    Rd Tryz.prog 11 #[.agg #[.slice p m.length c],.agg #[.slice p2 k.length d]] w (.bool (bdec (m=k))):=by
  have hm:Hid _:=hm0;have hk:Hid _:=hk0;have hs:Hid _:=hs0;have hcl:=hs0.1;clear hm0 hk0 hs0;refine fr_enter (n:=82) Tryz.func11 rfl rfl rfl ?_;intro a hF;have hW:=Wd.start w;replace hF:Fr 82 a [(0,.agg #[.slice p m.length c]),(1,.agg #[.slice p2 k.length d])]:=hF;refine wp_seq_k fun K1 hK1=>?_;refine rg hF fun ops=>?_;clear hF a;refine sB hW trivial rfl rfl ?_;clear hW;intro w2 B2 hW2 hN;clear hN;refine sB hW2 trivial rfl rfl ?_;clear hW2;intro w3 B3 hW3 hN;clear hN;refine sa trivial rfl rfl ?_;refine St.nil fun a4 h4=>?_;refine hK1 _ _ ?_;refine wp_seq_k fun K5 hK5=>?_;refine wp_seq_k fun K6 hK6=>?_;refine rg h4 fun ops=>?_;clear h4 a4;refine sfModule0 trivial rfl rfl ?_;refine sbFuncs 1 hW3 trivial rfl rfl rfl rfl ?_;refine slFuncs trivial rfl rfl ?_;refine sfModule0 trivial rfl rfl ?_;refine sbFuncs 0 hW3 trivial rfl rfl rfl rfl ?_;refine slFuncs trivial rfl rfl ?_;refine sne trivial rfl rfl rfl ?_;refine St.nil fun a7 h7=>?_;refine hK6 _ _ ?_;refine fr_cond (t:=15) h7 rfl (fun hb=>?_) (fun hb=>?_)
  ·have h9:¬ m.length=k.length:=by have h8:=bne_iff_ne.1 hb;omega
   have hlen:¬ m.length=k.length:=h9;clear h9;clear hb;refine wp_seq_k fun K8 hK8=>?_;refine rg h7 fun ops=>?_;clear h7 a7;refine sa trivial rfl rfl ?_;refine St.nil fun a9 h9=>?_;refine hK8 _ _ ?_;refine wp_ret ?_;with_reducible repeat first | refine of_then_ret ?_ | refine of_block_ret ?_
   have R:¬ m=k:=fun e=>hlen (by rw [e]);exact ret_tmp (t:=4) h9 rfl rfl ⟨by rw [bdec_false R],hW3.bel⟩
  have h9:m.length=k.length:=by have h8:=bne_eq_false_iff_eq.1 hb;omega
  have hlen:Hid (m.length=k.length):=h9;clear h9;clear hb;refine wp_skip ?_;refine hK5 _ _ ?_;refine wp_seq_k fun K10 hK10=>?_;refine wp_seq_k fun K11 hK11=>?_;refine rg h7 fun ops=>?_;clear h7 a7;refine sa trivial rfl rfl ?_;refine St.nil fun a12 h12=>?_;refine hK11 _ _ ?_;refine wp_block ?_;refine fr_loop (fun r a w'=>∃ q:Nat,q≤m.length∧r=m.length - q∧(∀ j,j<q→m[j]?=k[j]?)∧Fr 82 a [(1,.agg #[.slice p2 k.length d]),(0,.agg #[.slice p m.length c]),(2,.pointer (some ⟨B2,0,none⟩)),(3,.pointer (some ⟨B3,0,none⟩)),(4,.bool false),(5,.int .i64 (q:Int))]∧Wd w w' [(B3,#[.slice p2 k.length d],25),(B2,#[.slice p m.length c],25)]) (m.length) ⟨0,Nat.zero_le _,rfl,(fun j hj=>by omega),(h12.keep (h12.keep (h12.keep (h12.keep (h12.keep (h12.keep h12.nil (t:=5) rfl) (t:=4) rfl) (t:=3) rfl) (t:=2) rfl) (t:=0) rfl) (t:=1) rfl),hW3⟩ ?_;clear h12 hW3;rintro r a13 w13 ⟨q,hq,hr,hall,hF13,hW13⟩ KL hKL;refine wp_seq_k fun K14 hK14=>?_;refine wp_seq_k fun K15 hK15=>?_;refine rg hF13 fun ops=>?_;clear hF13 a13;refine sm trivial rfl rfl ?_;refine sfModule0 trivial rfl rfl ?_;refine sbFuncs 1 hW13 trivial rfl rfl rfl rfl ?_;refine slFuncs trivial rfl rfl ?_;refine slt trivial rfl rfl rfl ?_;refine St.nil fun a16 h16=>?_;refine hK15 _ _ ?_;refine fr_cond (t:=20) h16 rfl (fun hb=>?_) (fun hb=>?_)
  ·have hlt1:q<m.length:=by have:=of_decide_eq_true hb;omega
   have hlt2:q<k.length:=by have:=hlen.out;omega
   clear hb;obtain ⟨x,hx1⟩:∃ v9,(m)[q]?=some v9:=⟨_,List.getElem?_eq_getElem hlt1⟩;obtain ⟨g1,o1,f1,hp1,E1,In1⟩:=func_at hm.out hx1;replace In1:Hid _:=In1;replace hp1:Hid _:=hp1;replace hx1:Hid _:=hx1;replace E1:Hid _:=E1;obtain ⟨y,hx2⟩:∃ v9,(k)[q]?=some v9:=⟨_,List.getElem?_eq_getElem hlt2⟩;obtain ⟨g2,o2,f2,hp2,E2,In2⟩:=func_at hk.out hx2;replace In2:Hid _:=In2;replace hp2:Hid _:=hp2;replace hx2:Hid _:=hx2;replace E2:Hid _:=E2;have hs1:Hid _:=hs.out.2 x (List.mem_of_getElem? hx1.out);have hbl:=hs1.out.1;refine wp_skip ?_;refine hK14 _ _ ?_;refine wp_seq_k fun K17 hK17=>?_;refine wp_block ?_;refine wp_seq_k fun K18 hK18=>?_;have hF19:Fr 82 a16 [(1,.agg #[.slice p2 k.length d]),(0,.agg #[.slice p m.length c]),(2,.pointer (some ⟨B2,0,none⟩)),(3,.pointer (some ⟨B3,0,none⟩)),(4,.bool false),(5,.int .i64 (q:Int))]:=(h16.keep (h16.keep (h16.keep (h16.keep (h16.keep (h16.keep h16.nil (t:=5) rfl) (t:=4) rfl) (t:=3) rfl) (t:=2) rfl) (t:=0) rfl) (t:=1) rfl);have ho2:a16.tmps.getD 2 undef=.pointer (some ⟨B2,0,none⟩):=h16.sl 2 _ rfl;have ho5:a16.tmps.getD 5 undef=.int .i64 (q:Int):=h16.sl 5 _ rfl;have ho3:a16.tmps.getD 3 undef=.pointer (some ⟨B3,0,none⟩):=h16.sl 3 _ rfl;refine fr_draw3 [(0,23),(1,24),(2,25),(3,26),(4,27),(5,28),(6,29),(7,30),(8,31),(9,32)] [(10,6,4,42),(11,7,4,42)] [(12,6,4,42),(13,7,4,42)] [(23,.pointer (some ⟨B2,0,none⟩)),(24,.slice p m.length c),(25,.int .i64 (q:Int)),(26,.pointer (some ⟨g1,o1+q*4,none⟩)),(27,.agg #[.int .i64 x.regs,.slice f1.pP x.params.length f1.cP,.slice f1.pR x.results.length f1.cR,.slice f1.pB x.blocks.length f1.cB]),(28,.pointer (some ⟨B3,0,none⟩)),(29,.slice p2 k.length d),(30,.int .i64 (q:Int)),(31,.pointer (some ⟨g2,o2+q*4,none⟩)),(32,.agg #[.int .i64 y.regs,.slice f2.pP y.params.length f2.cP,.slice f2.pR y.results.length f2.cR,.slice f2.pB y.blocks.length f2.cB])] [(6,[.int .i64 x.regs,.slice f1.pP x.params.length f1.cP,.slice f1.pR x.results.length f1.cR,.slice f1.pB x.blocks.length f1.cB]),(7,[.int .i64 y.regs,.slice f2.pP y.params.length f2.cP,.slice f2.pR y.results.length f2.cR,.slice f2.pB y.blocks.length f2.cB])] (by kernel_rfl) hF19 (by kernel_rfl) (by kernel_rfl) (fun hDB=>?hst) ?hend
   case hst =>
    refine ⟨fun S a1 w1 hS hd hcl hI K hK=>?_,?_⟩
    · have hWd:=hW13.below hI.bel;have k0:a1.tmps.getD 2 undef=.pointer (some ⟨B2,0,none⟩):=(hI.outer 2 (by kernel_rfl)).trans ho2;go_simp;exact hK _ _ (DI.pure hDB hI (i:=0) (t:=23) (by decide) rfl hS (Below.refl _ _) (by kernel_rfl) (by kernel_rfl))
    refine ⟨fun S a1 w1 hS hd hcl hI K hK=>?_,?_⟩
    · have hWd:=hW13.below hI.bel;have k0:a1.tmps.getD 23 undef=.pointer (some ⟨B2,0,none⟩):=hI.vals (0,23) (by decide) (hd.at 0 (by kernel_rfl)) _ rfl;have c0:w1.cell? ⟨B2,0,none⟩=some (.slice p m.length c):=cellOf (hWd.get 1 rfl) 0 _ rfl;go_simp;exact hK _ _ (DI.pure hDB hI (i:=1) (t:=24) (by decide) rfl hS (Below.refl _ _) (by kernel_rfl) (by kernel_rfl))
    refine ⟨fun S a1 w1 hS hd hcl hI K hK=>?_,?_⟩
    · have hWd:=hW13.below hI.bel;have k0:a1.tmps.getD 5 undef=.int .i64 (q:Int):=(hI.outer 5 (by kernel_rfl)).trans ho5;go_simp;exact hK _ _ (DI.pure hDB hI (i:=2) (t:=25) (by decide) rfl hS (Below.refl _ _) (by kernel_rfl) (by kernel_rfl))
    refine ⟨fun S a1 w1 hS hd hcl hI K hK=>?_,?_⟩
    · have hWd:=hW13.below hI.bel;have k0:a1.tmps.getD 24 undef=.slice p m.length c:=hI.vals (1,24) (by decide) (hd.at 1 (by kernel_rfl)) _ rfl;have k1:a1.tmps.getD 25 undef=.int .i64 (q:Int):=hI.vals (2,25) (by decide) (hd.at 2 (by kernel_rfl)) _ rfl;have hpq:=hp1.out;have hk0:(0:Int)≤q:=by omega
      have hk1:(q:Int)<(m.length:Int):=by omega
      go_simp;exact hK _ _ (DI.pure hDB hI (i:=3) (t:=26) (by decide) rfl hS (Below.refl _ _) (by kernel_rfl) (by kernel_rfl))
    refine ⟨fun S a1 w1 hS hd hcl hI K hK=>?_,?_⟩
    · have hWd:=hW13.below hI.bel;have k0:a1.tmps.getD 26 undef=.pointer (some ⟨g1,o1+q*4,none⟩):=hI.vals (3,26) (by decide) (hd.at 3 (by kernel_rfl)) _ rfl;have d0:w1.cell? ⟨g1,o1+q*4,none⟩=some (.int .i64 x.regs):=bel_cell hWd.bel (E1.out 0 _ rfl);have d1:w1.cell? ⟨g1,o1+q*4+1,none⟩=some (.slice f1.pP x.params.length f1.cP):=bel_cell hWd.bel (E1.out 1 _ rfl);have d2:w1.cell? ⟨g1,o1+q*4+2,none⟩=some (.slice f1.pR x.results.length f1.cR):=bel_cell hWd.bel (E1.out 2 _ rfl);have d3:w1.cell? ⟨g1,o1+q*4+3,none⟩=some (.slice f1.pB x.blocks.length f1.cB):=bel_cell hWd.bel (E1.out 3 _ rfl);go_simp;exact hK _ _ (DI.pure hDB hI (i:=4) (t:=27) (by decide) rfl hS (Below.refl _ _) (by kernel_rfl) (by kernel_rfl))
    refine ⟨fun S a1 w1 hS hd hcl hI K hK=>?_,?_⟩
    · have hWd:=hW13.below hI.bel;have k0:a1.tmps.getD 3 undef=.pointer (some ⟨B3,0,none⟩):=(hI.outer 3 (by kernel_rfl)).trans ho3;go_simp;exact hK _ _ (DI.pure hDB hI (i:=5) (t:=28) (by decide) rfl hS (Below.refl _ _) (by kernel_rfl) (by kernel_rfl))
    refine ⟨fun S a1 w1 hS hd hcl hI K hK=>?_,?_⟩
    · have hWd:=hW13.below hI.bel;have k0:a1.tmps.getD 28 undef=.pointer (some ⟨B3,0,none⟩):=hI.vals (5,28) (by decide) (hd.at 5 (by kernel_rfl)) _ rfl;have c0:w1.cell? ⟨B3,0,none⟩=some (.slice p2 k.length d):=cellOf (hWd.get 0 rfl) 0 _ rfl;go_simp;exact hK _ _ (DI.pure hDB hI (i:=6) (t:=29) (by decide) rfl hS (Below.refl _ _) (by kernel_rfl) (by kernel_rfl))
    refine ⟨fun S a1 w1 hS hd hcl hI K hK=>?_,?_⟩
    · have hWd:=hW13.below hI.bel;have k0:a1.tmps.getD 5 undef=.int .i64 (q:Int):=(hI.outer 5 (by kernel_rfl)).trans ho5;go_simp;exact hK _ _ (DI.pure hDB hI (i:=7) (t:=30) (by decide) rfl hS (Below.refl _ _) (by kernel_rfl) (by kernel_rfl))
    refine ⟨fun S a1 w1 hS hd hcl hI K hK=>?_,?_⟩
    · have hWd:=hW13.below hI.bel;have k0:a1.tmps.getD 29 undef=.slice p2 k.length d:=hI.vals (6,29) (by decide) (hd.at 6 (by kernel_rfl)) _ rfl;have k1:a1.tmps.getD 30 undef=.int .i64 (q:Int):=hI.vals (7,30) (by decide) (hd.at 7 (by kernel_rfl)) _ rfl;have hpq:=hp2.out;have hk0:(0:Int)≤q:=by omega
      have hk1:(q:Int)<(k.length:Int):=by omega
      go_simp;exact hK _ _ (DI.pure hDB hI (i:=8) (t:=31) (by decide) rfl hS (Below.refl _ _) (by kernel_rfl) (by kernel_rfl))
    refine ⟨fun S a1 w1 hS hd hcl hI K hK=>?_,?_⟩
    · have hWd:=hW13.below hI.bel;have k0:a1.tmps.getD 31 undef=.pointer (some ⟨g2,o2+q*4,none⟩):=hI.vals (8,31) (by decide) (hd.at 8 (by kernel_rfl)) _ rfl;have d0:w1.cell? ⟨g2,o2+q*4,none⟩=some (.int .i64 y.regs):=bel_cell hWd.bel (E2.out 0 _ rfl);have d1:w1.cell? ⟨g2,o2+q*4+1,none⟩=some (.slice f2.pP y.params.length f2.cP):=bel_cell hWd.bel (E2.out 1 _ rfl);have d2:w1.cell? ⟨g2,o2+q*4+2,none⟩=some (.slice f2.pR y.results.length f2.cR):=bel_cell hWd.bel (E2.out 2 _ rfl);have d3:w1.cell? ⟨g2,o2+q*4+3,none⟩=some (.slice f2.pB y.blocks.length f2.cB):=bel_cell hWd.bel (E2.out 3 _ rfl);go_simp;exact hK _ _ (DI.pure hDB hI (i:=9) (t:=32) (by decide) rfl hS (Below.refl _ _) (by kernel_rfl) (by kernel_rfl))
    refine ⟨fun S a1 w1 hS hd hcl hI K hK=>?_,?_⟩
    · go_simp;exact hK _ _ (DI.alloc hDB hI (i:=10) (t:=6) (s:=4) (ty:=42) (by decide) rfl hS hcl (by kernel_rfl) (by kernel_rfl))
    refine ⟨fun S a1 w1 hS hd hcl hI K hK=>?_,?_⟩
    · go_simp;exact hK _ _ (DI.alloc hDB hI (i:=11) (t:=7) (s:=4) (ty:=42) (by decide) rfl hS hcl (by kernel_rfl) (by kernel_rfl))
    refine ⟨fun S a1 w1 hS hd hcl hI K hK=>?_,?_⟩
    · have k0:a1.tmps.getD 27 undef=.agg #[.int .i64 x.regs,.slice f1.pP x.params.length f1.cP,.slice f1.pR x.results.length f1.cR,.slice f1.pB x.blocks.length f1.cB]:=hI.vals (4,27) (by decide) (hd.at 4 (by kernel_rfl)) _ rfl;obtain ⟨B,kB,hlo,c0,hBk,hcs⟩:=hI.box (i:=10) (t:=6) (s:=4) (ty:=42) (by decide) (hd.at 10 (by kernel_rfl));exact wp_fill hBk kB k0 infFunc rfl hcs.symm (hK _ _ (DI.store hDB hI (i:=12) (t:=6) (s:=4) (ty:=42) (j:=10) (by decide) (by decide) (hd.at 10 (by kernel_rfl)) kB hBk hcs hlo rfl rfl hS hcl (by kernel_rfl) (by kernel_rfl)))
    refine ⟨fun S a1 w1 hS hd hcl hI K hK=>?_,?_⟩
    · have k0:a1.tmps.getD 32 undef=.agg #[.int .i64 y.regs,.slice f2.pP y.params.length f2.cP,.slice f2.pR y.results.length f2.cR,.slice f2.pB y.blocks.length f2.cB]:=hI.vals (9,32) (by decide) (hd.at 9 (by kernel_rfl)) _ rfl;obtain ⟨B,kB,hlo,c0,hBk,hcs⟩:=hI.box (i:=11) (t:=7) (s:=4) (ty:=42) (by decide) (hd.at 11 (by kernel_rfl));exact wp_fill hBk kB k0 infFunc rfl hcs.symm (hK _ _ (DI.store hDB hI (i:=13) (t:=7) (s:=4) (ty:=42) (j:=11) (by decide) (by decide) (hd.at 11 (by kernel_rfl)) kB hBk hcs hlo rfl rfl hS hcl (by kernel_rfl) (by kernel_rfl)))
    trivial
   case hend =>
    intro S a20 w20 hS hD hFD;obtain ⟨BD6,hd6,hBl6,hBk6⟩:=hD.full (j:=10) (i:=12) (t:=6) (s:=4) (ty:=42) (by decide) (hS _ (by decide)) (by decide) (hS _ (by decide)) rfl;obtain ⟨BD7,hd7,hBl7,hBk7⟩:=hD.full (j:=11) (i:=13) (t:=7) (s:=4) (ty:=42) (by decide) (hS _ (by decide)) (by decide) (hS _ (by decide)) rfl;have hF20:Fr 82 a20 [(7,.pointer (some ⟨BD7,0,none⟩)),(6,.pointer (some ⟨BD6,0,none⟩)),(1,.agg #[.slice p2 k.length d]),(0,.agg #[.slice p m.length c]),(2,.pointer (some ⟨B2,0,none⟩)),(3,.pointer (some ⟨B3,0,none⟩)),(4,.bool false),(5,.int .i64 (q:Int))]:=((hFD.cons hd6).cons hd7);have hnB:BD6≠BD7:=fun e=>hD.ne (10,6,4,42) (by decide) (11,7,4,42) (by decide) (by decide) (hS _ (by decide)) (hS _ (by decide)) (by rw [hd6,hd7,e]);have hW20:Wd w w20 [(BD6,#[.int .i64 x.regs,.slice f1.pP x.params.length f1.cP,.slice f1.pR x.results.length f1.cR,.slice f1.pB x.blocks.length f1.cB],42),(BD7,#[.int .i64 y.regs,.slice f2.pP y.params.length f2.cP,.slice f2.pR y.results.length f2.cR,.slice f2.pB y.blocks.length f2.cB],42),(B3,#[.slice p2 k.length d],25),(B2,#[.slice p m.length c],25)]:=Wd.add2 (hW13.below hD.bel) hW13 hBk6 hBk7 hnB hBl6 hBl7;clear hS hD hFD hnB hW13 hd6 hd7;clear hBl6 hBk6 hBl7 hBk7;refine hK18 _ _ ?_;refine wp_seq_k fun K21 hK21=>?_;refine wp_seq_k fun K22 hK22=>?_;refine fr_region ?_;intro ops hops;have hg5:(ops[5]?).bind (fun o:Oper=>o.dst)=some 38:=hops 5;have hg13:(ops[13]?).bind (fun o:Oper=>o.dst)=some 46:=hops 13;have hg21:(ops[21]?).bind (fun o:Oper=>o.dst)=some 54:=hops 21;clear hops;refine St.go hF20 ?_;clear hF20 a20;refine sfFunc0 trivial rfl rfl ?_;refine sbInt 0 hW20 trivial rfl rfl rfl rfl ?_;refine sfFunc0 trivial rfl rfl ?_;refine sbInt 1 hW20 trivial rfl rfl rfl rfl ?_;refine sne trivial rfl rfl rfl ?_;refine sm trivial rfl rfl ?_;intro a23 h23;rcases Bool.eq_false_or_eq_true (x.regs != y.regs) with hb | hb
    ·rw [hb] at h23
     have h9:¬ x.regs=y.regs:=bne_iff_ne.1 hb;have hc24:¬ x.regs=y.regs:=h9;clear h9;clear hb;refine St.go h23 ?_;clear h23 a23;refine so hg5 rfl rfl rfl rfl ?_;refine so hg5 rfl rfl rfl rfl ?_;refine so hg5 rfl rfl rfl rfl ?_;refine so hg5 rfl rfl rfl rfl ?_;refine so hg5 rfl rfl rfl rfl ?_;refine so hg5 rfl rfl rfl rfl ?_;refine sp trivial rfl rfl rfl ?_;refine sm trivial rfl rfl ?_;refine so hg13 rfl rfl rfl rfl ?_;refine so hg13 rfl rfl rfl rfl ?_;refine so hg13 rfl rfl rfl rfl ?_;refine so hg13 rfl rfl rfl rfl ?_;refine so hg13 rfl rfl rfl rfl ?_;refine so hg13 rfl rfl rfl rfl ?_;refine sp trivial rfl rfl rfl ?_;refine sm trivial rfl rfl ?_;refine so hg21 rfl rfl rfl rfl ?_;refine so hg21 rfl rfl rfl rfl ?_;refine so hg21 rfl rfl rfl rfl ?_;refine so hg21 rfl rfl rfl rfl ?_;refine so hg21 rfl rfl rfl rfl ?_;refine so hg21 rfl rfl rfl rfl ?_;refine so hg21 rfl rfl rfl rfl ?_;refine sp trivial rfl rfl rfl ?_;refine St.nil fun a25 h25=>?_;refine hK22 _ _ ?_;refine fr_true (t:=62) h25 rfl ?_;refine wp_seq_k fun K26 hK26=>?_;refine rg h25 fun ops=>?_;clear h25 a25;refine sa trivial rfl rfl ?_;refine St.nil fun a27 h27=>?_;refine hK26 _ _ ?_;refine wp_ret ?_;with_reducible repeat first | refine of_then_ret ?_ | refine of_block_ret ?_
     have RX:¬ x=y:=by
       intro e
       first
         | exact hlb (by rw [e])
         | exact hc24 (by rw [e])
     have R:¬ m=k:=by
       intro e;have h1:=hx1.out;rw [e,hx2.out] at h1;exact RX (Option.some.inj h1).symm
     exact ret_tmp (t:=4) h27 rfl rfl ⟨by rw [bdec_false R],hW20.bel⟩
    rw [hb] at h23;have h9:x.regs=y.regs:=bne_eq_false_iff_eq.1 hb;have hc28:Hid (x.regs=y.regs):=h9;clear h9;clear hb;refine St.go h23 ?_;clear h23 a23;refine sfFunc1 ⟨_,hg5,rfl,rfl⟩ rfl rfl ?_;refine sbTypes 0 hW20 ⟨_,hg5,rfl,rfl⟩ rfl rfl rfl rfl ?_;refine sfFunc1 ⟨_,hg5,rfl,rfl⟩ rfl rfl ?_;refine sbTypes 1 hW20 ⟨_,hg5,rfl,rfl⟩ rfl rfl rfl rfl ?_;refine sc_2 cf33 hW20 (sameTypes_any (Lay.below In1.out.params hW20.bel) (Lay.below In2.out.params hW20.bel) hs1.out.2.1) ⟨_,hg5,rfl,rfl⟩ rfl rfl rfl ?_;clear hW20;intro w29 hW29;refine sn ⟨_,hg5,rfl,rfl⟩ rfl rfl ?_;refine spf trivial rfl rfl rfl ?_;refine sm trivial rfl rfl ?_;intro a30 h30;rcases Bool.eq_false_or_eq_true (!(bdec (x.params=y.params))) with hb | hb
    ·rw [hb] at h30
     have hb:(bdec (x.params=y.params))=false:=by simpa using hb
     have hc31:¬ (x.params=y.params):=fun h=>by rw [bdec_true h] at hb;cases hb
     clear hb;refine St.go h30 ?_;clear h30 a30;refine so hg13 rfl rfl rfl rfl ?_;refine so hg13 rfl rfl rfl rfl ?_;refine so hg13 rfl rfl rfl rfl ?_;refine so hg13 rfl rfl rfl rfl ?_;refine so hg13 rfl rfl rfl rfl ?_;refine so hg13 rfl rfl rfl rfl ?_;refine sp trivial rfl rfl rfl ?_;refine sm trivial rfl rfl ?_;refine so hg21 rfl rfl rfl rfl ?_;refine so hg21 rfl rfl rfl rfl ?_;refine so hg21 rfl rfl rfl rfl ?_;refine so hg21 rfl rfl rfl rfl ?_;refine so hg21 rfl rfl rfl rfl ?_;refine so hg21 rfl rfl rfl rfl ?_;refine so hg21 rfl rfl rfl rfl ?_;refine sp trivial rfl rfl rfl ?_;refine St.nil fun a32 h32=>?_;refine hK22 _ _ ?_;refine fr_true (t:=62) h32 rfl ?_;refine wp_seq_k fun K33 hK33=>?_;refine rg h32 fun ops=>?_;clear h32 a32;refine sa trivial rfl rfl ?_;refine St.nil fun a34 h34=>?_;refine hK33 _ _ ?_;refine wp_ret ?_;with_reducible repeat first | refine of_then_ret ?_ | refine of_block_ret ?_
     have RX:¬ x=y:=by
       intro e
       first
         | exact hlb (by rw [e])
         | exact hc31 (by rw [e])
         | exact hc28 (by rw [e])
     have R:¬ m=k:=by
       intro e;have h1:=hx1.out;rw [e,hx2.out] at h1;exact RX (Option.some.inj h1).symm
     exact ret_tmp (t:=4) h34 rfl rfl ⟨by rw [bdec_false R],hW29.bel⟩
    rw [hb] at h30;have hb:(bdec (x.params=y.params))=true:=by simpa using hb
    have hc35:(x.params=y.params):=bdec_iff.1 hb;clear hb;refine St.go h30 ?_;clear h30 a30;refine sfFunc2 ⟨_,hg13,rfl,rfl⟩ rfl rfl ?_;refine sbTypes 0 hW29 ⟨_,hg13,rfl,rfl⟩ rfl rfl rfl rfl ?_;refine sfFunc2 ⟨_,hg13,rfl,rfl⟩ rfl rfl ?_;refine sbTypes 1 hW29 ⟨_,hg13,rfl,rfl⟩ rfl rfl rfl rfl ?_;refine sc_2 cf33 hW29 (sameTypes_any (Lay.below In1.out.results hW29.bel) (Lay.below In2.out.results hW29.bel) hs1.out.2.2.1) ⟨_,hg13,rfl,rfl⟩ rfl rfl rfl ?_;clear hW29;intro w36 hW36;refine sn ⟨_,hg13,rfl,rfl⟩ rfl rfl ?_;refine spf trivial rfl rfl rfl ?_;refine sm trivial rfl rfl ?_;intro a37 h37;rcases Bool.eq_false_or_eq_true (!(bdec (x.results=y.results))) with hb | hb
    ·rw [hb] at h37
     have hb:(bdec (x.results=y.results))=false:=by simpa using hb
     have hc38:¬ (x.results=y.results):=fun h=>by rw [bdec_true h] at hb;cases hb
     clear hb;refine St.go h37 ?_;clear h37 a37;refine so hg21 rfl rfl rfl rfl ?_;refine so hg21 rfl rfl rfl rfl ?_;refine so hg21 rfl rfl rfl rfl ?_;refine so hg21 rfl rfl rfl rfl ?_;refine so hg21 rfl rfl rfl rfl ?_;refine so hg21 rfl rfl rfl rfl ?_;refine so hg21 rfl rfl rfl rfl ?_;refine sp trivial rfl rfl rfl ?_;refine St.nil fun a39 h39=>?_;refine hK22 _ _ ?_;refine fr_true (t:=62) h39 rfl ?_;refine wp_seq_k fun K40 hK40=>?_;refine rg h39 fun ops=>?_;clear h39 a39;refine sa trivial rfl rfl ?_;refine St.nil fun a41 h41=>?_;refine hK40 _ _ ?_;refine wp_ret ?_;with_reducible repeat first | refine of_then_ret ?_ | refine of_block_ret ?_
     have RX:¬ x=y:=by
       intro e
       first
         | exact hlb (by rw [e])
         | exact hc38 (by rw [e])
         | exact hc35 (by rw [e])
         | exact hc28 (by rw [e])
     have R:¬ m=k:=by
       intro e;have h1:=hx1.out;rw [e,hx2.out] at h1;exact RX (Option.some.inj h1).symm
     exact ret_tmp (t:=4) h41 rfl rfl ⟨by rw [bdec_false R],hW36.bel⟩
    rw [hb] at h37;have hb:(bdec (x.results=y.results))=true:=by simpa using hb
    have hc42:(x.results=y.results):=bdec_iff.1 hb;clear hb;refine St.go h37 ?_;clear h37 a37;refine sfFunc3 ⟨_,hg21,rfl,rfl⟩ rfl rfl ?_;refine sbBlocks 0 hW36 ⟨_,hg21,rfl,rfl⟩ rfl rfl rfl rfl ?_;refine slBlocks ⟨_,hg21,rfl,rfl⟩ rfl rfl ?_;refine sfFunc3 ⟨_,hg21,rfl,rfl⟩ rfl rfl ?_;refine sbBlocks 1 hW36 ⟨_,hg21,rfl,rfl⟩ rfl rfl rfl rfl ?_;refine slBlocks ⟨_,hg21,rfl,rfl⟩ rfl rfl ?_;refine sne ⟨_,hg21,rfl,rfl⟩ rfl rfl rfl ?_;refine spf trivial rfl rfl rfl ?_;refine St.nil fun a43 h43=>?_;refine hK22 _ _ ?_;refine fr_cond (t:=62) h43 rfl (fun hb=>?_) (fun hb=>?_)
    ·have h9:¬ x.blocks.length=y.blocks.length:=by have h8:=bne_iff_ne.1 hb;omega
     have hlb:¬ x.blocks.length=y.blocks.length:=h9;clear h9;clear hb;refine wp_seq_k fun K44 hK44=>?_;refine rg h43 fun ops=>?_;clear h43 a43;refine sa trivial rfl rfl ?_;refine St.nil fun a45 h45=>?_;refine hK44 _ _ ?_;refine wp_ret ?_;with_reducible repeat first | refine of_then_ret ?_ | refine of_block_ret ?_
     have RX:¬ x=y:=by
       intro e
       first
         | exact hlb (by rw [e])
         | exact hc42 (by rw [e])
         | exact hc35 (by rw [e])
         | exact hc28 (by rw [e])
     have R:¬ m=k:=by
       intro e;have h1:=hx1.out;rw [e,hx2.out] at h1;exact RX (Option.some.inj h1).symm
     exact ret_tmp (t:=4) h45 rfl rfl ⟨by rw [bdec_false R],hW36.bel⟩
    have h9:x.blocks.length=y.blocks.length:=by have h8:=bne_eq_false_iff_eq.1 hb;omega
    have hlb:Hid (x.blocks.length=y.blocks.length):=h9;clear h9;clear hb;refine wp_skip ?_;refine hK21 _ _ ?_;refine wp_seq_k fun K46 hK46=>?_;refine rg h43 fun ops=>?_;clear h43 a43;refine sa trivial rfl rfl ?_;refine St.nil fun a47 h47=>?_;refine hK46 _ _ ?_;refine wp_block ?_;refine fr_loop (fun r a w'=>∃ qb:Nat,qb≤x.blocks.length∧r=x.blocks.length - qb∧(∀ j,j<qb→x.blocks[j]?=y.blocks[j]?)∧Fr 82 a [(1,.agg #[.slice p2 k.length d]),(0,.agg #[.slice p m.length c]),(2,.pointer (some ⟨B2,0,none⟩)),(3,.pointer (some ⟨B3,0,none⟩)),(4,.bool false),(5,.int .i64 (q:Int)),(6,.pointer (some ⟨BD6,0,none⟩)),(7,.pointer (some ⟨BD7,0,none⟩)),(8,.int .i64 (qb:Int))]∧Wd w w' [(BD6,#[.int .i64 x.regs,.slice f1.pP x.params.length f1.cP,.slice f1.pR x.results.length f1.cR,.slice f1.pB x.blocks.length f1.cB],42),(BD7,#[.int .i64 y.regs,.slice f2.pP y.params.length f2.cP,.slice f2.pR y.results.length f2.cR,.slice f2.pB y.blocks.length f2.cB],42),(B3,#[.slice p2 k.length d],25),(B2,#[.slice p m.length c],25)]) (x.blocks.length) ⟨0,Nat.zero_le _,rfl,(fun j hj=>by omega),(h47.keep (h47.keep (h47.keep (h47.keep (h47.keep (h47.keep (h47.keep (h47.keep (h47.keep h47.nil (t:=8) rfl) (t:=7) rfl) (t:=6) rfl) (t:=5) rfl) (t:=4) rfl) (t:=3) rfl) (t:=2) rfl) (t:=0) rfl) (t:=1) rfl),hW36⟩ ?_;clear h47 hW36;rintro rb a48 w48 ⟨qb,hqb,hrb,hal2,hF48,hW48⟩ KLb hKLb;refine wp_seq_k fun K49 hK49=>?_;refine wp_seq_k fun K50 hK50=>?_;refine rg hF48 fun ops=>?_;clear hF48 a48;refine sm trivial rfl rfl ?_;refine sfFunc3 trivial rfl rfl ?_;refine sbBlocks 0 hW48 trivial rfl rfl rfl rfl ?_;refine slBlocks trivial rfl rfl ?_;refine slt trivial rfl rfl rfl ?_;refine St.nil fun a51 h51=>?_;refine hK50 _ _ ?_;refine fr_cond (t:=67) h51 rfl (fun hb=>?_) (fun hb=>?_)
    ·have hlt3:qb<x.blocks.length:=by have:=of_decide_eq_true hb;omega
     have hlt4:qb<y.blocks.length:=by have:=hlb.out;omega
     clear hb;obtain ⟨z,hx3⟩:∃ v9,(x.blocks)[qb]?=some v9:=⟨_,List.getElem?_eq_getElem hlt3⟩;obtain ⟨g3,o3,b3,hp3,E3,In3⟩:=block_at In1.out.blocks hx3;replace In3:Hid _:=In3;replace hp3:Hid _:=hp3;replace hx3:Hid _:=hx3;replace E3:Hid _:=E3;obtain ⟨u,hx4⟩:∃ v9,(y.blocks)[qb]?=some v9:=⟨_,List.getElem?_eq_getElem hlt4⟩;obtain ⟨g4,o4,b4,hp4,E4,In4⟩:=block_at In2.out.blocks hx4;replace In4:Hid _:=In4;replace hp4:Hid _:=hp4;replace hx4:Hid _:=hx4;replace E4:Hid _:=E4;refine wp_skip ?_;refine hK49 _ _ ?_;refine wp_seq_k fun K52 hK52=>?_;refine wp_block ?_;refine wp_seq_k fun K53 hK53=>?_;have hF54:Fr 82 a51 [(1,.agg #[.slice p2 k.length d]),(0,.agg #[.slice p m.length c]),(2,.pointer (some ⟨B2,0,none⟩)),(3,.pointer (some ⟨B3,0,none⟩)),(4,.bool false),(5,.int .i64 (q:Int)),(6,.pointer (some ⟨BD6,0,none⟩)),(7,.pointer (some ⟨BD7,0,none⟩)),(8,.int .i64 (qb:Int))]:=(h51.keep (h51.keep (h51.keep (h51.keep (h51.keep (h51.keep (h51.keep (h51.keep (h51.keep h51.nil (t:=8) rfl) (t:=7) rfl) (t:=6) rfl) (t:=5) rfl) (t:=4) rfl) (t:=3) rfl) (t:=2) rfl) (t:=0) rfl) (t:=1) rfl);have ho6:a51.tmps.getD 6 undef=.pointer (some ⟨BD6,0,none⟩):=h51.sl 6 _ rfl;have ho8:a51.tmps.getD 8 undef=.int .i64 (qb:Int):=h51.sl 8 _ rfl;have ho7:a51.tmps.getD 7 undef=.pointer (some ⟨BD7,0,none⟩):=h51.sl 7 _ rfl;refine fr_draw_k 12 ([(6,fun v _=>v=.pointer (some ⟨BD6,0,none⟩)),(8,fun v _=>v=.int .i64 (qb:Int)),(7,fun v _=>v=.pointer (some ⟨BD7,0,none⟩)),(70,fun v _=>v=.pointer (some ⟨BD6,3,none⟩)),(71,fun v _=>v=.slice f1.pB x.blocks.length f1.cB),(72,fun v _=>v=.int .i64 (qb:Int)),(73,fun v _=>v=.pointer (some ⟨g3,o3+qb*12,none⟩)),(74,fun v _=>v=.agg #[.int .i64 z.regs,.slice b3.pP z.params.length b3.cP,.slice b3.pC z.code.length b3.cC,.int .i64 z.fin.op,.int .i64 z.fin.a,.int .i64 z.fin.yes.block,.slice b3.e.pYR z.fin.yes.regs.length b3.e.cYR,.slice b3.e.pYA z.fin.yes.args.length b3.e.cYA,.int .i64 z.fin.no.block,.slice b3.e.pNR z.fin.no.regs.length b3.e.cNR,.slice b3.e.pNA z.fin.no.args.length b3.e.cNA,.slice b3.e.pA z.fin.args.length b3.e.cA]),(75,fun v _=>v=.pointer (some ⟨BD7,3,none⟩)),(76,fun v _=>v=.slice f2.pB y.blocks.length f2.cB),(77,fun v _=>v=.int .i64 (qb:Int)),(78,fun v _=>v=.pointer (some ⟨g4,o4+qb*12,none⟩)),(79,fun v _=>v=.agg #[.int .i64 u.regs,.slice b4.pP u.params.length b4.cP,.slice b4.pC u.code.length b4.cC,.int .i64 u.fin.op,.int .i64 u.fin.a,.int .i64 u.fin.yes.block,.slice b4.e.pYR u.fin.yes.regs.length b4.e.cYR,.slice b4.e.pYA u.fin.yes.args.length b4.e.cYA,.int .i64 u.fin.no.block,.slice b4.e.pNR u.fin.no.regs.length b4.e.cNR,.slice b4.e.pNA u.fin.no.args.length b4.e.cNA,.slice b4.e.pA u.fin.args.length b4.e.cA]),(80,fun v _=>v=.bool (bdec (z=u))),(81,fun v _=>v=.bool (!(bdec (z=u))))]:PTab) (fun w'=>Wd w w' [(BD6,#[.int .i64 x.regs,.slice f1.pP x.params.length f1.cP,.slice f1.pR x.results.length f1.cR,.slice f1.pB x.blocks.length f1.cB],42),(BD7,#[.int .i64 y.regs,.slice f2.pP y.params.length f2.cP,.slice f2.pR y.results.length f2.cR,.slice f2.pB y.blocks.length f2.cB],42),(B3,#[.slice p2 k.length d],25),(B2,#[.slice p m.length c],25)]∧Below w48.heap.size w48 w') (fun w w'=>Below w.heap.size w w') (outs:=[6,8,7]) (gs:=[]) (bs:=[true,true,true,true,true,true,true,true,true,true,true,true]) (by kernel_rfl) hF54 rfl (by kernel_rfl) (by kernel_rfl) ?hR ?hG ⟨hW48.drewN 1,drewN_below (m:=1) (Below.refl _ _)⟩ ⟨ho6,ho8,ho7,trivial⟩ ?hA ?hend
     case hR=>exact ⟨fun _ _ _ _ h=>h,fun _ _ _ _ h=>h,fun _ _ _ _ h=>h,fun _ _ _ _ h=>h,fun _ _ _ _ h=>h,fun _ _ _ _ h=>h,fun _ _ _ _ h=>h,fun _ _ _ _ h=>h,fun _ _ _ _ h=>h,fun _ _ _ _ h=>h,fun _ _ _ _ h=>h,fun _ _ _ _ h=>h,fun _ _ _ _ h=>h,fun _ _ _ _ h=>h,fun _ _ _ _ h=>h,trivial⟩
     case hG=>exact trivial
     case hA =>
      refine ⟨fun a w hW hk K hK=>?_,?_⟩
      · obtain ⟨k0,-⟩:=hk;have k0:a.tmps.getD 6 undef=.pointer (some ⟨BD6,0,none⟩):=k0;go_simp;exact hK _ _ (Below.refl _ _) hW rfl
      refine ⟨fun a w hW hk K hK=>?_,?_⟩
      · obtain ⟨k0,-⟩:=hk;have k0:a.tmps.getD 70 undef=.pointer (some ⟨BD6,3,none⟩):=k0;have c3:w.cell? ⟨BD6,3,none⟩=some (.slice f1.pB x.blocks.length f1.cB):=cellOf (hW.1.get 0 rfl) 3 _ rfl;go_simp;exact hK _ _ (Below.refl _ _) hW rfl
      refine ⟨fun a w hW hk K hK=>?_,?_⟩
      · obtain ⟨k0,-⟩:=hk;have k0:a.tmps.getD 8 undef=.int .i64 (qb:Int):=k0;go_simp;exact hK _ _ (Below.refl _ _) hW rfl
      refine ⟨fun a w hW hk K hK=>?_,?_⟩
      · obtain ⟨k0,k1,-⟩:=hk;have k0:a.tmps.getD 71 undef=.slice f1.pB x.blocks.length f1.cB:=k0;have k1:a.tmps.getD 72 undef=.int .i64 (qb:Int):=k1;have hpq:=hp3.out;have hk0:(0:Int)≤qb:=by omega
        have hk1:(qb:Int)<(x.blocks.length:Int):=by omega
        go_simp;exact hK _ _ (Below.refl _ _) hW rfl
      refine ⟨fun a w hW hk K hK=>?_,?_⟩
      · obtain ⟨k0,-⟩:=hk;have k0:a.tmps.getD 73 undef=.pointer (some ⟨g3,o3+qb*12,none⟩):=k0;have d0:w.cell? ⟨g3,o3+qb*12,none⟩=some (.int .i64 z.regs):=bel_cell hW.1.bel (E3.out 0 _ rfl);have d1:w.cell? ⟨g3,o3+qb*12+1,none⟩=some (.slice b3.pP z.params.length b3.cP):=bel_cell hW.1.bel (E3.out 1 _ rfl);have d2:w.cell? ⟨g3,o3+qb*12+2,none⟩=some (.slice b3.pC z.code.length b3.cC):=bel_cell hW.1.bel (E3.out 2 _ rfl);have d3:w.cell? ⟨g3,o3+qb*12+3,none⟩=some (.int .i64 z.fin.op):=bel_cell hW.1.bel (E3.out 3 _ rfl);have d4:w.cell? ⟨g3,o3+qb*12+4,none⟩=some (.int .i64 z.fin.a):=bel_cell hW.1.bel (E3.out 4 _ rfl);have d5:w.cell? ⟨g3,o3+qb*12+5,none⟩=some (.int .i64 z.fin.yes.block):=bel_cell hW.1.bel (E3.out 5 _ rfl);have d6:w.cell? ⟨g3,o3+qb*12+6,none⟩=some (.slice b3.e.pYR z.fin.yes.regs.length b3.e.cYR):=bel_cell hW.1.bel (E3.out 6 _ rfl);have d7:w.cell? ⟨g3,o3+qb*12+7,none⟩=some (.slice b3.e.pYA z.fin.yes.args.length b3.e.cYA):=bel_cell hW.1.bel (E3.out 7 _ rfl);have d8:w.cell? ⟨g3,o3+qb*12+8,none⟩=some (.int .i64 z.fin.no.block):=bel_cell hW.1.bel (E3.out 8 _ rfl);have d9:w.cell? ⟨g3,o3+qb*12+9,none⟩=some (.slice b3.e.pNR z.fin.no.regs.length b3.e.cNR):=bel_cell hW.1.bel (E3.out 9 _ rfl);have d10:w.cell? ⟨g3,o3+qb*12+10,none⟩=some (.slice b3.e.pNA z.fin.no.args.length b3.e.cNA):=bel_cell hW.1.bel (E3.out 10 _ rfl);have d11:w.cell? ⟨g3,o3+qb*12+11,none⟩=some (.slice b3.e.pA z.fin.args.length b3.e.cA):=bel_cell hW.1.bel (E3.out 11 _ rfl);go_simp;exact hK _ _ (Below.refl _ _) hW rfl
      refine ⟨fun a w hW hk K hK=>?_,?_⟩
      · obtain ⟨k0,-⟩:=hk;have k0:a.tmps.getD 7 undef=.pointer (some ⟨BD7,0,none⟩):=k0;go_simp;exact hK _ _ (Below.refl _ _) hW rfl
      refine ⟨fun a w hW hk K hK=>?_,?_⟩
      · obtain ⟨k0,-⟩:=hk;have k0:a.tmps.getD 75 undef=.pointer (some ⟨BD7,3,none⟩):=k0;have c3:w.cell? ⟨BD7,3,none⟩=some (.slice f2.pB y.blocks.length f2.cB):=cellOf (hW.1.get 1 rfl) 3 _ rfl;go_simp;exact hK _ _ (Below.refl _ _) hW rfl
      refine ⟨fun a w hW hk K hK=>?_,?_⟩
      · obtain ⟨k0,-⟩:=hk;have k0:a.tmps.getD 8 undef=.int .i64 (qb:Int):=k0;go_simp;exact hK _ _ (Below.refl _ _) hW rfl
      refine ⟨fun a w hW hk K hK=>?_,?_⟩
      · obtain ⟨k0,k1,-⟩:=hk;have k0:a.tmps.getD 76 undef=.slice f2.pB y.blocks.length f2.cB:=k0;have k1:a.tmps.getD 77 undef=.int .i64 (qb:Int):=k1;have hpq:=hp4.out;have hk0:(0:Int)≤qb:=by omega
        have hk1:(qb:Int)<(y.blocks.length:Int):=by omega
        go_simp;exact hK _ _ (Below.refl _ _) hW rfl
      refine ⟨fun a w hW hk K hK=>?_,?_⟩
      · obtain ⟨k0,-⟩:=hk;have k0:a.tmps.getD 78 undef=.pointer (some ⟨g4,o4+qb*12,none⟩):=k0;have d0:w.cell? ⟨g4,o4+qb*12,none⟩=some (.int .i64 u.regs):=bel_cell hW.1.bel (E4.out 0 _ rfl);have d1:w.cell? ⟨g4,o4+qb*12+1,none⟩=some (.slice b4.pP u.params.length b4.cP):=bel_cell hW.1.bel (E4.out 1 _ rfl);have d2:w.cell? ⟨g4,o4+qb*12+2,none⟩=some (.slice b4.pC u.code.length b4.cC):=bel_cell hW.1.bel (E4.out 2 _ rfl);have d3:w.cell? ⟨g4,o4+qb*12+3,none⟩=some (.int .i64 u.fin.op):=bel_cell hW.1.bel (E4.out 3 _ rfl);have d4:w.cell? ⟨g4,o4+qb*12+4,none⟩=some (.int .i64 u.fin.a):=bel_cell hW.1.bel (E4.out 4 _ rfl);have d5:w.cell? ⟨g4,o4+qb*12+5,none⟩=some (.int .i64 u.fin.yes.block):=bel_cell hW.1.bel (E4.out 5 _ rfl);have d6:w.cell? ⟨g4,o4+qb*12+6,none⟩=some (.slice b4.e.pYR u.fin.yes.regs.length b4.e.cYR):=bel_cell hW.1.bel (E4.out 6 _ rfl);have d7:w.cell? ⟨g4,o4+qb*12+7,none⟩=some (.slice b4.e.pYA u.fin.yes.args.length b4.e.cYA):=bel_cell hW.1.bel (E4.out 7 _ rfl);have d8:w.cell? ⟨g4,o4+qb*12+8,none⟩=some (.int .i64 u.fin.no.block):=bel_cell hW.1.bel (E4.out 8 _ rfl);have d9:w.cell? ⟨g4,o4+qb*12+9,none⟩=some (.slice b4.e.pNR u.fin.no.regs.length b4.e.cNR):=bel_cell hW.1.bel (E4.out 9 _ rfl);have d10:w.cell? ⟨g4,o4+qb*12+10,none⟩=some (.slice b4.e.pNA u.fin.no.args.length b4.e.cNA):=bel_cell hW.1.bel (E4.out 10 _ rfl);have d11:w.cell? ⟨g4,o4+qb*12+11,none⟩=some (.slice b4.e.pA u.fin.args.length b4.e.cA):=bel_cell hW.1.bel (E4.out 11 _ rfl);go_simp;exact hK _ _ (Below.refl _ _) hW rfl
      refine ⟨fun a w hW hk K hK=>?_,?_⟩
      · obtain ⟨k0,k1,-⟩:=hk;have k0:a.tmps.getD 74 undef=.agg #[.int .i64 z.regs,.slice b3.pP z.params.length b3.cP,.slice b3.pC z.code.length b3.cC,.int .i64 z.fin.op,.int .i64 z.fin.a,.int .i64 z.fin.yes.block,.slice b3.e.pYR z.fin.yes.regs.length b3.e.cYR,.slice b3.e.pYA z.fin.yes.args.length b3.e.cYA,.int .i64 z.fin.no.block,.slice b3.e.pNR z.fin.no.regs.length b3.e.cNR,.slice b3.e.pNA z.fin.no.args.length b3.e.cNA,.slice b3.e.pA z.fin.args.length b3.e.cA]:=k0;have k1:a.tmps.getD 79 undef=.agg #[.int .i64 u.regs,.slice b4.pP u.params.length b4.cP,.slice b4.pC u.code.length b4.cC,.int .i64 u.fin.op,.int .i64 u.fin.a,.int .i64 u.fin.yes.block,.slice b4.e.pYR u.fin.yes.regs.length b4.e.cYR,.slice b4.e.pYA u.fin.yes.args.length b4.e.cYA,.int .i64 u.fin.no.block,.slice b4.e.pNR u.fin.no.regs.length b4.e.cNR,.slice b4.e.pNA u.fin.no.args.length b4.e.cNA,.slice b4.e.pA u.fin.args.length b4.e.cA]:=k1;have hC:Rd Tryz.prog 34 #[.agg #[.int .i64 z.regs,.slice b3.pP z.params.length b3.cP,.slice b3.pC z.code.length b3.cC,.int .i64 z.fin.op,.int .i64 z.fin.a,.int .i64 z.fin.yes.block,.slice b3.e.pYR z.fin.yes.regs.length b3.e.cYR,.slice b3.e.pYA z.fin.yes.args.length b3.e.cYA,.int .i64 z.fin.no.block,.slice b3.e.pNR z.fin.no.regs.length b3.e.cNR,.slice b3.e.pNA z.fin.no.args.length b3.e.cNA,.slice b3.e.pA z.fin.args.length b3.e.cA],.agg #[.int .i64 u.regs,.slice b4.pP u.params.length b4.cP,.slice b4.pC u.code.length b4.cC,.int .i64 u.fin.op,.int .i64 u.fin.a,.int .i64 u.fin.yes.block,.slice b4.e.pYR u.fin.yes.regs.length b4.e.cYR,.slice b4.e.pYA u.fin.yes.args.length b4.e.cYA,.int .i64 u.fin.no.block,.slice b4.e.pNR u.fin.no.regs.length b4.e.cNR,.slice b4.e.pNA u.fin.no.args.length b4.e.cNA,.slice b4.e.pA u.fin.args.length b4.e.cA]] w (.bool (bdec (z=u))):=sameBlock_any (In3.out.below hW.1.bel) (In4.out.below hW.1.bel) (hs1.out.2.2.2 z (List.mem_of_getElem? hx3.out));go_simp;refine hC.mono ?_;rintro e w9 ⟨rfl,hb⟩;exact hK _ _ hb ⟨hW.1.below hb,Below.andThen hW.2 hb⟩ rfl
      refine ⟨fun a w hW hk K hK=>?_,?_⟩
      · obtain ⟨k0,-⟩:=hk;have k0:a.tmps.getD 80 undef=.bool (bdec (z=u)):=k0;go_simp;exact hK _ _ (Below.refl _ _) hW rfl
      trivial
     case hend =>
      intro ops a55 w55 hWD hE hFD;have hd81:a55.tmps.getD 81 undef=.bool (!(bdec (z=u))):=hE 81 rfl;have hF55:Fr 82 a55 [(81,.bool (!(bdec (z=u)))),(1,.agg #[.slice p2 k.length d]),(0,.agg #[.slice p m.length c]),(2,.pointer (some ⟨B2,0,none⟩)),(3,.pointer (some ⟨B3,0,none⟩)),(4,.bool false),(5,.int .i64 (q:Int)),(6,.pointer (some ⟨BD6,0,none⟩)),(7,.pointer (some ⟨BD7,0,none⟩)),(8,.int .i64 (qb:Int))]:=(hFD.cons hd81);clear hd81;have hW55:Wd w w55 [(BD6,#[.int .i64 x.regs,.slice f1.pP x.params.length f1.cP,.slice f1.pR x.results.length f1.cR,.slice f1.pB x.blocks.length f1.cB],42),(BD7,#[.int .i64 y.regs,.slice f2.pP y.params.length f2.cP,.slice f2.pR y.results.length f2.cR,.slice f2.pB y.blocks.length f2.cB],42),(B3,#[.slice p2 k.length d],25),(B2,#[.slice p m.length c],25)]:=hWD.1;clear hFD hWD hE hF54 h51;clear hW48;refine wpList_nil ?_;refine hK53 _ _ ?_;refine fr_cond (t:=81) hF55 rfl (fun hb=>?_) (fun hb=>?_)
      ·have hb:(bdec (z=u))=false:=by simpa using hb
       have hel:¬ (z=u):=fun h=>by rw [bdec_true h] at hb;cases hb
       clear hb;refine wp_seq_k fun K56 hK56=>?_;refine rg hF55 fun ops=>?_;clear hF55 a55;refine sa trivial rfl rfl ?_;refine St.nil fun a57 h57=>?_;refine hK56 _ _ ?_;refine wp_ret ?_;with_reducible repeat first | refine of_then_ret ?_ | refine of_block_ret ?_
       have RX:¬ x=y:=by
         intro e;have h1:=hx3.out;rw [e,hx4.out] at h1;exact hel (Option.some.inj h1).symm
       have R:¬ m=k:=by
         intro e;have h1:=hx1.out;rw [e,hx2.out] at h1;exact RX (Option.some.inj h1).symm
       exact ret_tmp (t:=4) h57 rfl rfl ⟨by rw [bdec_false R],hW55.bel⟩
      have hb:(bdec (z=u))=true:=by simpa using hb
      have hel:(z=u):=bdec_iff.1 hb;clear hb;refine wp_skip ?_;refine hK52 _ _ ?_;refine rg hF55 fun ops=>?_;clear hF55 a55;refine sm trivial rfl rfl ?_;refine sad (by omega) trivial rfl rfl rfl ?_;refine sa trivial rfl rfl ?_;refine St.nil fun a58 h58=>?_;refine hKLb _ _ (x.blocks.length - (qb+1)) (by omega) ⟨qb+1,by omega,rfl,?_,(h58.keep (h58.keep (h58.keep (h58.keep (h58.keep (h58.keep (h58.keep (h58.keep (h58.keep h58.nil (t:=8) rfl) (t:=7) rfl) (t:=6) rfl) (t:=5) rfl) (t:=4) rfl) (t:=3) rfl) (t:=2) rfl) (t:=0) rfl) (t:=1) rfl),hW55⟩
      ·intro j hj
       by_cases e:j=qb
       · subst e;rw [hx3.out,hx4.out,hel]
       · exact hal2 j (by omega)
    have hge2:qb=x.blocks.length:=by have:=of_decide_eq_false hb;omega
    clear hb
    have RB:x.blocks=y.blocks:=by
      have:=hlb.out
      refine List.ext_getElem? fun i=>?_;by_cases hi:i<qb
      · exact hal2 i hi
      · rw [List.getElem?_eq_none (by omega),List.getElem?_eq_none (by omega)]
    have RX:x=y:=MFunc.eq_of hc28.out hc35 hc42 RB;refine wp_exit ?_;refine hK17 _ _ ?_;refine rg h51 fun ops=>?_;clear h51 a51;refine sm trivial rfl rfl ?_;refine sad (by omega) trivial rfl rfl rfl ?_;refine sa trivial rfl rfl ?_;refine St.nil fun a59 h59=>?_;refine hKL _ _ (m.length - (q+1)) (by omega) ⟨q+1,by omega,rfl,?_,(h59.keep (h59.keep (h59.keep (h59.keep (h59.keep (h59.keep h59.nil (t:=5) rfl) (t:=4) rfl) (t:=3) rfl) (t:=2) rfl) (t:=0) rfl) (t:=1) rfl),hW48.tail.tail⟩
    ·intro j hj
     by_cases e:j=q
     · subst e;rw [hx1.out,hx2.out,RX]
     · exact hall j (by omega)
  have hge:q=m.length:=by have:=of_decide_eq_false hb;omega
  clear hb;refine wp_exit ?_;refine hK10 _ _ ?_;refine wp_seq_k fun K60 hK60=>?_;refine rg h16 fun ops=>?_;clear h16 a16;refine sa trivial rfl rfl ?_;refine St.nil fun a61 h61=>?_;refine hK60 _ _ ?_;refine wp_ret ?_;with_reducible repeat first | refine of_then_ret ?_ | refine of_block_ret ?_
  have R:m=k:=by
    have:=hlen.out
    refine List.ext_getElem? fun i=>?_;by_cases hi:i<q
    · exact hall i hi
    · rw [List.getElem?_eq_none (by omega),List.getElem?_eq_none (by omega)]
  exact ret_tmp (t:=4) h61 rfl rfl ⟨by rw [bdec_true R],hW13.bel⟩
end Go.Proofs.YtalfbnllodhkiacGreatDoor
namespace Go.Proofs.YtalfbnllodhkiacGreatDoor
open Go.RowKit
set_option linter.unusedSimpArgs false
set_option linter.unusedVariables false
theorem setCells_size (b : Nat) : ∀ (vs : List Value) (w : World) (j : Nat), (w.setCells b j vs).heap.size = w.heap.size
  | [],w,j=>rfl
  | v::vs,w,j=>(setCells_size b vs _ _).trans (by simp)
abbrev DTab (Z : Type) := List (Nat × (Z → World → (Nat → Prop) → Prop))
def DStable {Z : Type} (D : DTab Z) : Prop := ∀ x ∈ D, ∀ z w w' O, (∀ k, O k → k < w.heap.size → w'.heap[k]? = w.heap[k]?) → x.2 z w O → x.2 z w' O
def Apart (w00 : World) (Ai : List (Nat × Tmp × Nat × TypeId)) (S : Nat → Bool) (a : Act) (w : World) (O : Nat → Prop) : Prop :=
  (∀ k,O k→w00.heap.size≤k∧k<w.heap.size)∧∀ y∈Ai,S y.1=true→∀ B,a.tmps.getD y.2.1 undef=.pointer (some ⟨B,0,none⟩)→¬ O B
def DMz (n : Nat) (a0 : Act) (w00 : World) (ds : List Tmp) (Ti : List (Nat × Tmp)) (Ai Oi : List (Nat × Tmp × Nat × TypeId)) {Z : Type} (M : Z → List (Tmp × Value)) (C : Z → List (Tmp × List Value)) (D : DTab Z) (z : Z) (S : Nat → Bool) (a : Act) (w : World) : Prop :=
  DI n a0 w00 ds Ti Ai Oi (M z) (C z) S a w∧∀ x∈D,S x.1=true→∃ O,x.2 z w O∧Apart w00 Ai S a w O
def DM (n : Nat) (a0 : Act) (w00 : World) (ds : List Tmp) (Ti : List (Nat × Tmp)) (Ai Oi : List (Nat × Tmp × Nat × TypeId)) {Z : Type} (M : Z → List (Tmp × Value)) (C : Z → List (Tmp × List Value)) (D : DTab Z) (S : Nat → Bool) (a : Act) (w : World) : Prop :=
  ∃ z,DMz n a0 w00 ds Ti Ai Oi M C D z S a w
section
variable {n i : Nat} {a0 a : Act} {w00 w w' : World} {l : List Oper} {Ti : List (Nat × Tmp)} {Ai Oi : List (Nat × Tmp × Nat × TypeId)} {Z : Type} {M : Z → List (Tmp × Value)} {C : Z → List (Tmp × List Value)} {D : DTab Z} {z z' : Z} {S : Nat → Bool} {t : Tmp} {v : Value} {s : Nat} {ty : TypeId}
theorem notin (h : ((D.map (·.1)).all fun j => j != i) = true) : ∀ x ∈ D, x.1 ≠ i := fun x hx => by
  have:=List.all_eq_true.1 h x.1 (List.mem_map.2 ⟨x,hx,rfl⟩)
  simpa using this
theorem slots_ne (hB : diB l n Ti Ai Oi = true) (hi : (i, t) ∈ Ti) : ∀ x ∈ Ai, x.2.1 ≠ t := by
  simp only [diB,Bool.and_eq_true] at hB;obtain ⟨hix,⟨⟨hnd,hndO⟩,hall⟩,hO⟩:=hB;exact fun x hx e=>nodupB_mem hnd (List.mem_map.2 ⟨(i,t),hi,rfl⟩) (e ▸ List.mem_map.2 ⟨x,hx,rfl⟩)
theorem slot_lt (hB : diB l n Ti Ai Oi = true) (ht : t ∈ Ti.map (·.2) ++ Ai.map (·.2.1)) : t < n := by
  simp only [diB,Bool.and_eq_true] at hB;have h9:=List.all_eq_true.1 hB.2.1.2 t ht;simp only [Bool.and_eq_true,decide_eq_true_eq] at h9;exact h9.1
theorem Apart.pure {O : Nat → Prop} (hne : ∀ x ∈ Ai, x.2.1 ≠ t) (htn : t < a.tmps.size) (hiA : (Ai.all fun x => x.1 != i) = true) (hb : w.heap.size ≤ w'.heap.size) (h : Apart w00 Ai S a w O) : Apart w00 Ai (plus i S) (a.put (some t) v) w' O :=
  ⟨fun k hk=>⟨(h.1 k hk).1,Nat.lt_of_lt_of_le (h.1 k hk).2 hb⟩,fun y hy hs B hB=>by
    rw [put_at htn,if_neg (hne y hy)] at hB;exact h.2 y hy (plus_of (by have:=List.all_eq_true.1 hiA y hy;simpa using this) hs) B hB⟩
theorem DMz.pure (hst : DStable D) (hB : diB l n Ti Ai Oi = true) (hI : DMz n a0 w00 (dstsOf l) Ti Ai Oi M C D z S a w) (hi : (i, t) ∈ Ti) (hv : (M z).lookup t = some v) (hS : S i = false) (hb : Below w.heap.size w w')
    (hiA:(Ai.all fun x=>x.1 != i)=true) (hiO:(Oi.all fun x=>x.1 != i)=true) (hiD':((D.map (·.1)).all fun j=>j != i)=true):DM n a0 w00 (dstsOf l) Ti Ai Oi M C D (plus i S) (a.put (some t) v) w':=by
  have hiD:=notin hiD';refine ⟨z,DI.pure hB hI.1 hi hv hS hb hiA hiO,fun x hx hs=>?_⟩;obtain ⟨O,h1,h2⟩:=hI.2 x hx (plus_of (hiD x hx) hs);exact ⟨O,hst x hx z w w' O (fun k _ hk=>hb.block k hk) h1,h2.pure (slots_ne hB hi) (by rw [hI.1.size];exact slot_lt hB (List.mem_append_left _ (List.mem_map.2 ⟨(i,t),hi,rfl⟩))) hiA hb.size⟩
theorem DMz.alloc (hst : DStable D) (hB : diB l n Ti Ai Oi = true) (hI : DMz n a0 w00 (dstsOf l) Ti Ai Oi M C D z S a w) (hi : (i, t, s, ty) ∈ Ai) {c : Array Value} (hc : c.size = s) (hS : S i = false) (hcl : Closed l S)
    (hiT:(Ti.all fun x=>x.1 != i)=true) (hiO:(Oi.all fun x=>x.1 != i)=true) (hiD':((D.map (·.1)).all fun j=>j != i)=true):DM n a0 w00 (dstsOf l) Ti Ai Oi M C D (plus i S) (a.put (some t) (.pointer (some ⟨w.heap.size,0,none⟩))) (w.alloc (.cells c ty)):=by
  have hb:Below w.heap.size w (w.alloc (.cells c ty)):=bel1 w _;have hiD:=notin hiD';refine ⟨z,DI.alloc hB hI.1 hi hc hS hcl hiT hiO,fun x hx hs=>?_⟩;obtain ⟨O,h1,h2⟩:=hI.2 x hx (plus_of (hiD x hx) hs);have htn:t<a.tmps.size:=by rw [hI.1.size];exact slot_lt hB (List.mem_append_right _ (List.mem_map.2 ⟨(i,t,s,ty),hi,rfl⟩))
  refine ⟨O,hst x hx z w _ O (fun k _ hk=>hb.block k hk) h1,fun k hk=>⟨(h2.1 k hk).1,Nat.lt_of_lt_of_le (h2.1 k hk).2 hb.size⟩,fun y hy hs' B hB' hO=>?_⟩;rw [put_at htn] at hB';by_cases e:y.2.1=t
  · rw [if_pos e] at hB';simp at hB'
    subst hB'
    have:=(h2.1 _ hO).2
    omega
  · rw [if_neg e] at hB';refine h2.2 y hy (plus_of (fun e'=>e ?_) hs') B hB' hO;simp only [diB,Bool.and_eq_true] at hB;exact congrArg (·.2.1) (nodupB_map (f:=fun x:Nat × Tmp × Nat × TypeId=>x.1) hB.1.1.2 y hy _ hi e')
theorem DMz.store (hst : DStable D) (hB : diB l n Ti Ai Oi = true) (hI : DMz n a0 w00 (dstsOf l) Ti Ai Oi M C D z S a w) (hi : (i, t, s, ty) ∈ Oi) {B j : Nat} {c : Array Value} {cs : List Value} (hj : (j, t, s, ty) ∈ Ai) (hsj : S j = true) (hv : a.tmps.getD t undef = .pointer (some ⟨B, 0, none⟩)) (hBk : Blk w B c ty) (hcs : c.size = s) (hlo : w00.heap.size ≤ B) (hC : (C z).lookup t = some cs) (hln : cs.length = s) (hS : S i = false) (hcl : Closed l S)
    (hiT:(Ti.all fun x=>x.1 != i)=true) (hiA:(Ai.all fun x=>x.1 != i)=true) (hiD':((D.map (·.1)).all fun j=>j != i)=true):DM n a0 w00 (dstsOf l) Ti Ai Oi M C D (plus i S) a (w.setCells B 0 cs):=by
  have hiD:=notin hiD';refine ⟨z,DI.store hB hI.1 hi hj hsj hv hBk hcs hlo hC hln hS hcl hiT hiA,fun x hx hs=>?_⟩;obtain ⟨O,h1,h2⟩:=hI.2 x hx (plus_of (hiD x hx) hs);have hk:=keep1_setCells w B 0 cs;have hsz:(w.setCells B 0 cs).heap.size=w.heap.size:=setCells_size B cs w 0;refine ⟨O,hst x hx z w _ O (fun k hk' _=>hk k fun e=>?_) h1,fun k hk'=>by rw [hsz];exact h2.1 k hk',fun y hy hs' B' hB' hO=>?_⟩
  · subst e;exact h2.2 _ hj hsj k hv hk'
  · exact h2.2 y hy (plus_of (by have:=List.all_eq_true.1 hiA y hy;simpa using this) hs') B' hB' hO
theorem DMz.call (hst : DStable D) (hB : diB l n Ti Ai Oi = true) (hI : DMz n a0 w00 (dstsOf l) Ti Ai Oi M C D z S a w) (hi : (i, t) ∈ Ti) (hv : (M z').lookup t = some v) (hS : S i = false) (hcl : Closed l S) (hb : Below w.heap.size w w')
    (hiA:(Ai.all fun x=>x.1 != i)=true) (hiO:(Oi.all fun x=>x.1 != i)=true)
    (dp:List Nat) (hdp:(dp.all fun j=>match l[j]? with | some o=>waits1 o i | none=>false)=true)
    (hM:∀ x∈Ti,x.1∈dp∨x.1=i∨(M z).lookup x.2=(M z').lookup x.2) (hC:∀ x∈Oi,x.1∈dp∨(C z).lookup x.2.1=(C z').lookup x.2.1)
    (hD:∀ x∈D,(x.1=i∧∃ O,x.2 z' w' O∧∀ k,O k→w.heap.size≤k∧k<w'.heap.size)∨(x.1≠i∧∀ w O,x.2 z w O→x.2 z' w O)):DM n a0 w00 (dstsOf l) Ti Ai Oi M C D (plus i S) (a.put (some t) v) w':=by
  have hno:∀ j∈dp,S j=true→False:=fun j hj hs=>by
    have:=List.all_eq_true.1 hdp j hj
    cases ho:l[j]? with
    | none=>rw [ho] at this;simp at this
    | some o =>
      rw [ho] at this
      have:=Deps.at (hcl j o ho hs) i this
      rw [hS] at this
      cases this
  have hI':DI n a0 w00 (dstsOf l) Ti Ai Oi (M z') (C z') S a w:=by
    refine ⟨hI.1.size,hI.1.defers,hI.1.outer,hI.1.bel,fun x hx hs u hu=>?_,hI.1.new,hI.1.ne,fun x hx hs c hc=>?_⟩
    · rcases hM x hx with h | h | h
      · exact (hno _ h hs).elim
      · rw [h,hS] at hs;cases hs
      · exact hI.1.vals x hx hs u (h.trans hu)
    · rcases hC x hx with h | h
      · exact (hno _ h hs).elim
      · exact hI.1.did x hx hs c (h.trans hc)
  have htn:t<a.tmps.size:=by rw [hI.1.size];exact slot_lt hB (List.mem_append_left _ (List.mem_map.2 ⟨(i,t),hi,rfl⟩))
  refine ⟨z',DI.pure hB hI' hi hv hS hb hiA hiO,fun x hx hs=>?_⟩;rcases hD x hx with ⟨_,O,h1,h2⟩ | ⟨hne,h1⟩
  · refine ⟨O,h1,fun k hk=>⟨Nat.le_trans hI.1.bel.size (h2 k hk).1,(h2 k hk).2⟩,fun y hy hs' B hB' hO=>?_⟩;rw [put_at htn,if_neg (slots_ne hB hi y hy)] at hB';have hs2:S y.1=true:=plus_of (by have:=List.all_eq_true.1 hiA y hy;simpa using this) hs';obtain ⟨B',h3,h4,c,h5,h6⟩:=hI.1.new y hy hs2;rw [h3] at hB';simp at hB'
    subst hB'
    have:=h5.lt
    have:=(h2 _ hO).1
    omega
  · obtain ⟨O,h3,h4⟩:=hI.2 x hx (plus_of hne hs);exact ⟨O,hst x hx z' w w' O (fun k _ hk=>hb.block k hk) (h1 w O h3),h4.pure (slots_ne hB hi) htn hiA hb.size⟩
theorem fr_draw4 {P : Program} {Q : Exit → Act → World → Prop} {id : Nat} {L : List (Tmp × Value)} (Ti : List (Nat × Tmp)) (Ai Oi : List (Nat × Tmp × Nat × TypeId)) (M : Z → List (Tmp × Value)) (C : Z → List (Tmp × List Value)) (D : DTab Z) (z0 : Z)
    (hm:P.follows .mixedOrders=true) (hF:Fr n a L) (hL:(L.all fun p=>!(dstsOf l).contains p.1)=true) (hB:((backB 0 l && (l.all fun o=>o.guard.isNone)) && diB l n Ti Ai Oi)=true)
    (hst:diB l n Ti Ai Oi=true→StepsOk P l (DM n a w (dstsOf l) Ti Ai Oi M C D) 0 l)
    (hend:∀ z S a' w',(∀ j,j<l.length→S j=true)→DMz n a w (dstsOf l) Ti Ai Oi M C D z S a' w'→Fr n a' L→Q .normal a' w'):(Code.region id l.toArray true).wp P Q a w:=by
  rw [Bool.and_eq_true] at hB;refine draw_inv (DM n a w (dstsOf l) Ti Ai Oi M C D) hm hB.1 ?_ (hst hB.2) (fun S a' w' hS ⟨z,hI⟩=>hend z S a' w' hS hI ?_)
  · exact ⟨z0,⟨hF.size,hF.defers,fun _ _=>rfl,drewN_below (m:=1) (Below.refl _ _),fun _ _ h=>(by cases h),fun _ _ h=>(by cases h),fun _ _ _ _ _ h=>(by cases h),fun _ _ h=>(by cases h)⟩,fun _ _ h=>by cases h⟩
  · exact fr_outer hF hL hI.1
end
end Go.Proofs.YtalfbnllodhkiacGreatDoor
namespace Go.Proofs.YtalfbnllodhkiacGreatDoor
open Go.ChangeShapes Go.WideShapes Go.ChangeAt Go.RowKit
set_option linter.unusedVariables false
def LyOut {α : Type} (A : Lay α) (w w' : World) (l : List α) (e : Ending) : Prop := ∃ a' c', e = .returned (.slice a' l.length c') ∧ A.list.In w' (From w.heap.size) l [.slice a' l.length c'] ∧ Below w.heap.size w w'
def iv (l : List Int) : List Value := l.map (fun x => Value.int .i64 x)
theorem ints_row {w : World} {lo : Nat} {e : TypeId} {v : Value} {l : List Int} (h : w.ownsRow lo e 1 v l.length (iv l)) (hb : ∀ x ∈ l, I64 x) : intsL.In w (From lo) l [v] :=
  ARow.lay (A:=Lay.int) (e:=e) (xs:=iv l) ⟨h,fun i x hx=>by
    have hs:Lay.int.size=1:=rfl;rw [hs,Nat.mul_one]
    have e1:((iv l).drop i).take 1=[.int .i64 x]:=by
      obtain ⟨hi,e⟩:=List.getElem?_eq_some_iff.1 hx;unfold iv;rw [← List.map_drop,List.drop_eq_getElem_cons hi];simp [e]
    rw [e1];exact ⟨rfl,hb x (List.mem_of_getElem? hx)⟩⟩
theorem ints_bnd {w : World} {O : Nat → Prop} {l : List Int} {a : Option Addr} {m c : Nat} (h : intsL.In w O l [.slice a m c]) : ∀ x ∈ l, I64 x := by
  intro x hx;obtain ⟨i,hi⟩:=List.mem_iff_getElem?.1 hx;obtain ⟨g,o,ds,_,_,_,_,h2⟩:=Lay.list_at h hi;exact h2.2
theorem ints_src {w : World} {O : Nat → Prop} {l : List Int} {a : Option Addr} {m c : Nat} (h : intsL.In w O l [.slice a m c]) (h0 : 0 < l.length) :
    ∃ ad,a=some ad∧ad.block<w.heap.size∧∀ j v,(iv l)[j]?=some v→w.cell? (ad.add j)=some v:=by
  obtain ⟨g,o,e,_,hlt,_⟩:=ints_at h h0;refine ⟨⟨g,o,none⟩,e,hlt,fun j v hj=>?_⟩;have hjl:j<l.length:=by have:=(List.getElem?_eq_some_iff.1 hj).1;simpa [iv] using this
  obtain ⟨g2,o2,e2,_,_,h2⟩:=ints_at h hjl;rw [e] at e2
  cases e2
  rw [show (⟨g,o,none⟩:Addr).add j=⟨g,o+j,none⟩ from by unfold Addr.add;split <;> simp_all,h2,← hj];simp [iv,List.getD,hjl]
theorem iv_len (l : List Int) : (iv l).length = l.length := by simp [iv]
theorem iv_one (l : List Int) : ∀ v ∈ iv l, v.oneCell' = true := by
  intro v hv;obtain ⟨x,_,rfl⟩:=List.mem_map.1 hv;rfl
theorem underIs : Tryz.prog.underlying 43 = some (.slice 3) := by kernel_rfl
theorem infoI : (Tryz.prog.info? 3).map (fun i => (i.zero, i.size, i.bytes)) = some (some (.int .i64 0), 1, 8) := by kernel_rfl
theorem infoI_parts : ∃ i, Tryz.prog.info? 3 = some i ∧ i.zero = some (.int .i64 0) ∧ i.size = 1 ∧ i.bytes = 8 := by
  obtain ⟨i,hi,e⟩:=Option.map_eq_some_iff.1 infoI;simp only [Prod.mk.injEq] at e;exact ⟨i,hi,e⟩
theorem wpList_append_no {P : Program} {w : World} {ops : Array Oper} {rest : List Oper} {o : Oper} {a : Act} {Q : Exit → Act → World → Prop} (hgd : o.guard = none) (s x : Operand) (t : TypeId)
    (ho:o.op=.call { callee:=.builtin .append,args:=#[s,x],argTypes:=#[t,t] }) (v vx:Value) (hs:a.eval s=v) (hx:a.eval x=vx) (hrun:(Builtin.append_ #[t,t] o.type #[v,vx]).run P w=.ok v w)
    (h:wpList P ops Q rest (a.put o.dst v) w):wpList P ops Q (o::rest) a w:=by
  refine wpList_plain hgd fun K hK=>?_;unfold Oper.wp;simp [execOp,ho,resolve,invoke,builtin,hs,hx,hrun,Result.andThen];exact hK _ _ h
theorem rOwnInts_any (l : List Int) (p : Option Addr) (c : Nat) (w : World) (hl0 : intsL.In w All l [.slice p l.length c]) (hb0 : l.length ≤ 4294967296) :
    Calls Tryz.prog 43 #[.slice p l.length c] w fun e w'=>LyOut Lay.int w w' l e:=by
  obtain ⟨i0,hi,hz0,hz1,hz2⟩:=infoI_parts;by_cases h0:0<l.length
  · obtain ⟨ad,rfl,hlt,h2⟩:=ints_src hl0 h0;have hsrc:Hid _:=h2;have hx:Hid _:=ints_bnd hl0;clear hl0 h2;go_enter Tryz.func43,Tryz.ntmps43
    go_wp2_with (at_builtin;refine wpList_append_lies _ rfl (.tmp 4) (.tmp 5) 43 rfl w.heap.size 3 i0 (.int .i64 0) 1 8 underIs hi hz0 hz1 hz2 rfl (by decide) (.slice none 0 0) 0 [] rfl ⟨rfl,Or.inl ⟨rfl,rfl⟩⟩ ad l.length c (iv l) rfl (by rw [iv_len,Nat.mul_one]) hsrc.out (iv_one l) h0 (by unfold maxLen;omega) (by omega) (Nat.le_refl _) w.heap.size rfl ?_)
    intro g2 cap2 w9 h1 hgrow hat hlt1
    have R:Hid (LyOut Lay.int w w9 l (.returned (.slice (some ⟨g2,0,none⟩) l.length cap2))):=by
      exact ⟨_,_,rfl,ints_row h1 hx.out,(Below.refl _ w).grown hgrow (Nat.le_refl _) (fun k hk=>by simp [Value.ownBlock] at hk)⟩
    clear h1 hgrow hat hlt1 hsrc hx;go_wp2
    go_ret;exact R.out
  · have e0:l=[]:=List.length_eq_zero_iff.1 (by omega);subst e0
    have ha:Hid (∀ (t:TypeId) (wx:World),(Builtin.append_ #[43,43] t #[.slice none 0 0,.slice p 0 c]).run Tryz.prog wx=.ok (.slice none 0 0) wx):=fun (t:TypeId) (wx:World)=>run_append_nothing (P:=Tryz.prog) wx 43 43 t 3 i0 underIs hi none 0 0 (Nat.le_refl _) (.slice p 0 c) (by cases p with
      | none=>exact Src.ofNil wx underIs c
      | some ad=>exact Src.ofSlice wx underIs ad 0 c [] (by simp) (fun j u h=>by simp at h) (fun u h=>by cases h))
    simp only [List.length_nil];have R:Hid (LyOut Lay.int w w [] (.returned (.slice none 0 0))):=⟨_,_,rfl,Lay.list_nil _ _ _ _ _,Below.refl _ _⟩;clear hl0;go_enter Tryz.func43,Tryz.ntmps43
    go_wp2_with (at_builtin;refine wpList_append_no rfl (.tmp 4) (.tmp 5) 43 rfl (.slice none 0 0) (.slice p 0 c) rfl rfl (ha.out _ _) ?_)
    go_ret;exact R.out
end Go.Proofs.YtalfbnllodhkiacGreatDoor
namespace Go.Proofs.YtalfbnllodhkiacGreatDoor
open Go.ChangeShapes Go.WideShapes Go.ChangeAt Go.RowKit
set_option linter.unusedSimpArgs false
set_option linter.unusedVariables false
theorem rOwnTo_any (x : MTo) (pR pA : Option Addr) (cR cA : Nat) (w : World) (h : TIn2 w All x pR cR pA cA) (b1 : x.regs.length ≤ 4294967296) (b2 : x.args.length ≤ 4294967296) :
    Calls Tryz.prog 44 #[.agg #[.int .i64 x.block,.slice pR x.regs.length cR,.slice pA x.args.length cA]] w fun e w'=>∃ p c p2 c2,e=.returned (.agg #[.int .i64 x.block,.slice p x.regs.length c,.slice p2 x.args.length c2])∧TIn2 w' (From w.heap.size) x p c p2 c2∧Below w.heap.size w w':=by
  have hr:Hid _:=h.regs;have hg:Hid _:=h.args;have hbd:=h.bnd;clear h;refine fr_enter (n:=12) Tryz.func44 rfl rfl rfl ?_;intro a hF;have hW:=Wd.start w;replace hF:Fr 12 a [(0,.agg #[.int .i64 x.block,.slice pR x.regs.length cR,.slice pA x.args.length cA])]:=hF;refine wp_seq_k fun K1 hK1=>?_;refine rg hF fun ops=>?_;clear hF a;refine sB hW trivial rfl rfl ?_;clear hW;intro w2 B2 hW2 hN;clear hN;refine sATo hW2 trivial rfl ?_;clear hW2;intro w3 B3 hW3 hN;clear hN;refine St.nil fun a4 h4=>?_;refine hK1 _ _ ?_;refine wp_seq_k fun K5 hK5=>?_;have hF6:Fr 12 a4 [(0,.agg #[.int .i64 x.block,.slice pR x.regs.length cR,.slice pA x.args.length cA]),(1,.pointer (some ⟨B2,0,none⟩)),(2,.pointer (some ⟨B3,0,none⟩))]:=(h4.keep (h4.keep (h4.keep h4.nil (t:=2) rfl) (t:=1) rfl) (t:=0) rfl);have ho1:a4.tmps.getD 1 undef=.pointer (some ⟨B2,0,none⟩):=h4.sl 1 _ rfl;refine fr_draw_k 9 ([(1,fun v _=>v=.pointer (some ⟨B2,0,none⟩)),(3,fun v _=>v=.pointer (some ⟨B2,0,none⟩)),(4,fun v _=>v=.int .i64 x.block),(5,fun v _=>v=.pointer (some ⟨B2,1,none⟩)),(6,fun v _=>v=.slice pR x.regs.length cR),(7,fun v w'=>∃ p c,v=.slice p x.regs.length c∧intsL.In w' (From w3.heap.size) x.regs [.slice p x.regs.length c]),(8,fun v _=>v=.pointer (some ⟨B2,2,none⟩)),(9,fun v _=>v=.slice pA x.args.length cA),(10,fun v w'=>∃ p c,v=.slice p x.args.length c∧intsL.In w' (From w3.heap.size) x.args [.slice p x.args.length c]),(11,fun v w'=>∃ p c p2 c2,v=.agg #[.int .i64 x.block,.slice p x.regs.length c,.slice p2 x.args.length c2]∧TIn2 w' (From w3.heap.size) x p c p2 c2)]:PTab) (fun w'=>Wd w w' [(B3,#[.int .i64 0,.slice none 0 0,.slice none 0 0],48),(B2,#[.int .i64 x.block,.slice pR x.regs.length cR,.slice pA x.args.length cA],48)]∧Below w3.heap.size w3 w') (fun w w'=>Below w.heap.size w w') (outs:=[1]) (gs:=[]) (bs:=[true,true,true,true,true,true,true,true,true]) (by kernel_rfl) hF6 rfl (by kernel_rfl) (by kernel_rfl) ?hR ?hG ⟨hW3.drewN 1,drewN_below (m:=1) (Below.refl _ _)⟩ ⟨ho1,trivial⟩ ?hA ?hend
  case hR=>exact ⟨fun _ _ _ _ h=>h,fun _ _ _ _ h=>h,fun _ _ _ _ h=>h,fun _ _ _ _ h=>h,fun _ _ _ _ h=>h,fun v w w' hr h=>by obtain ⟨p,c,h1,h2⟩:=h;exact ⟨p,c,h1,Lay.below h2 hr⟩,fun _ _ _ _ h=>h,fun _ _ _ _ h=>h,fun v w w' hr h=>by obtain ⟨p,c,h1,h2⟩:=h;exact ⟨p,c,h1,Lay.below h2 hr⟩,fun v w w' hr h=>by obtain ⟨p,c,p2,c2,h1,h2⟩:=h;exact ⟨p,c,p2,c2,h1,⟨Lay.below h2.regs hr,Lay.below h2.args hr,h2.bnd⟩⟩,trivial⟩
  case hG=>exact trivial
  case hA =>
   refine ⟨fun a w hW hk K hK=>?_,?_⟩
   · obtain ⟨k0,-⟩:=hk;have k0:a.tmps.getD 1 undef=.pointer (some ⟨B2,0,none⟩):=k0;go_simp;exact hK _ _ (Below.refl _ _) hW rfl
   refine ⟨fun a w hW hk K hK=>?_,?_⟩
   · obtain ⟨k0,-⟩:=hk;have k0:a.tmps.getD 3 undef=.pointer (some ⟨B2,0,none⟩):=k0;have c0:w.cell? ⟨B2,0,none⟩=some (.int .i64 x.block):=cellOf (hW.1.get 1 rfl) 0 _ rfl;go_simp;exact hK _ _ (Below.refl _ _) hW rfl
   refine ⟨fun a w hW hk K hK=>?_,?_⟩
   · obtain ⟨k0,-⟩:=hk;have k0:a.tmps.getD 1 undef=.pointer (some ⟨B2,0,none⟩):=k0;go_simp;exact hK _ _ (Below.refl _ _) hW rfl
   refine ⟨fun a w hW hk K hK=>?_,?_⟩
   · obtain ⟨k0,-⟩:=hk;have k0:a.tmps.getD 5 undef=.pointer (some ⟨B2,1,none⟩):=k0;have c1:w.cell? ⟨B2,1,none⟩=some (.slice pR x.regs.length cR):=cellOf (hW.1.get 1 rfl) 1 _ rfl;go_simp;exact hK _ _ (Below.refl _ _) hW rfl
   refine ⟨fun a w hW hk K hK=>?_,?_⟩
   · obtain ⟨k0,-⟩:=hk;have k0:a.tmps.getD 6 undef=.slice pR x.regs.length cR:=k0;go_simp;refine (rOwnInts_any _ _ _ w (Lay.below hr.out hW.1.bel) b1).mono ?_;rintro e w9 ⟨p9,c9,rfl,h9,hb⟩;exact hK _ _ hb ⟨hW.1.below hb,Below.andThen hW.2 hb⟩ ⟨p9,c9,rfl,Lay.mono h9 (fun k hk _=>Nat.le_trans hW.2.size hk)⟩
   refine ⟨fun a w hW hk K hK=>?_,?_⟩
   · obtain ⟨k0,-⟩:=hk;have k0:a.tmps.getD 1 undef=.pointer (some ⟨B2,0,none⟩):=k0;go_simp;exact hK _ _ (Below.refl _ _) hW rfl
   refine ⟨fun a w hW hk K hK=>?_,?_⟩
   · obtain ⟨k0,-⟩:=hk;have k0:a.tmps.getD 8 undef=.pointer (some ⟨B2,2,none⟩):=k0;have c2:w.cell? ⟨B2,2,none⟩=some (.slice pA x.args.length cA):=cellOf (hW.1.get 1 rfl) 2 _ rfl;go_simp;exact hK _ _ (Below.refl _ _) hW rfl
   refine ⟨fun a w hW hk K hK=>?_,?_⟩
   · obtain ⟨k0,-⟩:=hk;have k0:a.tmps.getD 9 undef=.slice pA x.args.length cA:=k0;go_simp;refine (rOwnInts_any _ _ _ w (Lay.below hg.out hW.1.bel) b2).mono ?_;rintro e w9 ⟨p9,c9,rfl,h9,hb⟩;exact hK _ _ hb ⟨hW.1.below hb,Below.andThen hW.2 hb⟩ ⟨p9,c9,rfl,Lay.mono h9 (fun k hk _=>Nat.le_trans hW.2.size hk)⟩
   refine ⟨fun a w hW hk K hK=>?_,?_⟩
   · obtain ⟨k0,k1,k2,-⟩:=hk;have k0:a.tmps[4]?.getD undef=.int .i64 x.block:=by rw [← Array.getD_eq_getD_getElem?];exact k0
     obtain ⟨pN7,cN7,k1,hNN7⟩:=k1;have k1:a.tmps[7]?.getD undef=.slice pN7 x.regs.length cN7:=by rw [← Array.getD_eq_getD_getElem?];exact k1
     obtain ⟨pN10,cN10,k2,hNN10⟩:=k2;have k2:a.tmps[10]?.getD undef=.slice pN10 x.args.length cN10:=by rw [← Array.getD_eq_getD_getElem?];exact k2
     go_simp;exact hK _ _ (Below.refl _ _) hW ⟨_,_,_,_,rfl,⟨hNN7,hNN10,hbd⟩⟩
   trivial
  case hend =>
   intro ops a7 w7 hWD hE hFD;obtain ⟨pr,cr,pa,ca,hd11,⟨hTr,hTa,-⟩⟩:=hE 11 rfl;replace hd11:a7.tmps.getD 11 undef=.agg #[.int .i64 x.block,.slice pr x.regs.length cr,.slice pa x.args.length ca]:=hd11;have hF7:Fr 12 a7 [(11,.agg #[.int .i64 x.block,.slice pr x.regs.length cr,.slice pa x.args.length ca]),(0,.agg #[.int .i64 x.block,.slice pR x.regs.length cR,.slice pA x.args.length cA]),(1,.pointer (some ⟨B2,0,none⟩)),(2,.pointer (some ⟨B3,0,none⟩))]:=(hFD.cons hd11);clear hd11;have hW7:Wd w w7 [(B3,#[.int .i64 0,.slice none 0 0,.slice none 0 0],48),(B2,#[.int .i64 x.block,.slice pR x.regs.length cR,.slice pA x.args.length cA],48)]:=hWD.1;have hlt0:B3<w3.heap.size:=(hW3.get 0 rfl).lt;have hlt1:B2<w3.heap.size:=(hW3.get 1 rfl).lt;have hsz:w.heap.size≤w3.heap.size:=hW3.bel.size;clear hFD hWD hE hF6 h4;clear hW3;refine St.go hF7 ?_;clear hF7 a7;refine sTk 0 hW7 rfl rfl infTo rfl rfl rfl ?_;intro w8 hKp hW8;replace hTr:=Lay.keep1 hTr hKp hlt0;replace hTa:=Lay.keep1 hTa hKp hlt0;clear hKp hW7;refine St.nil fun a9 h9=>?_;refine hK5 _ _ ?_;refine wp_ret ?_;with_reducible repeat first | refine of_then_ret ?_ | refine of_block_ret ?_
   exact ret_box 0 h9 hW8 rfl rfl rfl Tryz.underlying48 rfl infTo ⟨_,_,_,_,rfl,⟨Lay.mono hTr (fun k hk _=>Nat.le_trans hsz hk),Lay.mono hTa (fun k hk _=>Nat.le_trans hsz hk),hbd⟩,hW8.bel⟩
end Go.Proofs.YtalfbnllodhkiacGreatDoor
namespace Go.Proofs.YtalfbnllodhkiacGreatDoor
open Go.ChangeShapes Go.WideShapes Go.ChangeAt Go.RowKit
set_option linter.unusedVariables false
structure TRow (w : World) (lo : Nat) (v : Value) {n : Nat} (l : List (TT n)) (xs : List Value) : Prop where
  own:w.ownsRow lo 78 3 v l.length xs
  kids:∀ (i:Nat) (x:TT n),l[i]?=some x→∃ a c,xs[i*3]?=some (.int .i64 x.kind)∧xs[i*3+1]?=some (.int .i64 x.r)∧xs[i*3+2]?=some (.slice a x.len c)∧TIn w (But lo v) x a
theorem TRow.nil (w : World) (lo : Nat) {n : Nat} : TRow w lo (.slice none 0 0) ([] : List (TT n)) [] :=
  ⟨⟨rfl,Or.inl ⟨rfl,rfl⟩⟩,fun i x h=>by simp at h⟩
theorem TRow.lin {w : World} {lo : Nat} {v : Value} {n : Nat} {l : List (TT n)} {xs : List Value} (h : TRow w lo v l xs) : ∃ a c, v = .slice a l.length c ∧ LIn w (From lo) l a := by
  obtain ⟨⟨h1,h2⟩,h3⟩:=h;rcases h2 with ⟨rfl,h4⟩ | ⟨g,cap,cur,rfl,hg,hh,hn,hm,hs,ht⟩
  · have:l=[]:=List.length_eq_zero_iff.1 h4
    subst this;exact ⟨none,0,rfl,LIn.nil⟩
  · refine ⟨_,_,rfl,fun i x hx=>?_⟩;obtain ⟨a,c,q0,q1,q2,q3⟩:=h3 i x hx;have hi:i<l.length:=(List.getElem?_eq_some_iff.1 hx).1
    have key:∀ j u,xs[j]?=some u→w.cell? ⟨g,j,none⟩=some u:=fun j u hj=>by
      rw [← ht,List.getElem?_take] at hj;split at hj
      · exact cellOf hh j u (by rw [← Array.getElem?_toList];exact hj)
      · cases hj
    refine ⟨g,0,a,c,rfl,hg,?_,?_,?_,q3.mono (fun k hk _=>hk.1)⟩
    · rw [Nat.zero_add];exact key _ _ q0
    · rw [Nat.zero_add];exact key _ _ q1
    · rw [Nat.zero_add];exact key _ _ q2
theorem TRow.below {w w' : World} {lo : Nat} {v : Value} {n : Nat} {l : List (TT n)} {xs : List Value} (h : TRow w lo v l xs) (b : Below w.heap.size w w') : TRow w' lo v l xs := by
  obtain ⟨⟨h1,h2⟩,h3⟩:=h;refine ⟨⟨h1,?_⟩,fun i x hx=>?_⟩
  · rcases h2 with h4 | ⟨g,cap,cur,e,hg,hh,r⟩
    · exact Or.inl h4
    · exact Or.inr ⟨g,cap,cur,e,hg,(b.block g (lt_of_block hh)).trans hh,r⟩
  · obtain ⟨a,c,q0,q1,q2,q3⟩:=h3 i x hx;exact ⟨a,c,q0,q1,q2,q3.below b⟩
theorem TRow.lo_le {w : World} {lo : Nat} {v : Value} {n : Nat} {l : List (TT n)} {xs : List Value} (h : TRow w lo v l xs) {g : Nat} (hg : v.ownBlock = some g) : lo ≤ g ∧ g < w.heap.size := by
  obtain ⟨⟨h1,h2⟩,h3⟩:=h;rcases h2 with ⟨rfl,h4⟩ | ⟨g',cap,cur,rfl,hg',hh,r⟩
  · simp [Value.ownBlock] at hg
  · simp [Value.ownBlock] at hg;subst hg;exact ⟨hg',lt_of_block hh⟩
theorem TRow.push {w w' : World} {lo : Nat} {v : Value} {n : Nat} {l : List (TT n)} {xs : List Value} (h : TRow w lo v l xs) {x : TT n} {a : Option Addr} {c : Nat} (hx : TIn w (But lo v) x a)
    {g cap:Nat} (hg:w.grownBy w' v.ownBlock) (hat:v.ownBlock=some g∨g=w.heap.size)
    (ho:w'.ownsRow lo 78 3 (.slice (some ⟨g,0,none⟩) (l.length+1) cap) (l.length+1) (xs++[.int .i64 x.kind,.int .i64 x.r,.slice a x.len c])) :
    TRow w' lo (.slice (some ⟨g,0,none⟩) (l.length+1) cap) (l++[x]) (xs++[.int .i64 x.kind,.int .i64 x.r,.slice a x.len c]):=by
  obtain ⟨h1,h3⟩:=h;have hxl:=h1.1
  have keep:∀ {y:TT n} {b:Option Addr},TIn w (But lo v) y b→TIn w' (But lo (.slice (some ⟨g,0,none⟩) (l.length+1) cap)) y b:=fun hy=>by
    refine hy.keep (fun k hk hl=>?_) (fun k hk hl=>⟨hk.1,?_⟩)
    · exact hg.block k hl (fun e=>hk.2 e.symm)
    · simp only [Value.ownBlock,ne_eq,Option.some.injEq];intro e;subst e;rcases hat with h' | h'
      · exact hk.2 h'
      · omega
  refine ⟨by rw [List.length_append];exact ho,fun i y hy=>?_⟩;rw [List.getElem?_append] at hy;split at hy
  · rename_i hi
    obtain ⟨b,d,q0,q1,q2,q3⟩:=h3 i y hy;refine ⟨b,d,?_,?_,?_,keep q3⟩
    · rw [List.getElem?_append_left (by omega)];exact q0
    · rw [List.getElem?_append_left (by omega)];exact q1
    · rw [List.getElem?_append_left (by omega)];exact q2
  · rename_i hi
    have hi2:i=l.length:=by
      have:=(List.getElem?_eq_some_iff.1 hy).1
      simp at this
      omega
    subst hi2;simp at hy
    subst hy;refine ⟨a,c,?_,?_,?_,keep hx⟩
    · rw [List.getElem?_append_right (by omega),hxl,Nat.sub_self];rfl
    · rw [List.getElem?_append_right (by omega),hxl,Nat.add_sub_cancel_left];rfl
    · rw [List.getElem?_append_right (by omega),hxl,Nat.add_sub_cancel_left];rfl
theorem underTs : Tryz.prog.underlying 39 = some (.slice 78) := by kernel_rfl
theorem infoT : (Tryz.prog.info? 78).map (fun i => (i.zero, i.size, i.bytes)) = some (some (.agg #[.int .i64 0, .int .i64 0, .slice none 0 0]), 3, 40) := by kernel_rfl
theorem infoT_parts : ∃ i, Tryz.prog.info? 78 = some i ∧ i.zero = some (.agg #[.int .i64 0, .int .i64 0, .slice none 0 0]) ∧ i.size = 3 ∧ i.bytes = 40 := by
  have h:=infoT
  cases hi:Tryz.prog.info? 78 with
  | none=>rw [hi] at h;cases h
  | some i=>rw [hi] at h;simp at h;exact ⟨i,rfl,h.1,h.2.1,h.2.2⟩
theorem news3 (w : World) (p q r : Value) : ∀ j u, [p, q, r][j]? = some u → (w.alloc (.cells #[p, q, r] 78)).cell? ((⟨w.heap.size, 0, none⟩ : Addr).add j) = some u := by
  intro j u h;match j,h with
  | 0,h=>simp at h;subst h;exact cellOf (blockNew w _ _) 0 _ rfl
  | 1,h=>simp at h;subst h;exact cellOf (blockNew w _ _) 1 _ rfl
  | 2,h=>simp at h;subst h;exact cellOf (blockNew w _ _) 2 _ rfl
  | j+3,h=>simp at h
theorem one3 (k r : Int) (a : Option Addr) (l c : Nat) : ∀ u ∈ [Value.int .i64 k, Value.int .i64 r, Value.slice a l c], u.oneCell' = true := by
  intro u h;simp at h
  rcases h with rfl | rfl | rfl <;> rfl
def TOut {n : Nat} (w w' : World) (t : TT n) (e : Ending) : Prop := ∃ a' c', e = .returned (Tv t a' c') ∧ TIn w' (From w.heap.size) t a' ∧ Below w.heap.size w w'
def LOut {n : Nat} (w w' : World) (l : List (TT n)) (e : Ending) : Prop := ∃ a' c', e = .returned (.slice a' l.length c') ∧ LIn w' (From w.heap.size) l a' ∧ Below w.heap.size w w'
def OwnAt (n : Nat) : Prop := ∀ (t : TT n) (a : Option Addr) (c : Nat) (w : World), TIn w All t a → t.count ≤ 100000 →
    Calls Tryz.prog 79 #[Tv t a c] w fun e w'=>TOut w w' t e
theorem owns_any (n : Nat) (IH0 : OwnAt n) (l : List (TT n)) (a : Option Addr) (c : Nat) (w : World) (hl0 : LIn w All l a) (hlen : l.length ≤ 100000) (hco0 : ∀ x ∈ l, x.count ≤ 100000) :
    Calls Tryz.prog 42 #[.slice a l.length c] w fun e w'=>LOut w w' l e:=by
  have IH:Hid (OwnAt n):=IH0;have hl:Hid (LIn w All l a):=hl0;have hco:Hid (∀ x∈l,x.count≤100000):=hco0;clear IH0 hl0 hco0;obtain ⟨i0,hi,hz0,hz1,hz2⟩:=infoT_parts;go_enter Tryz.func42,Tryz.ntmps42
  go_wp2_with fail
  go_loopw [3,4] (fun v i wr=>∃ q:Nat,q≤l.length∧i=.int .i64 q∧(∃ xs,TRow wr w.heap.size v (l.take q) xs)∧Below w.heap.size w wr) (fun _ i _=>l.length - (intOf i).toNat)
  case atStart=>exact ⟨0,Nat.zero_le _,rfl,⟨_,TRow.nil _ _⟩,Below.refl _ _⟩
  case round =>
    obtain ⟨q,hq,rfl,⟨xs,hr⟩,hb⟩:=hrel;have R:Hid (TRow wr w.heap.size u3 (l.take q) xs):=hr;have B:Hid (Below w.heap.size w wr):=hb;clear hr hb;by_cases hlt:q<l.length
    · have hx:l[q]?=some l[q]:=List.getElem?_eq_getElem hlt;generalize l[q]=x at hx;obtain ⟨g,o,a',c',rfl,_,d0,d1,d2,hk⟩:=LIn.at (hl.out.below B.out) hx
      have C:Hid (Calls Tryz.prog 79 #[Tv x a' c'] wr fun e w'=>TOut wr w' x e) :=
        IH.out x a' c' _ hk (hco.out x (List.mem_of_getElem? hx))
      have T:Hid (l.take (q+1)=l.take q++[x]):=by show _=_;rw [List.take_add_one,hx];rfl
      have hlq:Hid ((l.take q).length=q):=by show _=_;simp;omega
      clear hk hx;simp only [Tv] at C;have hk0:(0:Int)≤q:=by omega
      have hk1:(q:Int)<l.length:=by omega
      go_wp2_with fail
      refine C.out.mono ?_;rintro e w2 ⟨a2,c2,rfl,t2,b2⟩;simp only [Tv];have R2:=R.out.below b2;have hT2:TIn w2 (But w.heap.size u3) x a2:=t2.mono (fun k hk _=>⟨Nat.le_trans B.out.size hk,fun e=>by have:=(R.out.lo_le e).2;omega⟩);have hB2:Below w.heap.size w w2:=B.out.trans (b2.mono B.out.size);have hown:=R2.own;rw [hlq.out] at hown
      have PU:Hid (∀ g2 cap2 w9,w9.ownsRow w.heap.size 78 3 (.slice (some ⟨g2,0,none⟩) (q+1) cap2) (q+1) (xs++[.int .i64 x.kind,.int .i64 x.r,.slice a2 x.len c2])→(w2.alloc (.cells #[.int .i64 x.kind,.int .i64 x.r,.slice a2 x.len c2] 78)).grownBy w9 u3.ownBlock→(u3.ownBlock=some g2∨g2=w2.heap.size+1) →
          (∃ xs,TRow w9 w.heap.size (.slice (some ⟨g2,0,none⟩) (q+1) cap2) (l.take (q+1)) xs)∧Below w.heap.size w w9):=by
        intro g2 cap2 w9 h1 h2 h3;have b3:Below w2.heap.size w2 (w2.alloc (.cells #[.int .i64 x.kind,.int .i64 x.r,.slice a2 x.len c2] 78)):=(Below.refl _ w2).alloc (Nat.le_refl _) _
        have:=(R2.below b3).push (x:=x) (a:=a2) (c:=c2) (cap:=cap2) (hT2.below b3) h2 (by simpa using h3) (by rw [hlq.out];exact h1)
        rw [hlq.out] at this;refine ⟨⟨_,by rw [T.out];exact this⟩,?_⟩;exact (hB2.alloc hB2.size _).grown h2 (by simp;have:=hB2.size;omega) (fun k hk=>(R.out.lo_le hk).1)
      have hsz:=hB2.size;clear C d0 d1 d2 t2 b2 R2 hT2 hB2;generalize x.kind=kx at PU ⊢;generalize x.r=rx at PU ⊢;generalize x.len=lx at PU ⊢;go_wp2_with (at_builtin;refine wpList_append_lies _ rfl (.tmp 11) (.tmp 17) 39 rfl w.heap.size 78 i0 (.agg #[.int .i64 0,.int .i64 0,.slice none 0 0]) 3 40 underTs hi hz0 hz1 hz2 rfl (by decide) _ _ _ rfl (hown.alloc _) ⟨w2.heap.size,0,none⟩ 1 1 [.int .i64 kx,.int .i64 rx,.slice a2 lx c2] rfl rfl (news3 _ _ _ _) (one3 _ _ _ _ _) (by decide) (by unfold maxLen;omega) (by omega) (by simp;omega) (w2.heap.size+1) (by simp) ?_)
      intro g2 cap2 w9 h1 hgrow hat hlt1;have U2:Hid _:=PU.out g2 cap2 w9 h1 hgrow hat;clear h1 hgrow hat hlt1 hown PU R;go_wp2
      go_roundw
      case rel=>exact ⟨q+1,by omega,by go_num,U2.out.1,U2.out.2⟩
      case measure=>simp [intOf];omega
    · have hk1:¬ (q:Int)<l.length:=by omega
      have htt:l.take q=l:=List.take_of_length_le (by omega);have hr:=R.out;rw [htt] at hr;obtain ⟨a2,c2,rfl,h2⟩:=hr.lin;have L:Hid (LIn wr (From w.heap.size) l a2):=h2;clear R h2 hr htt;go_wp2
      go_ret;exact ⟨a2,c2,rfl,L.out,B.out⟩
structure Bx2 (w wr : World) (k r : Int) (a : Option Addr) (len c : Nat) : Prop where
  bel:Below w.heap.size w wr
  box:wr.heap[w.heap.size]?=some (.cells #[.int .i64 k,.int .i64 r,.slice a len c] 78 (0,0))
  res:wr.heap[w.heap.size+1]?=some (.cells #[.int .i64 0,.int .i64 0,.slice none 0 0] 78 (0,0))
theorem Bx2.start (w : World) (k r : Int) (a : Option Addr) (len c : Nat) : Bx2 w ((w.alloc (.cells #[.int .i64 k, .int .i64 r, .slice a len c] 78)).alloc (.cells #[.int .i64 0, .int .i64 0, .slice none 0 0] 78)) k r a len c :=
  ⟨((Below.refl _ w).alloc (Nat.le_refl _) _).alloc (by simp) _,(Below.heap_alloc _ _ _ (by simp)).trans (blockNew w _ _),by have:=blockNew (w.alloc (.cells #[.int .i64 k,.int .i64 r,.slice a len c] 78)) #[.int .i64 0,.int .i64 0,.slice none 0 0] 78;simpa using this⟩
theorem Bx2.below {w wr w' : World} {k r : Int} {a : Option Addr} {len c : Nat} (h : Bx2 w wr k r a len c) (b : Below wr.heap.size wr w') : Bx2 w w' k r a len c :=
  ⟨h.bel.trans (b.mono h.bel.size),box_cells h.box b,box_cells h.res b⟩
theorem Bx2.stored {w wr : World} {k r : Int} {a : Option Addr} {len c : Nat} (h : Bx2 w wr k r a len c) (k' r' : Int) (a' : Option Addr) (len' c' : Nat) :
    (((wr.setCell ⟨w.heap.size+1,0,none⟩ (.int .i64 k')).setCell ⟨w.heap.size+1,1,none⟩ (.int .i64 r')).setCell ⟨w.heap.size+1,2,none⟩ (.slice a' len' c')).heap[w.heap.size+1]?=some (.cells #[.int .i64 k',.int .i64 r',.slice a' len' c'] 78 (0,0)) ∧
    Below w.heap.size w (((wr.setCell ⟨w.heap.size+1,0,none⟩ (.int .i64 k')).setCell ⟨w.heap.size+1,1,none⟩ (.int .i64 r')).setCell ⟨w.heap.size+1,2,none⟩ (.slice a' len' c')):=by
  refine ⟨?_,((h.bel.setCell (by simp) _).setCell (by simp) _).setCell (by simp) _⟩;have h1:=blockSet h.res 0 (.int .i64 k');have h2:=blockSet h1 1 (.int .i64 r');have h3:=blockSet h2 2 (.slice a' len' c');simpa using h3
theorem own_any : ∀ n, OwnAt n := by
  intro n
  induction n with
  | zero=>intro t;exact Empty.elim t
  | succ n ih =>
    intro t a c w ht hc;have hco:∀ x∈t.2.2,x.count≤100000:=fun x hx=>by have:=t.count_kid hx;omega
    have hlen:t.2.2.length≤100000:=by have:=t.len_lt_count;rw [t.len_eq] at this;omega
    have C:Hid (∀ wx,Below w.heap.size w wx→Calls Tryz.prog 42 #[.slice a t.2.2.length c] wx fun e w'=>LOut wx w' t.2.2 e) :=
      fun wx hb=>owns_any n ih t.2.2 a c wx (ht.below hb) hlen hco
    have P:Hid (∀ e wx w',Below w.heap.size w wx→(∃ a' c',e=.returned (.agg #[.int .i64 t.kind,.int .i64 t.r,.slice a' t.2.2.length c'])∧LIn w' (From wx.heap.size) t.2.2 a'∧Below w.heap.size w w')→TOut w w' t e):=by
      rintro e wx w' hb ⟨a',c',rfl,h1,h2⟩;exact ⟨a',c',rfl,h1.mono (fun k hk _=>Nat.le_trans hb.size hk),h2⟩
    simp only [Tv,TT.len_eq];generalize t.kind=k at P ⊢;generalize t.r=r at P ⊢;generalize hll:t.2.2=l at C P ⊢;clear hco hlen hc ht ih hll;go_enter Tryz.func79,Tryz.ntmps79
    go_wp2_with fail
    have X1:Hid (Bx2 w ((w.alloc (.cells #[.int .i64 k,.int .i64 r,.slice a l.length c] 78)).alloc (.cells #[.int .i64 0,.int .i64 0,.slice none 0 0] 78)) k r a l.length c):=Bx2.start w k r a l.length c;have hsz:w.heap.size+1<((w.alloc (.cells #[.int .i64 k,.int .i64 r,.slice a l.length c] 78)).alloc (.cells #[.int .i64 0,.int .i64 0,.slice none 0 0] 78)).heap.size:=by simp
    generalize (w.alloc (.cells #[.int .i64 k,.int .i64 r,.slice a l.length c] 78)).alloc (.cells #[.int .i64 0,.int .i64 0,.slice none 0 0] 78)=w1 at X1 hsz ⊢
    have C1:Hid (∀ m,Calls Tryz.prog 42 #[.slice a l.length c] (w1.drewN m) fun e w'=>LOut w1 w' l e∧Bx2 w w' k r a l.length c):=fun m =>
      (C.out (w1.drewN m) (drewN_below X1.out.bel)).mono (fun e w' h=>by
        obtain ⟨a',c',h1,h2,h3⟩:=h;exact ⟨⟨a',c',h1,h2,undrewN_below h3⟩,X1.out.below (undrewN_below h3)⟩)
    have e0:=cellOf X1.out.box 0 _ rfl;have e1:=cellOf X1.out.box 1 _ rfl;have e2:=cellOf X1.out.box 2 _ rfl;clear C;go_region_with (go_at_call 42;refine (C1.out 1).mono ?_;rintro e w5 ⟨⟨a2,c2,rfl,l2,b2⟩,x5⟩;have f0:=cellOf x5.box 0 _ rfl;have f1:=cellOf x5.box 1 _ rfl;have g0:=cellOf x5.res 0 _ rfl;have g1:=cellOf x5.res 1 _ rfl;have g2:=cellOf x5.res 2 _ rfl;have z0:=freeOf x5.res 0;have z1:=freeOf x5.res 1;have z2:=freeOf x5.res 2;have X5:Hid _:=And.intro l2 x5;clear l2 b2 x5)
    all_goals
      have D:=X5.out.2.stored k r a2 l.length c2
      have D2:TOut w (((w5.setCell ⟨w.heap.size+1,0,none⟩ (.int .i64 k)).setCell ⟨w.heap.size+1,1,none⟩ (.int .i64 r)).setCell ⟨w.heap.size+1,2,none⟩ (.slice a2 l.length c2)) t (.returned (.agg #[.int .i64 k,.int .i64 r,.slice a2 l.length c2])) :=
        P.out _ w1 _ X1.out.bel ⟨a2,c2,rfl,((X5.out.1.setCell (by simp;omega) _).setCell (by simp;omega) _).setCell (by simp;omega) _,D.2⟩
      have DD:Hid _:=D2;have x0:=cellOf D.1 0 _ rfl;have x1:=cellOf D.1 1 _ rfl;have x2:=cellOf D.1 2 _ rfl;clear D D2 X5 e0 e1 e2 f0 f1 g0 g1 g2 z0 z1 z2 P C1;generalize ((w5.setCell ⟨w.heap.size+1,0,none⟩ (.int .i64 k)).setCell ⟨w.heap.size+1,1,none⟩ (.int .i64 r)).setCell ⟨w.heap.size+1,2,none⟩ (.slice a2 l.length c2)=w9 at DD x0 x1 x2 ⊢;go_wp2
      exact bodyPost_ret (v:=.agg #[.int .i64 k,.int .i64 r,.slice a2 l.length c2]) (by simp [results,Tryz.results79,go_sem,x0,x1,x2]) rfl DD.out
end Go.Proofs.YtalfbnllodhkiacGreatDoor
namespace Go.Proofs.YtalfbnllodhkiacGreatDoor
open Go.ChangeShapes Go.WideShapes Go.ChangeAt Go.RowKit
set_option linter.unusedSimpArgs false
set_option linter.unusedVariables false
structure TP where
  p:Option Addr
  c:Nat
structure YIn (w : World) (O : Nat → Prop) {n : Nat} (x : TT n) (i : TP) : Prop where
  tree:TIn w O x i.p
  ok:x.ok
section
variable {w w' : World} {O O' : Nat → Prop} {n : Nat} {x : TT n} {i : TP}
theorem YIn.keep (hb : ∀ k, O k → k < w.heap.size → w'.heap[k]? = w.heap[k]?) (hl : ∀ k, O k → k < w.heap.size → O' k) (h : YIn w O x i) : YIn w' O' x i := ⟨h.tree.keep hb hl, h.ok⟩
theorem YIn.below (h : YIn w O x i) (hbl : Below w.heap.size w w') : YIn w' O x i := h.keep (fun k _ hk => hbl.block k hk) (fun _ h _ => h)
theorem YIn.mono (h : YIn w O x i) (hl : ∀ k, O k → k < w.heap.size → O' k) : YIn w O' x i := h.keep (fun k _ _ => rfl) hl
end
theorem Wd.of {w0 w : World} (b : Below w0.heap.size w0 w) : Wd w0 w [] := ⟨b, fun i x h => by simp at h, fun i x h => by simp at h, fun i j x y h => by simp at h⟩
section
variable {α : Type} {A : Lay α} {e : TypeId} {w w' : World} {lo g n q s : Nat} {l : List α} {xs : List Value} {x : α} {ds : List Value}
theorem ARow.start {m : Nat} (hs : A.size = s) (h : w.ownsRow lo e s (.slice (some ⟨g, 0, none⟩) m m) m xs) : ARow A e w lo (.slice (some ⟨g, 0, none⟩) 0 m) (l.take 0) [] := by
  subst hs;obtain ⟨hl,h2⟩:=h;rcases h2 with ⟨h',_⟩ | ⟨g',cap',cur,h',hb,hg,hnc,hcm,hcs,htake⟩
  · simp at h'
  · simp only [Value.slice.injEq,Option.some.injEq,Addr.mk.injEq,and_true,true_and] at h';obtain ⟨rfl,rfl⟩:=h';exact ⟨⟨by simp,.inr ⟨g,m,cur,rfl,hb,hg,Nat.zero_le _,hcm,hcs,by simp⟩⟩,fun i x h=>by simp at h⟩
theorem ARow.blk (h : ARow A e w lo (.slice (some ⟨g, 0, none⟩) q n) l xs) (hs : A.size = s) : ∃ c, Blk w g c e ∧ c.size = n * s := by
  subst hs;obtain ⟨hl,h2⟩:=h.own;rcases h2 with ⟨h',_⟩ | ⟨g',cap',cur,h',hb,hg,hnc,hcm,hcs,htake⟩
  · simp at h'
  · simp only [Value.slice.injEq,Option.some.injEq,Addr.mk.injEq,and_true,true_and] at h';obtain ⟨rfl,-,rfl⟩:=h';exact ⟨cur,hg,hcs⟩
end
theorem underIns : Tryz.prog.underlying 46 = some (.slice 45) := by kernel_rfl
theorem underBlocks : Tryz.prog.underlying 40 = some (.slice 52) := by kernel_rfl
theorem underFuncs : Tryz.prog.underlying 23 = some (.slice 42) := by kernel_rfl
theorem parts_of {t : TypeId} {z : Value} {s b : Nat} (h : (Tryz.prog.info? t).map (fun i => (i.zero, i.size, i.bytes)) = some (some z, s, b)) : ∃ i, Tryz.prog.info? t = some i ∧ i.zero = some z ∧ i.size = s ∧ i.bytes = b := by
  obtain ⟨i,hi,e⟩:=Option.map_eq_some_iff.1 h;simp only [Prod.mk.injEq] at e;exact ⟨i,hi,e⟩
theorem infoIns : (Tryz.prog.info? 45).map (fun i => (i.zero, i.size, i.bytes)) = some (some (.agg #[.int .i64 0, .int .i64 0, .int .i64 0, .int .i64 0, .int .i64 0, .int .i64 0, .slice none 0 0, .slice none 0 0]), 8, 96) := by kernel_rfl
theorem infoBlock : (Tryz.prog.info? 52).map (fun i => (i.zero, i.size, i.bytes)) = some (some (.agg #[.int .i64 0, .slice none 0 0, .slice none 0 0, .int .i64 0, .int .i64 0, .int .i64 0, .slice none 0 0, .slice none 0 0, .int .i64 0, .slice none 0 0, .slice none 0 0, .slice none 0 0]), 12, 208) := by kernel_rfl
theorem infoFunc : (Tryz.prog.info? 42).map (fun i => (i.zero, i.size, i.bytes)) = some (some (.agg #[.int .i64 0, .slice none 0 0, .slice none 0 0, .slice none 0 0]), 4, 80) := by kernel_rfl
theorem Wd.join {w0 w1 w2 : World} {Bs Bs' : List (Nat × Array Value × TypeId)} (h1 : Wd w0 w1 Bs) (h2 : Wd w1 w2 Bs') : Wd w0 w2 (Bs' ++ Bs) := by
  have sp:∀ (i:Nat) x,(Bs'++Bs)[i]?=some x→(Bs'[i]?=some x∧i<Bs'.length)∨(Bs[i - Bs'.length]?=some x∧Bs'.length≤i):=fun i x hx=>by
    rcases Nat.lt_or_ge i Bs'.length with h | h
    · rw [List.getElem?_append_left h] at hx;exact .inl ⟨hx,h⟩
    · rw [List.getElem?_append_right h] at hx;exact .inr ⟨hx,h⟩
  refine ⟨Below.andThen h1.bel h2.bel,fun i x hx=>?_,fun i x hx=>?_,fun i j x y hx hy e=>?_⟩
  · rcases sp i x hx with ⟨h,_⟩ | ⟨h,_⟩
    · exact h2.blk i x h
    · exact (h1.blk _ x h).below h2.bel
  · rcases sp i x hx with ⟨h,_⟩ | ⟨h,_⟩
    · exact Nat.le_trans h1.bel.size (h2.new i x h)
    · exact h1.new _ x h
  · rcases sp i x hx with ⟨h,hi⟩ | ⟨h,hi⟩ <;> rcases sp j y hy with ⟨h',hj⟩ | ⟨h',hj⟩
    · exact h2.nd i j x y h h' e
    · have:=h2.new i x h;have:=(h1.blk _ y h').lt;omega
    · have:=h2.new j y h';have:=(h1.blk _ x h).lt;omega
    · have:=h1.nd _ _ x y h h' e;omega
def KeepBut (lo B : Nat) (w w' : World) : Prop := ∀ k, k < lo → k ≠ B → w'.heap[k]? = w.heap[k]?
section
variable {lo B s : Nat} {w w1 w2 : World}
theorem KeepBut.refl (lo B : Nat) (w : World) : KeepBut lo B w w := fun _ _ _ => rfl
theorem KeepBut.below (h : KeepBut lo B w w1) (b : Below s w1 w2) (hs : lo ≤ s) : KeepBut lo B w w2 := fun k hk hne => (b.block k (by omega)).trans (h k hk hne)
theorem KeepBut.grown {row : Option Nat} (h : KeepBut lo B w w1) (b : w1.grownBy w2 row) (hs : lo ≤ w1.heap.size) (hr : ∀ k, row = some k → lo ≤ k) : KeepBut lo B w w2 := fun k hk hne => (b.block k (by omega) (fun e => by have := hr k e.symm; omega)).trans (h k hk hne)
theorem KeepBut.keep1 (h : KeepBut lo B w w1) (b : Keep1 B w1 w2) : KeepBut lo B w w2 := fun k hk hne => (b k hne).trans (h k hk hne)
theorem Lay.keepBut {α : Type} {A : Lay α} {O O' : Nat → Prop} {x : α} {cs : List Value} (h : A.In w O x cs) (hk : KeepBut lo B w w1) (ho : ∀ k, O k → k < w.heap.size → k < lo ∧ k ≠ B) (ho' : ∀ k, O k → k < w.heap.size → O' k) : A.In w1 O' x cs :=
  A.keep (fun k hO hl=>hk k (ho k hO hl).1 (ho k hO hl).2) ho' h
end
section
variable {α : Type} {A : Lay α} {e : TypeId} {w w' : World} {lo B : Nat} {v : Value} {l : List α} {xs : List Value}
theorem ARow.keep1 (h : ARow A e w lo v l xs) (hk : Keep1 B w w') (hB : B < lo) : ARow A e w' lo v l xs := by
  obtain ⟨⟨h1,h2⟩,h3⟩:=h;refine ⟨⟨h1,?_⟩,fun i x hx=>A.keep (fun k hO _=>hk k (by have:=hO.1;omega)) (fun _ h _=>h) (h3 i x hx)⟩;rcases h2 with h4 | ⟨g,cap,cur,e,hg,hh,r⟩
  · exact Or.inl h4
  · exact Or.inr ⟨g,cap,cur,e,hg,(hk g (by omega)).trans hh,r⟩
theorem ARow.form (h : ARow A e w lo v l xs) : ∃ a c, v = .slice a l.length c := by
  rcases h.own.2 with ⟨rfl,h4⟩ | ⟨g,cap,cur,rfl,_⟩
  · exact ⟨none,0,by rw [h4]⟩
  · exact ⟨_,_,rfl⟩
theorem ARow.nil' (A : Lay α) (e : TypeId) (w : World) (lo : Nat) : ARow A e w lo (.slice none 0 0) (l.take 0) [] := ARow.nil A e w lo
theorem ARow.own_lt (h : ARow A e w lo v l xs) {k : Nat} (hk : w.heap.size ≤ k) : v.ownBlock ≠ some k := fun e => by have := (h.lo_le e).2; omega
end
section
variable {n : Nat} {a : Act} {L : List (Tmp × Value)} {w0 w : World} {Bs : List (Nat × Array Value × TypeId)} {Q : Exit → Act → World → Prop} {ops : Array Oper} {rest : List Oper} {t : Tmp} {u v : Value} {ty ty2 ty3 : TypeId} {pos : String} {aft : Array Edge} {x y : Operand}
theorem sApp {α : Type} {A : Lay α} {tS e bt : TypeId} {i0 : TypeInfo} {z : Value} {s bytes lo G : Nat} {l : List α} {xs ds : List Value} {xd : α}
    (hu:Tryz.prog.underlying tS=some (.slice e)) (hi:Tryz.prog.info? e=some i0) (hz:i0.zero=some z) (hsz:i0.size=s) (hby:i0.bytes=bytes) (hzs:z.cells.size=s) (h0:0<s) (hs:A.size=s)
    (hW:Wd w0 w Bs) (hlo:w0.heap.size≤lo) (hBlo:∀ (i:Nat) x,Bs[i]?=some x→x.1<lo) (hR:ARow A e w lo u l xs) (hlow:lo≤w.heap.size) (hG:Blk w G ds.toArray bt)
    (hIn:A.In w (fun k=>lo≤k∧u.ownBlock≠some k) xd ds) (hone:ds.all (·.oneCell')=true) (hlen:l.length<4294967296) (hbyt:bytes≤1000)
    (hx:evalL L x=some u) (hy:evalL L y=some (.slice (some ⟨G,0,none⟩) 1 1)) (ht:Nat.blt t n=true)
    (k:∀ g cap w',ARow A e w' lo (.slice (some ⟨g,0,none⟩) (l.length+1) cap) (l++[xd]) (xs++ds)→w.grownBy w' u.ownBlock→Wd w0 w' Bs→St n ((t,.slice (some ⟨g,0,none⟩) (l.length+1) cap)::L) ops Q rest w') :
    St n L ops Q (⟨some t,.call { callee:=.builtin .append,args:=#[x,y],argTypes:=#[tS,tS] },ty,pos,aft,none⟩::rest) w:=fun a hF=>by
  subst hs;have hdl:=A.len hIn;have hmul:(l.length+1)*bytes≤4294967296*1000:=Nat.mul_le_mul (by omega) hbyt;refine wpList_append_lies (P:=Tryz.prog) w rfl x y tS rfl lo e i0 z A.size bytes hu hi hz hsz hby hzs h0 u l.length xs (hF.ev hx) hR.own ⟨G,0,none⟩ 1 1 ds (hF.ev hy) (by rw [hdl,Nat.one_mul]) ?_ (by simpa using hone) (by decide) (by unfold maxLen;omega) (by omega) hlow w.heap.size rfl ?_
  · intro j v hj;rw [show (⟨G,0,none⟩:Addr).add j=⟨G,j,none⟩ from by unfold Addr.add;split <;> simp_all];exact cellOf hG j v (by simpa using hj)
  · intro g cap w' h1 hgrow hat hlt;have hA:=ARow.push hR hIn hgrow hat h1;refine k g cap w' hA hgrow ⟨hW.bel.grown hgrow hW.bel.size (fun k hk=>Nat.le_trans hlo (hR.lo_le hk).1),fun i y hy=>?_,hW.new,hW.nd⟩ _ (hF.put ht);have h9:=hBlo i y hy;exact (hgrow.block y.1 (by omega) (fun e=>by have:=(hR.lo_le e.symm).1;omega)).trans (hW.blk i y hy)
end
theorem KeepBut.keep1t {lo B : Nat} {w w1 w2 : World} (h : KeepBut lo B w w1) (b : Keep1 B w1 w2) (hB : B < lo) : KeepBut lo B w w2 := h.keep1 b
theorem Lay.keepNe {α : Type} {A : Lay α} {O : Nat → Prop} {w w1 : World} {B : Nat} {x : α} {cs : List Value} (h : A.In w O x cs) (hk : Keep1 B w w1) (ho : ∀ k, O k → k ≠ B) : A.In w1 O x cs :=
  A.keep (fun k hO _=>hk k (ho k hO)) (fun _ h _=>h) h
theorem lts2 {x1 x2 : Nat × Array Value × TypeId} {lo : Nat} (h1 : x1.1 < lo) (h2 : x2.1 < lo) : ∀ (i : Nat) x, [x1, x2][i]? = some x → x.1 < lo := fun i x h => by
  match i,h with
  | 0,h=>cases h;exact h1
  | 1,h=>cases h;exact h2
  | i+2,h=>simp at h
theorem lts3 {x1 x2 x3 : Nat × Array Value × TypeId} {lo : Nat} (h1 : x1.1 < lo) (h2 : x2.1 < lo) (h3 : x3.1 < lo) : ∀ (i : Nat) x, [x1, x2, x3][i]? = some x → x.1 < lo := fun i x h => by
  match i,h with
  | 0,h=>cases h;exact h1
  | 1,h=>cases h;exact h2
  | 2,h=>cases h;exact h3
  | i+3,h=>simp at h
theorem rOwnTypes_any {n : Nat} {l : List (TT n)} {p : Option Addr} {c : Nat} {w : World} (h : (typesL n).In w All l [.slice p l.length c]) (hs : tsmall l) : Calls Tryz.prog 42 #[.slice p l.length c] w fun e w' => LyOut (Lay.tt n) w w' l e :=
  (owns_any n (own_any n) l p c w (types_lin h).1 (by have:=hs.1;omega) hs.2).mono fun e w' ⟨a',c',h1,h2,h3⟩=>⟨a',c',h1,types_of_lin h2 (types_lin h).2,h3⟩
theorem ARow.next {α : Type} {A : Lay α} {e : TypeId} {w : World} {lo q : Nat} {v : Value} {l : List α} {xs : List Value} {x : α} (h : ARow A e w lo v (l.take q ++ [x]) xs) (hx : l[q]? = some x) : ARow A e w lo v (l.take (q + 1)) xs := by
  rw [List.take_add_one,hx];exact h
theorem ARow.full {α : Type} {A : Lay α} {e : TypeId} {w : World} {lo q : Nat} {v : Value} {l : List α} {xs : List Value} (h : ARow A e w lo v (l.take q) xs) (hq : q = l.length) : ARow A e w lo v l xs := by
  rwa [List.take_of_length_le (by omega)] at h
theorem EIn.keep1 {w w' : World} {lo B : Nat} {x : MEnd} {e : EP} (h : EIn w (From lo) x e) (hk : Keep1 B w w') (hB : B < lo) : EIn w' (From lo) x e :=
  h.keep (fun k hl _=>hk k (by have:lo≤k:=hl;omega)) (fun _ h _=>h)
end Go.Proofs.YtalfbnllodhkiacGreatDoor
