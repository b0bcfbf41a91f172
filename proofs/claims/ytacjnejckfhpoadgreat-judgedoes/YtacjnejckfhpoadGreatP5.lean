import Derived.Test.YtacjnejckfhpoadGreatP4
set_option maxHeartbeats 16000000
set_option maxRecDepth 100000
namespace Go.Proofs.YtacjnejckfhpoadGreat
open Go.ChangeShapes Go.WideShapes Go.ChangeAt Go.RowKit
set_option linter.unusedSimpArgs false
set_option linter.unusedVariables false
theorem QhR {n:Nat}{m:List (Qg n)}{p:Option Addr}{c:Nat}{x:Qg n}{fp:FP}{fi:Nat}{y:Qh n}{bp:BP}{bi:Nat}{Bc:Nat}{w:World}{z:Qz}{zi:IP}{q:Nat}(hq:q<1000000) (hm:m.length≤100000) (hfi:fi<1000000) (hbi:bi<1000000) (hcap0:Blk w Bc #[.slice p m.length c,.int .i64 x.regs,.slice fp.pP x.params.length fp.cP,.slice fp.pR x.results.length fp.cR,.slice fp.pB x.blocks.length fp.cB,.int .i64 (fi:Int),.int .i64 y.regs,.slice bp.pP y.params.length bp.cP,.slice bp.pC y.code.length bp.cC,.int .i64 y.fin.op,.int .i64 y.fin.a,.int .i64 y.fin.yes.block,.slice bp.e.pYR y.fin.yes.regs.length bp.e.cYR,.slice bp.e.pYA y.fin.yes.args.length bp.e.cYA,.int .i64 y.fin.no.block,.slice bp.e.pNR y.fin.no.regs.length bp.e.cNR,.slice bp.e.pNA y.fin.no.args.length bp.e.cNA,.slice bp.e.pA y.fin.args.length bp.e.cA,.int .i64 (bi:Int)] 181) :
 Rd Tryz.prog 177 #[.int .i64 (q:Int),.agg #[.int .i64 z.op,.int .i64 z.a,.int .i64 z.b,.int .i64 z.c,.int .i64 z.k,.int .i64 z.n,.slice zi.pR z.regs.length zi.cR,.slice zi.pA z.args.length zi.cA],.pointer (some ⟨Bc,0,none⟩)] w (QY (atF (z.form m.length) (10000*(fi:Int)+100*(bi:Int)+(q:Int)))):=by
 have hcap:Hid _:=hcap0;clear hcap0;refine Qy (n:=19) Tryz.func177 rfl rfl rfl ?_;intro a hF;have hW:=Wd.start w;replace hF:Fr 19 a [(0,.int .i64 (q:Int)),(1,.agg #[.int .i64 z.op,.int .i64 z.a,.int .i64 z.b,.int .i64 z.c,.int .i64 z.k,.int .i64 z.n,.slice zi.pR z.regs.length zi.cR,.slice zi.pA z.args.length zi.cA]),(2,.pointer (some ⟨Bc,0,none⟩))]:=hF;refine wp_seq_k fun K1 hK1=>?_;refine rg hF fun ops=>?_;clear hF a;refine sB hW trivial rfl rfl ?_;clear hW;intro w2 B2 hW2 hN;clear hN;refine ZG hW2 trivial rfl ?_;clear hW2;intro w3 B3 hW3 hN;clear hN;refine St.nil fun a4 h4=>?_;refine hK1 _ _ ?_;refine wp_seq_k fun K5 hK5=>?_;have hF6:Fr 19 a4 [(2,.pointer (some ⟨Bc,0,none⟩)),(1,.agg #[.int .i64 z.op,.int .i64 z.a,.int .i64 z.b,.int .i64 z.c,.int .i64 z.k,.int .i64 z.n,.slice zi.pR z.regs.length zi.cR,.slice zi.pA z.args.length zi.cA]),(0,.int .i64 (q:Int)),(4,.pointer (some ⟨B2,0,none⟩)),(5,.pointer (some ⟨B3,0,none⟩))]:=(h4.keep (h4.keep (h4.keep (h4.keep (h4.keep h4.nil (t:=5) rfl) (t:=4) rfl) (t:=0) rfl) (t:=1) rfl) (t:=2) rfl);have ho2:a4.tmps.getD 2 undef=.pointer (some ⟨Bc,0,none⟩):=h4.sl 2 _ rfl;have ho4:a4.tmps.getD 4 undef=.pointer (some ⟨B2,0,none⟩):=h4.sl 4 _ rfl;have ho0:a4.tmps.getD 0 undef=.int .i64 (q:Int):=h4.sl 0 _ rfl;refine QbK 13 ([(2,fun v _=>v=.pointer (some ⟨Bc,0,none⟩)),(4,fun v _=>v=.pointer (some ⟨B2,0,none⟩)),(0,fun v _=>v=.int .i64 (q:Int)),(6,fun v _=>v=.pointer (some ⟨Bc,0,none⟩)),(7,fun v _=>v=.pointer (some ⟨Bc,0,none⟩)),(8,fun v _=>v=.agg #[.slice p m.length c]),(9,fun v _=>v=.agg #[.int .i64 z.op,.int .i64 z.a,.int .i64 z.b,.int .i64 z.c,.int .i64 z.k,.int .i64 z.n,.slice zi.pR z.regs.length zi.cR,.slice zi.pA z.args.length zi.cA]),(10,fun v _=>v=.int .i64 (z.form m.length)),(11,fun v _=>v=.pointer (some ⟨Bc,0,none⟩)),(12,fun v _=>v=.pointer (some ⟨Bc,5,none⟩)),(13,fun v _=>v=.int .i64 (fi:Int)),(14,fun v _=>v=.pointer (some ⟨Bc,18,none⟩)),(15,fun v _=>v=.int .i64 (bi:Int)),(16,fun v _=>v=.int .i64 (q:Int)),(17,fun v _=>v=.int .i64 (10000*(fi:Int)+100*(bi:Int)+(q:Int))),(18,fun v _=>v=.agg #[.int .i64 ((atF (z.form m.length) (10000*(fi:Int)+100*(bi:Int)+(q:Int))).1),.int .i64 ((atF (z.form m.length) (10000*(fi:Int)+100*(bi:Int)+(q:Int))).2)])]:Qbh) (fun w'=>Wd w w' [(B3,#[.int .i64 0,.int .i64 0],30),(B2,#[.int .i64 z.op,.int .i64 z.a,.int .i64 z.b,.int .i64 z.c,.int .i64 z.k,.int .i64 z.n,.slice zi.pR z.regs.length zi.cR,.slice zi.pA z.args.length zi.cA],59)]∧Below w3.heap.size w3 w') (fun w w'=>Below w.heap.size w w') (outs:=[2,4,0]) (gs:=[]) (bs:=[true,true,true,true,true,true,true,true,true,true,true,true,true]) (by kernel_rfl) hF6 rfl (by kernel_rfl) (by kernel_rfl) ?hR ?hG ⟨hW3.drewN 1,ZH (m:=1) (Below.refl _ _)⟩ ⟨ho2,ho4,ho0,trivial⟩ ?hA ?hend
 case hR=>exact⟨fun _ _ _ _ h=>h,fun _ _ _ _ h=>h,fun _ _ _ _ h=>h,fun _ _ _ _ h=>h,fun _ _ _ _ h=>h,fun _ _ _ _ h=>h,fun _ _ _ _ h=>h,fun _ _ _ _ h=>h,fun _ _ _ _ h=>h,fun _ _ _ _ h=>h,fun _ _ _ _ h=>h,fun _ _ _ _ h=>h,fun _ _ _ _ h=>h,fun _ _ _ _ h=>h,fun _ _ _ _ h=>h,fun _ _ _ _ h=>h,trivial⟩
 case hG=>exact trivial
 case hA =>
  refine⟨fun a w hW hk K hK=>?_,?_⟩
  ·obtain⟨k0,-⟩:=hk
   have k0:a.tmps.getD 2 undef=.pointer (some ⟨Bc,0,none⟩):=k0;go_simp;exact hK _ _ (Below.refl _ _) hW rfl
  refine⟨fun a w hW hk K hK=>?_,?_⟩
  ·obtain⟨k0,-⟩:=hk
   have k0:a.tmps.getD 6 undef=.pointer (some ⟨Bc,0,none⟩):=k0;go_simp;exact hK _ _ (Below.refl _ _) hW rfl
  refine⟨fun a w hW hk K hK=>?_,?_⟩
  ·obtain⟨k0,-⟩:=hk
   have k0:a.tmps.getD 7 undef=.pointer (some ⟨Bc,0,none⟩):=k0;have d0:w.cell? ⟨Bc,0,none⟩=some (.slice p m.length c):=Qcv hW.1.bel (Qb hcap.out 0 _ rfl);go_simp;exact hK _ _ (Below.refl _ _) hW rfl
  refine⟨fun a w hW hk K hK=>?_,?_⟩
  ·obtain⟨k0,-⟩:=hk
   have k0:a.tmps.getD 4 undef=.pointer (some ⟨B2,0,none⟩):=k0;have c0:w.cell? ⟨B2,0,none⟩=some (.int .i64 z.op):=Qb (hW.1.get 1 rfl) 0 _ rfl;have c1:w.cell? ⟨B2,1,none⟩=some (.int .i64 z.a):=Qb (hW.1.get 1 rfl) 1 _ rfl;have c2:w.cell? ⟨B2,2,none⟩=some (.int .i64 z.b):=Qb (hW.1.get 1 rfl) 2 _ rfl;have c3:w.cell? ⟨B2,3,none⟩=some (.int .i64 z.c):=Qb (hW.1.get 1 rfl) 3 _ rfl;have c4:w.cell? ⟨B2,4,none⟩=some (.int .i64 z.k):=Qb (hW.1.get 1 rfl) 4 _ rfl;have c5:w.cell? ⟨B2,5,none⟩=some (.int .i64 z.n):=Qb (hW.1.get 1 rfl) 5 _ rfl;have c6:w.cell? ⟨B2,6,none⟩=some (.slice zi.pR z.regs.length zi.cR):=Qb (hW.1.get 1 rfl) 6 _ rfl;have c7:w.cell? ⟨B2,7,none⟩=some (.slice zi.pA z.args.length zi.cA):=Qb (hW.1.get 1 rfl) 7 _ rfl;go_simp;exact hK _ _ (Below.refl _ _) hW rfl
  refine⟨fun a w hW hk K hK=>?_,?_⟩
  ·obtain⟨k0,k1,-⟩:=hk
   have k0:a.tmps.getD 8 undef=.agg #[.slice p m.length c]:=k0;have k1:a.tmps.getD 9 undef=.agg #[.int .i64 z.op,.int .i64 z.a,.int .i64 z.b,.int .i64 z.c,.int .i64 z.k,.int .i64 z.n,.slice zi.pR z.regs.length zi.cR,.slice zi.pA z.args.length zi.cA]:=k1;have hC:Rd Tryz.prog 68 #[.agg #[.slice p m.length c],.agg #[.int .i64 z.op,.int .i64 z.a,.int .i64 z.b,.int .i64 z.c,.int .i64 z.k,.int .i64 z.n,.slice zi.pR z.regs.length zi.cR,.slice zi.pA z.args.length zi.cA]] w (.int .i64 (z.form m.length)):=Qge m.length z zi p c w (by omega);go_simp;refine hC.mono ?_;rintro e w9 ⟨rfl,hb⟩;exact hK _ _ hb ⟨hW.1.below hb,Below.andThen hW.2 hb⟩ rfl
  refine⟨fun a w hW hk K hK=>?_,?_⟩
  ·obtain⟨k0,-⟩:=hk
   have k0:a.tmps.getD 2 undef=.pointer (some ⟨Bc,0,none⟩):=k0;go_simp;exact hK _ _ (Below.refl _ _) hW rfl
  refine⟨fun a w hW hk K hK=>?_,?_⟩
  ·obtain⟨k0,-⟩:=hk
   have k0:a.tmps.getD 11 undef=.pointer (some ⟨Bc,0,none⟩):=k0;go_simp;exact hK _ _ (Below.refl _ _) hW rfl
  refine⟨fun a w hW hk K hK=>?_,?_⟩
  ·obtain⟨k0,-⟩:=hk
   have k0:a.tmps.getD 12 undef=.pointer (some ⟨Bc,5,none⟩):=k0;have d5:w.cell? ⟨Bc,5,none⟩=some (.int .i64 (fi:Int)):=Qcv hW.1.bel (Qb hcap.out 5 _ rfl);go_simp;exact hK _ _ (Below.refl _ _) hW rfl
  refine⟨fun a w hW hk K hK=>?_,?_⟩
  ·obtain⟨k0,-⟩:=hk
   have k0:a.tmps.getD 2 undef=.pointer (some ⟨Bc,0,none⟩):=k0;go_simp;exact hK _ _ (Below.refl _ _) hW rfl
  refine⟨fun a w hW hk K hK=>?_,?_⟩
  ·obtain⟨k0,-⟩:=hk
   have k0:a.tmps.getD 14 undef=.pointer (some ⟨Bc,18,none⟩):=k0;have d18:w.cell? ⟨Bc,18,none⟩=some (.int .i64 (bi:Int)):=Qcv hW.1.bel (Qb hcap.out 18 _ rfl);go_simp;exact hK _ _ (Below.refl _ _) hW rfl
  refine⟨fun a w hW hk K hK=>?_,?_⟩
  ·obtain⟨k0,-⟩:=hk
   have k0:a.tmps.getD 0 undef=.int .i64 (q:Int):=k0;go_simp;exact hK _ _ (Below.refl _ _) hW rfl
  refine⟨fun a w hW hk K hK=>?_,?_⟩
  ·obtain⟨k0,k1,k2,-⟩:=hk
   have k0:a.tmps.getD 13 undef=.int .i64 (fi:Int):=k0;have k1:a.tmps.getD 15 undef=.int .i64 (bi:Int):=k1;have k2:a.tmps.getD 16 undef=.int .i64 (q:Int):=k2;have hC:Rd Tryz.prog 178 #[.int .i64 (fi:Int),.int .i64 (bi:Int),.int .i64 (q:Int)] w (.int .i64 (10000*(fi:Int)+100*(bi:Int)+(q:Int))):=Qgq (f:=fi) (b:=bi) (i:=q) ⟨by omega,by omega,by omega⟩;go_simp;refine hC.mono ?_;rintro e w9 ⟨rfl,hb⟩;exact hK _ _ hb ⟨hW.1.below hb,Below.andThen hW.2 hb⟩ rfl
  refine⟨fun a w hW hk K hK=>?_,?_⟩
  ·obtain⟨k0,k1,-⟩:=hk
   have k0:a.tmps.getD 10 undef=.int .i64 (z.form m.length):=k0;have k1:a.tmps.getD 17 undef=.int .i64 (10000*(fi:Int)+100*(bi:Int)+(q:Int)):=k1;have hC:Rd Tryz.prog 138 #[.int .i64 (z.form m.length),.int .i64 (10000*(fi:Int)+100*(bi:Int)+(q:Int))] w (.agg #[.int .i64 ((atF (z.form m.length) (10000*(fi:Int)+100*(bi:Int)+(q:Int))).1),.int .i64 ((atF (z.form m.length) (10000*(fi:Int)+100*(bi:Int)+(q:Int))).2)]):=QaS (xc:=z.form m.length) (xp:=10000*(fi:Int)+100*(bi:Int)+(q:Int));go_simp;refine hC.mono ?_;rintro e w9 ⟨rfl,hb⟩;exact hK _ _ hb ⟨hW.1.below hb,Below.andThen hW.2 hb⟩ rfl
  trivial
 case hend =>
  intro ops a7 w7 hWD hE hFD;have hd18:a7.tmps.getD 18 undef=.agg #[.int .i64 ((atF (z.form m.length) (10000*(fi:Int)+100*(bi:Int)+(q:Int))).1),.int .i64 ((atF (z.form m.length) (10000*(fi:Int)+100*(bi:Int)+(q:Int))).2)]:=hE 18 rfl;have hF7:Fr 19 a7 [(18,.agg #[.int .i64 ((atF (z.form m.length) (10000*(fi:Int)+100*(bi:Int)+(q:Int))).1),.int .i64 ((atF (z.form m.length) (10000*(fi:Int)+100*(bi:Int)+(q:Int))).2)]),(2,.pointer (some ⟨Bc,0,none⟩)),(1,.agg #[.int .i64 z.op,.int .i64 z.a,.int .i64 z.b,.int .i64 z.c,.int .i64 z.k,.int .i64 z.n,.slice zi.pR z.regs.length zi.cR,.slice zi.pA z.args.length zi.cA]),(0,.int .i64 (q:Int)),(4,.pointer (some ⟨B2,0,none⟩)),(5,.pointer (some ⟨B3,0,none⟩))]:=(hFD.cons hd18);clear hd18;have hW7:Wd w w7 [(B3,#[.int .i64 0,.int .i64 0],30),(B2,#[.int .i64 z.op,.int .i64 z.a,.int .i64 z.b,.int .i64 z.c,.int .i64 z.k,.int .i64 z.n,.slice zi.pR z.regs.length zi.cR,.slice zi.pA z.args.length zi.cA],59)]:=hWD.1;clear hFD hWD hE hF6 h4;clear hW3;refine St.go hF7 ?_;clear hF7 a7;refine sT 0 hW7 rfl rfl infFault rfl rfl rfl ?_;clear hW7;intro w8 hW8;refine St.nil fun a9 h9=>?_;refine hK5 _ _ ?_;refine wp_ret ?_;with_reducible repeat first | refine Qd ?_ | refine Qc ?_
  exact QS 0 h9 hW8 rfl rfl rfl Tryz.underlying30 rfl infFault ⟨rfl,hW8.bel⟩
theorem QcU {n:Nat}{m:List (Qg n)}{p:Option Addr}{c:Nat}{x:Qg n}{fp:FP}{fi:Nat}{y:Qh n}{bp:BP}{bi:Nat}{w:World}(hx0:FIn w All x fp) (hs0:x.small) (hy0:BIn w All y bp) (ht0:y.small) (hm:m.length≤100000) (hfi:fi<1000000) (hbi:bi<1000000) :
 Rd Tryz.prog 142 #[.agg #[.slice p m.length c,.int .i64 x.regs,.slice fp.pP x.params.length fp.cP,.slice fp.pR x.results.length fp.cR,.slice fp.pB x.blocks.length fp.cB,.int .i64 (fi:Int),.int .i64 y.regs,.slice bp.pP y.params.length bp.cP,.slice bp.pC y.code.length bp.cC,.int .i64 y.fin.op,.int .i64 y.fin.a,.int .i64 y.fin.yes.block,.slice bp.e.pYR y.fin.yes.regs.length bp.e.cYR,.slice bp.e.pYA y.fin.yes.args.length bp.e.cYA,.int .i64 y.fin.no.block,.slice bp.e.pNR y.fin.no.regs.length bp.e.cNR,.slice bp.e.pNA y.fin.no.args.length bp.e.cNA,.slice bp.e.pA y.fin.args.length bp.e.cA,.int .i64 (bi:Int)]] w (QY (Qh.fault m.length fi x bi y)):=by
 have hx:Hid _:=hx0;have hs:Hid _:=hs0;have hy:Hid _:=hy0;have ht:Hid _:=ht0;clear hx0 hs0 hy0 ht0;refine Qy (n:=40) Tryz.func142 rfl rfl rfl ?_;intro a hF;have hW:=Wd.start w;replace hF:Fr 40 a [(0,.agg #[.slice p m.length c,.int .i64 x.regs,.slice fp.pP x.params.length fp.cP,.slice fp.pR x.results.length fp.cR,.slice fp.pB x.blocks.length fp.cB,.int .i64 (fi:Int),.int .i64 y.regs,.slice bp.pP y.params.length bp.cP,.slice bp.pC y.code.length bp.cC,.int .i64 y.fin.op,.int .i64 y.fin.a,.int .i64 y.fin.yes.block,.slice bp.e.pYR y.fin.yes.regs.length bp.e.cYR,.slice bp.e.pYA y.fin.yes.args.length bp.e.cYA,.int .i64 y.fin.no.block,.slice bp.e.pNR y.fin.no.regs.length bp.e.cNR,.slice bp.e.pNA y.fin.no.args.length bp.e.cNA,.slice bp.e.pA y.fin.args.length bp.e.cA,.int .i64 (bi:Int)])]:=hF;refine wp_seq_k fun K1 hK1=>?_;refine rg hF fun ops=>?_;clear hF a;refine sB hW trivial rfl rfl ?_;clear hW;intro w2 B2 hW2 hN;clear hN;refine ZG hW2 trivial rfl ?_;clear hW2;intro w3 B3 hW3 hN;clear hN;refine St.nil fun a4 h4=>?_;refine hK1 _ _ ?_;refine wp_seq_k fun K5 hK5=>?_;refine wp_seq_k fun K6 hK6=>?_;refine rg h4 fun ops=>?_;clear h4 a4;refine sS 1 19 Tryz.underlying181 rfl infblockLook hW3 trivial rfl rfl rfl rfl ?_;refine QiF cf174 hW3 (QdI (m:=m) (p:=p) (c:=c) (fi:=fi) (bi:=bi) (hx.out.below hW3.bel) hs.out (hy.out.below hW3.bel) ht.out) trivial rfl rfl ?_;clear hW3;intro w7 hW7;refine sa trivial rfl rfl ?_;refine St.nil fun a8 h8=>?_;refine hK6 _ _ ?_;refine wp_seq_k fun K9 hK9=>?_;refine rg h8 fun ops=>?_;clear h8 a8;refine sm trivial rfl rfl ?_;refine sne trivial rfl rfl rfl ?_;refine St.nil fun a10 h10=>?_;refine hK9 _ _ ?_;refine Qv (t:=8) h10 rfl (fun hb=>?_) (fun hb=>?_)
 ·have h9:¬ (y.code' x bi)=0:=bne_iff_ne.1 hb
  have hc11:¬ (y.code' x bi)=0:=h9;clear h9;clear hb;refine wp_seq_k fun K12 hK12=>?_;refine rg h10 fun ops=>?_;clear h10 a10;refine sm trivial rfl rfl ?_;refine Qam trivial rfl rfl ?_;refine Qbm trivial rfl rfl ?_;refine Zr 1 hW7 trivial rfl rfl rfl rfl ?_;refine Qck trivial rfl rfl ?_;refine Zr 1 hW7 trivial rfl rfl rfl rfl ?_;refine QgI cf175 hW7 (Qet (f:=fi) (b:=bi) ⟨by omega,by omega⟩) trivial rfl rfl rfl ?_;clear hW7;intro w13 hW13;refine QgI cf138 hW13 (QaS (xc:=y.code' x bi) (xp:=10000*(fi:Int)+100*(bi:Int)+90)) trivial rfl rfl rfl ?_;clear hW13;intro w14 hW14;refine sT 0 hW14 rfl rfl infFault rfl rfl rfl ?_;clear hW14;intro w15 hW15;refine St.nil fun a16 h16=>?_;refine hK12 _ _ ?_;refine wp_ret ?_;with_reducible repeat first | refine Qd ?_ | refine Qc ?_
  have e0:=hc11;have EF:=Qh.fault_eq m.length fi x bi y;have EI:=QbD (f:=fun i z=>(Qz.form m.length z,(10000*(fi:Int)+100*(bi:Int)+(i:Int)))) (l:=y.code) (j:=0);dsimp only at EI
  rw[if_neg e0] at EF
  exact QS 0 h16 hW15 rfl rfl rfl Tryz.underlying30 rfl infFault ⟨by show Ending.returned (.agg #[.int .i64 ((atF (y.code' x bi) (10000*(fi:Int)+100*(bi:Int)+90)).1),.int .i64 ((atF (y.code' x bi) (10000*(fi:Int)+100*(bi:Int)+90)).2)])=_;rw[EF] ;simp[atF,e0],hW15.bel⟩
 have h9:(y.code' x bi)=0:=bne_eq_false_iff_eq.1 hb;have hc17:Hid ((y.code' x bi)=0):=h9;clear h9;clear hb;refine wp_skip ?_;refine hK5 _ _ ?_;refine wp_seq_k fun K18 hK18=>?_;refine rg h10 fun ops=>?_;clear h10 a10;refine Ze trivial rfl rfl ?_;refine QbG trivial rfl rfl ?_;refine Qgc 1 hW7 trivial rfl rfl rfl rfl ?_;intro a19 h19;refine Q8 (t:=20) (v:=.func (.func 177) #[] #[.pointer (some ⟨B2,0,none⟩)]) (w':=w7) h19 rfl rfl rfl (fun K hK=>?_) ?_
 ·have k0:a19.tmps.getD 1 undef=.pointer (some ⟨B2,0,none⟩):=h19.sl 1 _ rfl
  go_simp;exact hK
 clear h19;intro a20 hF20;refine St.go hF20 ?_;clear hF20 a20;refine QgI cf176 hW7 (Qg2 (Bc:=B2) (fun i z=>atF (Qz.form m.length z) (10000*(fi:Int)+100*(bi:Int)+(i:Int))) (Lay.below hy.out.code hW7.bel) ht.out.1 (fun i z zi wx hz hi hb=>QhR (y:=y) (by have h9:=(List.getElem?_eq_some_iff.1 hz).1;have:=ht.out.1;omega) hm hfi hbi ((hW7.get 1 rfl).below hb))) trivial rfl rfl rfl ?_;clear hW7;intro w21 hW21;refine ZG hW21 trivial rfl ?_;clear hW21;intro w22 B22 hW22 hN;clear hN;refine sT 0 hW22 rfl rfl infFault rfl rfl rfl ?_;clear hW22;intro w23 hW23;refine St.nil fun a24 h24=>?_;refine hK18 _ _ ?_;refine wp_seq_k fun K25 hK25=>?_;refine wp_seq_k fun K26 hK26=>?_;refine rg h24 fun ops=>?_;clear h24 a24;refine Qcz trivial rfl rfl ?_;refine Zr 0 hW23 trivial rfl rfl rfl rfl ?_;refine sne trivial rfl rfl rfl ?_;refine St.nil fun a27 h27=>?_;refine hK26 _ _ ?_;refine Qv (t:=24) h27 rfl (fun hb=>?_) (fun hb=>?_)
 ·have h9:¬ ((firstF (fun i z=>atF (Qz.form m.length z) (10000*(fi:Int)+100*(bi:Int)+(i:Int))) 0 y.code).1)=0:=bne_iff_ne.1 hb
  have hc28:¬ ((firstF (fun i z=>atF (Qz.form m.length z) (10000*(fi:Int)+100*(bi:Int)+(i:Int))) 0 y.code).1)=0:=h9;clear h9;clear hb;refine wp_seq_k fun K29 hK29=>?_;refine rg h27 fun ops=>?_;clear h27 a27;refine sS 0 2 Tryz.underlying30 rfl infFault hW23 trivial rfl rfl rfl rfl ?_;refine sT 1 hW23 rfl rfl infFault rfl rfl rfl ?_;clear hW23;intro w30 hW30;refine St.nil fun a31 h31=>?_;refine hK29 _ _ ?_;refine wp_ret ?_;with_reducible repeat first | refine Qd ?_ | refine Qc ?_
  have e0:=hc17.out;have e1:=hc28;have EF:=Qh.fault_eq m.length fi x bi y;have EI:=QbD (f:=fun i z=>(Qz.form m.length z,(10000*(fi:Int)+100*(bi:Int)+(i:Int)))) (l:=y.code) (j:=0);dsimp only at EI
  rw[if_pos e0,if_neg (by rw[← EI];exact e1),← EI] at EF
  exact QS 1 h31 hW30 rfl rfl rfl Tryz.underlying30 rfl infFault ⟨by show Ending.returned (.agg #[.int .i64 ((firstF (fun i z=>atF (Qz.form m.length z) (10000*(fi:Int)+100*(bi:Int)+(i:Int))) 0 y.code).1),.int .i64 ((firstF (fun i z=>atF (Qz.form m.length z) (10000*(fi:Int)+100*(bi:Int)+(i:Int))) 0 y.code).2)])=_;rw[EF],hW30.bel⟩
 have h9:((firstF (fun i z=>atF (Qz.form m.length z) (10000*(fi:Int)+100*(bi:Int)+(i:Int))) 0 y.code).1)=0:=bne_eq_false_iff_eq.1 hb;have hc32:Hid (((firstF (fun i z=>atF (Qz.form m.length z) (10000*(fi:Int)+100*(bi:Int)+(i:Int))) 0 y.code).1)=0):=h9;clear h9;clear hb;refine wp_skip ?_;refine hK25 _ _ ?_;refine wp_seq_k fun K33 hK33=>?_;have hF34:Fr 40 a27 [(0,.agg #[.slice p m.length c,.int .i64 x.regs,.slice fp.pP x.params.length fp.cP,.slice fp.pR x.results.length fp.cR,.slice fp.pB x.blocks.length fp.cB,.int .i64 (fi:Int),.int .i64 y.regs,.slice bp.pP y.params.length bp.cP,.slice bp.pC y.code.length bp.cC,.int .i64 y.fin.op,.int .i64 y.fin.a,.int .i64 y.fin.yes.block,.slice bp.e.pYR y.fin.yes.regs.length bp.e.cYR,.slice bp.e.pYA y.fin.yes.args.length bp.e.cYA,.int .i64 y.fin.no.block,.slice bp.e.pNR y.fin.no.regs.length bp.e.cNR,.slice bp.e.pNA y.fin.no.args.length bp.e.cNA,.slice bp.e.pA y.fin.args.length bp.e.cA,.int .i64 (bi:Int)]),(1,.pointer (some ⟨B2,0,none⟩)),(2,.pointer (some ⟨B3,0,none⟩)),(3,.int .i64 (y.code' x bi)),(4,.pointer (some ⟨B22,0,none⟩))]:=(h27.keep (h27.keep (h27.keep (h27.keep (h27.keep h27.nil (t:=4) rfl) (t:=3) rfl) (t:=2) rfl) (t:=1) rfl) (t:=0) rfl);have ho1:a27.tmps.getD 1 undef=.pointer (some ⟨B2,0,none⟩):=h27.sl 1 _ rfl;refine QbK 14 ([(1,fun v _=>v=.pointer (some ⟨B2,0,none⟩)),(26,fun v _=>v=.pointer (some ⟨B2,0,none⟩)),(27,fun v _=>v=.pointer (some ⟨B2,1,none⟩)),(28,fun v _=>v=.agg #[.int .i64 x.regs,.slice fp.pP x.params.length fp.cP,.slice fp.pR x.results.length fp.cR,.slice fp.pB x.blocks.length fp.cB]),(29,fun v _=>v=.pointer (some ⟨B2,6,none⟩)),(30,fun v _=>v=.pointer (some ⟨B2,9,none⟩)),(31,fun v _=>v=.agg #[.int .i64 y.fin.op,.int .i64 y.fin.a,.int .i64 y.fin.yes.block,.slice bp.e.pYR y.fin.yes.regs.length bp.e.cYR,.slice bp.e.pYA y.fin.yes.args.length bp.e.cYA,.int .i64 y.fin.no.block,.slice bp.e.pNR y.fin.no.regs.length bp.e.cNR,.slice bp.e.pNA y.fin.no.args.length bp.e.cNA,.slice bp.e.pA y.fin.args.length bp.e.cA]),(32,fun v _=>v=.int .i64 (y.fin.form x.blocks.length)),(33,fun v _=>v=.pointer (some ⟨B2,0,none⟩)),(34,fun v _=>v=.pointer (some ⟨B2,5,none⟩)),(35,fun v _=>v=.int .i64 (fi:Int)),(36,fun v _=>v=.pointer (some ⟨B2,18,none⟩)),(37,fun v _=>v=.int .i64 (bi:Int)),(38,fun v _=>v=.int .i64 (10000*(fi:Int)+100*(bi:Int)+91)),(39,fun v _=>v=.agg #[.int .i64 ((atF (y.fin.form x.blocks.length) (10000*(fi:Int)+100*(bi:Int)+91)).1),.int .i64 ((atF (y.fin.form x.blocks.length) (10000*(fi:Int)+100*(bi:Int)+91)).2)])]:Qbh) (fun w'=>Wd w w' [(B22,#[.int .i64 ((firstF (fun i z=>atF (Qz.form m.length z) (10000*(fi:Int)+100*(bi:Int)+(i:Int))) 0 y.code).1),.int .i64 ((firstF (fun i z=>atF (Qz.form m.length z) (10000*(fi:Int)+100*(bi:Int)+(i:Int))) 0 y.code).2)],30),(B3,#[.int .i64 0,.int .i64 0],30),(B2,#[.slice p m.length c,.int .i64 x.regs,.slice fp.pP x.params.length fp.cP,.slice fp.pR x.results.length fp.cR,.slice fp.pB x.blocks.length fp.cB,.int .i64 (fi:Int),.int .i64 y.regs,.slice bp.pP y.params.length bp.cP,.slice bp.pC y.code.length bp.cC,.int .i64 y.fin.op,.int .i64 y.fin.a,.int .i64 y.fin.yes.block,.slice bp.e.pYR y.fin.yes.regs.length bp.e.cYR,.slice bp.e.pYA y.fin.yes.args.length bp.e.cYA,.int .i64 y.fin.no.block,.slice bp.e.pNR y.fin.no.regs.length bp.e.cNR,.slice bp.e.pNA y.fin.no.args.length bp.e.cNA,.slice bp.e.pA y.fin.args.length bp.e.cA,.int .i64 (bi:Int)],181)]∧Below w23.heap.size w23 w') (fun w w'=>Below w.heap.size w w') (outs:=[1]) (gs:=[]) (bs:=[true,true,true,true,true,true,true,true,true,true,true,true,true,true]) (by kernel_rfl) hF34 rfl (by kernel_rfl) (by kernel_rfl) ?hR ?hG ⟨hW23.drewN 1,ZH (m:=1) (Below.refl _ _)⟩ ⟨ho1,trivial⟩ ?hA ?hend
 case hR=>exact⟨fun _ _ _ _ h=>h,fun _ _ _ _ h=>h,fun _ _ _ _ h=>h,fun _ _ _ _ h=>h,fun _ _ _ _ h=>h,fun _ _ _ _ h=>h,fun _ _ _ _ h=>h,fun _ _ _ _ h=>h,fun _ _ _ _ h=>h,fun _ _ _ _ h=>h,fun _ _ _ _ h=>h,fun _ _ _ _ h=>h,fun _ _ _ _ h=>h,fun _ _ _ _ h=>h,fun _ _ _ _ h=>h,trivial⟩
 case hG=>exact trivial
 case hA =>
  refine⟨fun a w hW hk K hK=>?_,?_⟩
  ·obtain⟨k0,-⟩:=hk
   have k0:a.tmps.getD 1 undef=.pointer (some ⟨B2,0,none⟩):=k0;go_simp;exact hK _ _ (Below.refl _ _) hW rfl
  refine⟨fun a w hW hk K hK=>?_,?_⟩
  ·obtain⟨k0,-⟩:=hk
   have k0:a.tmps.getD 26 undef=.pointer (some ⟨B2,0,none⟩):=k0;go_simp;exact hK _ _ (Below.refl _ _) hW rfl
  refine⟨fun a w hW hk K hK=>?_,?_⟩
  ·obtain⟨k0,-⟩:=hk
   have k0:a.tmps.getD 27 undef=.pointer (some ⟨B2,1,none⟩):=k0;have c1:w.cell? ⟨B2,1,none⟩=some (.int .i64 x.regs):=Qb (hW.1.get 2 rfl) 1 _ rfl;have c2:w.cell? ⟨B2,2,none⟩=some (.slice fp.pP x.params.length fp.cP):=Qb (hW.1.get 2 rfl) 2 _ rfl;have c3:w.cell? ⟨B2,3,none⟩=some (.slice fp.pR x.results.length fp.cR):=Qb (hW.1.get 2 rfl) 3 _ rfl;have c4:w.cell? ⟨B2,4,none⟩=some (.slice fp.pB x.blocks.length fp.cB):=Qb (hW.1.get 2 rfl) 4 _ rfl;go_simp;exact hK _ _ (Below.refl _ _) hW rfl
  refine⟨fun a w hW hk K hK=>?_,?_⟩
  ·obtain⟨k0,-⟩:=hk
   have k0:a.tmps.getD 1 undef=.pointer (some ⟨B2,0,none⟩):=k0;go_simp;exact hK _ _ (Below.refl _ _) hW rfl
  refine⟨fun a w hW hk K hK=>?_,?_⟩
  ·obtain⟨k0,-⟩:=hk
   have k0:a.tmps.getD 29 undef=.pointer (some ⟨B2,6,none⟩):=k0;go_simp;exact hK _ _ (Below.refl _ _) hW rfl
  refine⟨fun a w hW hk K hK=>?_,?_⟩
  ·obtain⟨k0,-⟩:=hk
   have k0:a.tmps.getD 30 undef=.pointer (some ⟨B2,9,none⟩):=k0;have c9:w.cell? ⟨B2,9,none⟩=some (.int .i64 y.fin.op):=Qb (hW.1.get 2 rfl) 9 _ rfl;have c10:w.cell? ⟨B2,10,none⟩=some (.int .i64 y.fin.a):=Qb (hW.1.get 2 rfl) 10 _ rfl;have c11:w.cell? ⟨B2,11,none⟩=some (.int .i64 y.fin.yes.block):=Qb (hW.1.get 2 rfl) 11 _ rfl;have c12:w.cell? ⟨B2,12,none⟩=some (.slice bp.e.pYR y.fin.yes.regs.length bp.e.cYR):=Qb (hW.1.get 2 rfl) 12 _ rfl;have c13:w.cell? ⟨B2,13,none⟩=some (.slice bp.e.pYA y.fin.yes.args.length bp.e.cYA):=Qb (hW.1.get 2 rfl) 13 _ rfl;have c14:w.cell? ⟨B2,14,none⟩=some (.int .i64 y.fin.no.block):=Qb (hW.1.get 2 rfl) 14 _ rfl;have c15:w.cell? ⟨B2,15,none⟩=some (.slice bp.e.pNR y.fin.no.regs.length bp.e.cNR):=Qb (hW.1.get 2 rfl) 15 _ rfl;have c16:w.cell? ⟨B2,16,none⟩=some (.slice bp.e.pNA y.fin.no.args.length bp.e.cNA):=Qb (hW.1.get 2 rfl) 16 _ rfl;have c17:w.cell? ⟨B2,17,none⟩=some (.slice bp.e.pA y.fin.args.length bp.e.cA):=Qb (hW.1.get 2 rfl) 17 _ rfl;go_simp;exact hK _ _ (Below.refl _ _) hW rfl
  refine⟨fun a w hW hk K hK=>?_,?_⟩
  ·obtain⟨k0,k1,-⟩:=hk
   have k0:a.tmps.getD 28 undef=.agg #[.int .i64 x.regs,.slice fp.pP x.params.length fp.cP,.slice fp.pR x.results.length fp.cR,.slice fp.pB x.blocks.length fp.cB]:=k0;have k1:a.tmps.getD 31 undef=.agg #[.int .i64 y.fin.op,.int .i64 y.fin.a,.int .i64 y.fin.yes.block,.slice bp.e.pYR y.fin.yes.regs.length bp.e.cYR,.slice bp.e.pYA y.fin.yes.args.length bp.e.cYA,.int .i64 y.fin.no.block,.slice bp.e.pNR y.fin.no.regs.length bp.e.cNR,.slice bp.e.pNA y.fin.no.args.length bp.e.cNA,.slice bp.e.pA y.fin.args.length bp.e.cA]:=k1;have hC:Rd Tryz.prog 76 #[.agg #[.int .i64 x.regs,.slice fp.pP x.params.length fp.cP,.slice fp.pR x.results.length fp.cR,.slice fp.pB x.blocks.length fp.cB],.agg #[.int .i64 y.fin.op,.int .i64 y.fin.a,.int .i64 y.fin.yes.block,.slice bp.e.pYR y.fin.yes.regs.length bp.e.cYR,.slice bp.e.pYA y.fin.yes.args.length bp.e.cYA,.int .i64 y.fin.no.block,.slice bp.e.pNR y.fin.no.regs.length bp.e.cNR,.slice bp.e.pNA y.fin.no.args.length bp.e.cNA,.slice bp.e.pA y.fin.args.length bp.e.cA]] w (.int .i64 (y.fin.form x.blocks.length)):=QfZ (x:=y.fin) (e:=bp.e) (fr:=x.regs) (fp:=fp.pP) (fl:=x.params.length) (fc:=fp.cP) (fq:=fp.pR) (fm:=x.results.length) (fd:=fp.cR) (fb:=fp.pB) (bl:=x.blocks.length) (fe:=fp.cB) (by have:=ht.out.2.2.1;exact⟨by have:=this.1.1;omega,by have:=this.1.2;omega,by have:=this.2.1.1;omega,by have:=this.2.1.2;omega⟩) (by have:=hs.out.1;omega);go_simp;refine hC.mono ?_;rintro e w9 ⟨rfl,hb⟩;exact hK _ _ hb ⟨hW.1.below hb,Below.andThen hW.2 hb⟩ rfl
  refine⟨fun a w hW hk K hK=>?_,?_⟩
  ·obtain⟨k0,-⟩:=hk
   have k0:a.tmps.getD 1 undef=.pointer (some ⟨B2,0,none⟩):=k0;go_simp;exact hK _ _ (Below.refl _ _) hW rfl
  refine⟨fun a w hW hk K hK=>?_,?_⟩
  ·obtain⟨k0,-⟩:=hk
   have k0:a.tmps.getD 33 undef=.pointer (some ⟨B2,0,none⟩):=k0;go_simp;exact hK _ _ (Below.refl _ _) hW rfl
  refine⟨fun a w hW hk K hK=>?_,?_⟩
  ·obtain⟨k0,-⟩:=hk
   have k0:a.tmps.getD 34 undef=.pointer (some ⟨B2,5,none⟩):=k0;have c5:w.cell? ⟨B2,5,none⟩=some (.int .i64 (fi:Int)):=Qb (hW.1.get 2 rfl) 5 _ rfl;go_simp;exact hK _ _ (Below.refl _ _) hW rfl
  refine⟨fun a w hW hk K hK=>?_,?_⟩
  ·obtain⟨k0,-⟩:=hk
   have k0:a.tmps.getD 1 undef=.pointer (some ⟨B2,0,none⟩):=k0;go_simp;exact hK _ _ (Below.refl _ _) hW rfl
  refine⟨fun a w hW hk K hK=>?_,?_⟩
  ·obtain⟨k0,-⟩:=hk
   have k0:a.tmps.getD 36 undef=.pointer (some ⟨B2,18,none⟩):=k0;have c18:w.cell? ⟨B2,18,none⟩=some (.int .i64 (bi:Int)):=Qb (hW.1.get 2 rfl) 18 _ rfl;go_simp;exact hK _ _ (Below.refl _ _) hW rfl
  refine⟨fun a w hW hk K hK=>?_,?_⟩
  ·obtain⟨k0,k1,-⟩:=hk
   have k0:a.tmps.getD 35 undef=.int .i64 (fi:Int):=k0;have k1:a.tmps.getD 37 undef=.int .i64 (bi:Int):=k1;have hC:Rd Tryz.prog 179 #[.int .i64 (fi:Int),.int .i64 (bi:Int)] w (.int .i64 (10000*(fi:Int)+100*(bi:Int)+91)):=Qgn (f:=fi) (b:=bi) ⟨by omega,by omega⟩;go_simp;refine hC.mono ?_;rintro e w9 ⟨rfl,hb⟩;exact hK _ _ hb ⟨hW.1.below hb,Below.andThen hW.2 hb⟩ rfl
  refine⟨fun a w hW hk K hK=>?_,?_⟩
  ·obtain⟨k0,k1,-⟩:=hk
   have k0:a.tmps.getD 32 undef=.int .i64 (y.fin.form x.blocks.length):=k0;have k1:a.tmps.getD 38 undef=.int .i64 (10000*(fi:Int)+100*(bi:Int)+91):=k1;have hC:Rd Tryz.prog 138 #[.int .i64 (y.fin.form x.blocks.length),.int .i64 (10000*(fi:Int)+100*(bi:Int)+91)] w (.agg #[.int .i64 ((atF (y.fin.form x.blocks.length) (10000*(fi:Int)+100*(bi:Int)+91)).1),.int .i64 ((atF (y.fin.form x.blocks.length) (10000*(fi:Int)+100*(bi:Int)+91)).2)]):=QaS (xc:=y.fin.form x.blocks.length) (xp:=10000*(fi:Int)+100*(bi:Int)+91);go_simp;refine hC.mono ?_;rintro e w9 ⟨rfl,hb⟩;exact hK _ _ hb ⟨hW.1.below hb,Below.andThen hW.2 hb⟩ rfl
  trivial
 case hend =>
  intro ops a35 w35 hWD hE hFD;have hd39:a35.tmps.getD 39 undef=.agg #[.int .i64 ((atF (y.fin.form x.blocks.length) (10000*(fi:Int)+100*(bi:Int)+91)).1),.int .i64 ((atF (y.fin.form x.blocks.length) (10000*(fi:Int)+100*(bi:Int)+91)).2)]:=hE 39 rfl;have hF35:Fr 40 a35 [(39,.agg #[.int .i64 ((atF (y.fin.form x.blocks.length) (10000*(fi:Int)+100*(bi:Int)+91)).1),.int .i64 ((atF (y.fin.form x.blocks.length) (10000*(fi:Int)+100*(bi:Int)+91)).2)]),(0,.agg #[.slice p m.length c,.int .i64 x.regs,.slice fp.pP x.params.length fp.cP,.slice fp.pR x.results.length fp.cR,.slice fp.pB x.blocks.length fp.cB,.int .i64 (fi:Int),.int .i64 y.regs,.slice bp.pP y.params.length bp.cP,.slice bp.pC y.code.length bp.cC,.int .i64 y.fin.op,.int .i64 y.fin.a,.int .i64 y.fin.yes.block,.slice bp.e.pYR y.fin.yes.regs.length bp.e.cYR,.slice bp.e.pYA y.fin.yes.args.length bp.e.cYA,.int .i64 y.fin.no.block,.slice bp.e.pNR y.fin.no.regs.length bp.e.cNR,.slice bp.e.pNA y.fin.no.args.length bp.e.cNA,.slice bp.e.pA y.fin.args.length bp.e.cA,.int .i64 (bi:Int)]),(1,.pointer (some ⟨B2,0,none⟩)),(2,.pointer (some ⟨B3,0,none⟩)),(3,.int .i64 (y.code' x bi)),(4,.pointer (some ⟨B22,0,none⟩))]:=(hFD.cons hd39);clear hd39;have hW35:Wd w w35 [(B22,#[.int .i64 ((firstF (fun i z=>atF (Qz.form m.length z) (10000*(fi:Int)+100*(bi:Int)+(i:Int))) 0 y.code).1),.int .i64 ((firstF (fun i z=>atF (Qz.form m.length z) (10000*(fi:Int)+100*(bi:Int)+(i:Int))) 0 y.code).2)],30),(B3,#[.int .i64 0,.int .i64 0],30),(B2,#[.slice p m.length c,.int .i64 x.regs,.slice fp.pP x.params.length fp.cP,.slice fp.pR x.results.length fp.cR,.slice fp.pB x.blocks.length fp.cB,.int .i64 (fi:Int),.int .i64 y.regs,.slice bp.pP y.params.length bp.cP,.slice bp.pC y.code.length bp.cC,.int .i64 y.fin.op,.int .i64 y.fin.a,.int .i64 y.fin.yes.block,.slice bp.e.pYR y.fin.yes.regs.length bp.e.cYR,.slice bp.e.pYA y.fin.yes.args.length bp.e.cYA,.int .i64 y.fin.no.block,.slice bp.e.pNR y.fin.no.regs.length bp.e.cNR,.slice bp.e.pNA y.fin.no.args.length bp.e.cNA,.slice bp.e.pA y.fin.args.length bp.e.cA,.int .i64 (bi:Int)],181)]:=hWD.1;clear hFD hWD hE hF34 h27;clear hW23;refine St.go hF35 ?_;clear hF35 a35;refine sT 1 hW35 rfl rfl infFault rfl rfl rfl ?_;clear hW35;intro w36 hW36;refine St.nil fun a37 h37=>?_;refine hK33 _ _ ?_;refine wp_ret ?_;with_reducible repeat first | refine Qd ?_ | refine Qc ?_
  have e0:=hc17.out;have e1:=hc32.out;have EF:=Qh.fault_eq m.length fi x bi y;have EI:=QbD (f:=fun i z=>(Qz.form m.length z,(10000*(fi:Int)+100*(bi:Int)+(i:Int)))) (l:=y.code) (j:=0);dsimp only at EI
  rw[if_pos e0,if_pos (by rw[← EI];exact e1)] at EF
  exact QS 1 h37 hW36 rfl rfl rfl Tryz.underlying30 rfl infFault ⟨by show Ending.returned (.agg #[.int .i64 ((atF (y.fin.form x.blocks.length) (10000*(fi:Int)+100*(bi:Int)+91)).1),.int .i64 ((atF (y.fin.form x.blocks.length) (10000*(fi:Int)+100*(bi:Int)+91)).2)])=_;rw[EF],hW36.bel⟩
theorem Qh8 {n:Nat}{m:List (Qg n)}{p:Option Addr}{c:Nat}{x:Qg n}{fp:FP}{fi:Nat}{y:Qh n}{bp:BP}{bi:Nat}{w:World}(hx0:FIn w All x fp) (hs0:x.small) (hy0:BIn w All y bp) (ht0:y.small){Bc:Nat}(hm:m.length≤100000) (hfi:fi<1000000) (hbi:bi<1000000) (hcap0:Blk w Bc #[.slice p m.length c,.int .i64 x.regs,.slice fp.pP x.params.length fp.cP,.slice fp.pR x.results.length fp.cR,.slice fp.pB x.blocks.length fp.cB,.int .i64 (fi:Int)] 134) :
 Rd Tryz.prog 141 #[.int .i64 (bi:Int),.agg #[.int .i64 y.regs,.slice bp.pP y.params.length bp.cP,.slice bp.pC y.code.length bp.cC,.int .i64 y.fin.op,.int .i64 y.fin.a,.int .i64 y.fin.yes.block,.slice bp.e.pYR y.fin.yes.regs.length bp.e.cYR,.slice bp.e.pYA y.fin.yes.args.length bp.e.cYA,.int .i64 y.fin.no.block,.slice bp.e.pNR y.fin.no.regs.length bp.e.cNR,.slice bp.e.pNA y.fin.no.args.length bp.e.cNA,.slice bp.e.pA y.fin.args.length bp.e.cA],.pointer (some ⟨Bc,0,none⟩)] w (QY (Qh.fault m.length fi x bi y)):=by
 have hx:Hid _:=hx0;have hs:Hid _:=hs0;have hy:Hid _:=hy0;have ht:Hid _:=ht0;clear hx0 hs0 hy0 ht0;have hcap:Hid _:=hcap0;clear hcap0;refine Qy (n:=11) Tryz.func141 rfl rfl rfl ?_;intro a hF;have hW:=Wd.start w;replace hF:Fr 11 a [(0,.int .i64 (bi:Int)),(1,.agg #[.int .i64 y.regs,.slice bp.pP y.params.length bp.cP,.slice bp.pC y.code.length bp.cC,.int .i64 y.fin.op,.int .i64 y.fin.a,.int .i64 y.fin.yes.block,.slice bp.e.pYR y.fin.yes.regs.length bp.e.cYR,.slice bp.e.pYA y.fin.yes.args.length bp.e.cYA,.int .i64 y.fin.no.block,.slice bp.e.pNR y.fin.no.regs.length bp.e.cNR,.slice bp.e.pNA y.fin.no.args.length bp.e.cNA,.slice bp.e.pA y.fin.args.length bp.e.cA]),(2,.pointer (some ⟨Bc,0,none⟩))]:=hF;refine wp_seq_k fun K1 hK1=>?_;refine rg hF fun ops=>?_;clear hF a;refine sB hW trivial rfl rfl ?_;clear hW;intro w2 B2 hW2 hN;clear hN;refine ZG hW2 trivial rfl ?_;clear hW2;intro w3 B3 hW3 hN;clear hN;refine St.nil fun a4 h4=>?_;refine hK1 _ _ ?_;refine wp_seq_k fun K5 hK5=>?_;refine rg h4 fun ops=>?_;clear h4 a4;refine sSE Tryz.underlying134 rfl (Q4 (QdH hcap.out 0 6 rfl) hW3.bel) inffuncLook trivial rfl rfl ?_;refine sS 1 12 Tryz.underlying84 rfl infBlock hW3 trivial rfl rfl rfl rfl ?_;refine sm trivial rfl rfl ?_;intro a6 h6;refine Q8 (t:=9) (v:=.agg #[.slice p m.length c,.int .i64 x.regs,.slice fp.pP x.params.length fp.cP,.slice fp.pR x.results.length fp.cR,.slice fp.pB x.blocks.length fp.cB,.int .i64 (fi:Int),.int .i64 y.regs,.slice bp.pP y.params.length bp.cP,.slice bp.pC y.code.length bp.cC,.int .i64 y.fin.op,.int .i64 y.fin.a,.int .i64 y.fin.yes.block,.slice bp.e.pYR y.fin.yes.regs.length bp.e.cYR,.slice bp.e.pYA y.fin.yes.args.length bp.e.cYA,.int .i64 y.fin.no.block,.slice bp.e.pNR y.fin.no.regs.length bp.e.cNR,.slice bp.e.pNA y.fin.no.args.length bp.e.cNA,.slice bp.e.pA y.fin.args.length bp.e.cA,.int .i64 (bi:Int)]) (w':=w3) h6 rfl rfl rfl (fun K hK=>?_) ?_
 ·have k0:a6.tmps[6]?.getD undef=.agg #[.slice p m.length c,.int .i64 x.regs,.slice fp.pP x.params.length fp.cP,.slice fp.pR x.results.length fp.cR,.slice fp.pB x.blocks.length fp.cB,.int .i64 (fi:Int)]:=h6.sl2 6 _ rfl
  have k1:a6.tmps[7]?.getD undef=.agg #[.int .i64 y.regs,.slice bp.pP y.params.length bp.cP,.slice bp.pC y.code.length bp.cC,.int .i64 y.fin.op,.int .i64 y.fin.a,.int .i64 y.fin.yes.block,.slice bp.e.pYR y.fin.yes.regs.length bp.e.cYR,.slice bp.e.pYA y.fin.yes.args.length bp.e.cYA,.int .i64 y.fin.no.block,.slice bp.e.pNR y.fin.no.regs.length bp.e.cNR,.slice bp.e.pNA y.fin.no.args.length bp.e.cNA,.slice bp.e.pA y.fin.args.length bp.e.cA]:=h6.sl2 7 _ rfl;have k2:a6.tmps[8]?.getD undef=.int .i64 (bi:Int):=h6.sl2 8 _ rfl;go_simp;exact hK
 clear h6;intro a7 hF7;refine St.go hF7 ?_;clear hF7 a7;refine QiF cf142 hW3 (QcU (m:=m) (p:=p) (c:=c) (x:=x) (fp:=fp) (fi:=fi) (y:=y) (bp:=bp) (bi:=bi) (hx.out.below hW3.bel) hs.out (hy.out.below hW3.bel) ht.out hm hfi hbi) trivial rfl rfl ?_;clear hW3;intro w8 hW8;refine sT 0 hW8 rfl rfl infFault rfl rfl rfl ?_;clear hW8;intro w9 hW9;refine St.nil fun a10 h10=>?_;refine hK5 _ _ ?_;refine wp_ret ?_;with_reducible repeat first | refine Qd ?_ | refine Qc ?_
 exact QS 0 h10 hW9 rfl rfl rfl Tryz.underlying30 rfl infFault ⟨rfl,hW9.bel⟩
theorem Qdf {n:Nat}{m:List (Qg n)}{p:Option Addr}{c:Nat}{x:Qg n}{fp:FP}{fi:Nat}{w:World}(hx0:FIn w All x fp) (hs0:x.small) (hm:m.length≤100000) (hfi:fi<1000000) :
 Rd Tryz.prog 87 #[.agg #[.slice p m.length c,.int .i64 x.regs,.slice fp.pP x.params.length fp.cP,.slice fp.pR x.results.length fp.cR,.slice fp.pB x.blocks.length fp.cB,.int .i64 (fi:Int)]] w (QY (Qg.fault m.length fi x)):=by
 have hx:Hid _:=hx0;have hs:Hid _:=hs0;clear hx0 hs0;refine Qy (n:=18) Tryz.func87 rfl rfl rfl ?_;intro a hF;have hW:=Wd.start w;replace hF:Fr 18 a [(0,.agg #[.slice p m.length c,.int .i64 x.regs,.slice fp.pP x.params.length fp.cP,.slice fp.pR x.results.length fp.cR,.slice fp.pB x.blocks.length fp.cB,.int .i64 (fi:Int)])]:=hF;refine wp_seq_k fun K1 hK1=>?_;refine rg hF fun ops=>?_;clear hF a;refine sB hW trivial rfl rfl ?_;clear hW;intro w2 B2 hW2 hN;clear hN;refine ZG hW2 trivial rfl ?_;clear hW2;intro w3 B3 hW3 hN;clear hN;refine St.nil fun a4 h4=>?_;refine hK1 _ _ ?_;refine wp_seq_k fun K5 hK5=>?_;refine wp_seq_k fun K6 hK6=>?_;refine rg h4 fun ops=>?_;clear h4 a4;refine sS 1 6 Tryz.underlying134 rfl inffuncLook hW3 trivial rfl rfl rfl rfl ?_;refine QiF cf137 hW3 (QeW (m:=m) (p:=p) (c:=c) (fi:=fi) (hx.out.below hW3.bel) hs.out) trivial rfl rfl ?_;clear hW3;intro w7 hW7;refine sa trivial rfl rfl ?_;refine St.nil fun a8 h8=>?_;refine hK6 _ _ ?_;refine wp_seq_k fun K9 hK9=>?_;refine rg h8 fun ops=>?_;clear h8 a8;refine sm trivial rfl rfl ?_;refine sne trivial rfl rfl rfl ?_;refine St.nil fun a10 h10=>?_;refine hK9 _ _ ?_;refine Qv (t:=7) h10 rfl (fun hb=>?_) (fun hb=>?_)
 ·have h9:¬ (x.code fi)=0:=bne_iff_ne.1 hb
  have hc11:¬ (x.code fi)=0:=h9;clear h9;clear hb;refine wp_seq_k fun K12 hK12=>?_;refine rg h10 fun ops=>?_;clear h10 a10;refine sm trivial rfl rfl ?_;refine Qbm trivial rfl rfl ?_;refine Zr 1 hW7 trivial rfl rfl rfl rfl ?_;refine QiF cf139 hW7 (Qfj (f:=fi) (by omega)) trivial rfl rfl ?_;clear hW7;intro w13 hW13;refine QgI cf138 hW13 (QaS (xc:=x.code fi) (xp:=10000*(fi:Int)+9999)) trivial rfl rfl rfl ?_;clear hW13;intro w14 hW14;refine sT 0 hW14 rfl rfl infFault rfl rfl rfl ?_;clear hW14;intro w15 hW15;refine St.nil fun a16 h16=>?_;refine hK12 _ _ ?_;refine wp_ret ?_;with_reducible repeat first | refine Qd ?_ | refine Qc ?_
  have e0:=hc11;have EF:=Qg.fault_eq m.length fi x;rw[if_neg e0] at EF
  exact QS 0 h16 hW15 rfl rfl rfl Tryz.underlying30 rfl infFault ⟨by show Ending.returned (.agg #[.int .i64 ((atF (x.code fi) (10000*(fi:Int)+9999)).1),.int .i64 ((atF (x.code fi) (10000*(fi:Int)+9999)).2)])=_;rw[EF] ;simp[atF,e0],hW15.bel⟩
 have h9:(x.code fi)=0:=bne_eq_false_iff_eq.1 hb;have hc17:Hid ((x.code fi)=0):=h9;clear h9;clear hb;refine wp_skip ?_;refine hK5 _ _ ?_;refine wp_seq_k fun K18 hK18=>?_;refine rg h10 fun ops=>?_;clear h10 a10;refine QL trivial rfl rfl ?_;refine QcG trivial rfl rfl ?_;refine QcA 1 hW7 trivial rfl rfl rfl rfl ?_;intro a19 h19;refine Q8 (t:=16) (v:=.func (.func 141) #[] #[.pointer (some ⟨B2,0,none⟩)]) (w':=w7) h19 rfl rfl rfl (fun K hK=>?_) ?_
 ·have k0:a19.tmps.getD 1 undef=.pointer (some ⟨B2,0,none⟩):=h19.sl 1 _ rfl
  go_simp;exact hK
 clear h19;intro a20 hF20;refine St.go hF20 ?_;clear hF20 a20;refine QgI cf140 hW7 (Qfw (Bc:=B2) (fun b y=>Qh.fault m.length fi x b y) (Lay.below hx.out.blocks hW7.bel) (by have:=hs.out.1;omega) (fun b y yi wx hz hi hb=>Qh8 ((hx.out.below hW7.bel).below hb) hs.out hi (hs.out.2.2.2 _ (List.mem_of_getElem? hz)) hm hfi (by have h9:=(List.getElem?_eq_some_iff.1 hz).1;have:=hs.out.1;omega) ((hW7.get 1 rfl).below hb))) trivial rfl rfl rfl ?_;clear hW7;intro w21 hW21;refine sT 0 hW21 rfl rfl infFault rfl rfl rfl ?_;clear hW21;intro w22 hW22;refine St.nil fun a23 h23=>?_;refine hK18 _ _ ?_;refine wp_ret ?_;with_reducible repeat first | refine Qd ?_ | refine Qc ?_
 have e0:=hc17.out;have EF:=Qg.fault_eq m.length fi x;rw[if_pos e0] at EF
 exact QS 0 h23 hW22 rfl rfl rfl Tryz.underlying30 rfl infFault ⟨by show Ending.returned (.agg #[.int .i64 ((firstF (fun b y=>Qh.fault m.length fi x b y) 0 x.blocks).1),.int .i64 ((firstF (fun b y=>Qh.fault m.length fi x b y) 0 x.blocks).2)])=_;rw[EF],hW22.bel⟩
theorem QhM {n:Nat}{m:List (Qg n)}{p:Option Addr}{c:Nat}{x:Qg n}{fp:FP}{fi:Nat}{w:World}(hx0:FIn w All x fp) (hs0:x.small){Bc:Nat}(hm:m.length≤100000) (hfi:fi<1000000) (hcap0:Blk w Bc #[.slice p m.length c] 24) :
 Rd Tryz.prog 86 #[.int .i64 (fi:Int),.agg #[.int .i64 x.regs,.slice fp.pP x.params.length fp.cP,.slice fp.pR x.results.length fp.cR,.slice fp.pB x.blocks.length fp.cB],.pointer (some ⟨Bc,0,none⟩)] w (QY (Qg.fault m.length fi x)):=by
 have hx:Hid _:=hx0;have hs:Hid _:=hs0;clear hx0 hs0;have hcap:Hid _:=hcap0;clear hcap0;refine Qy (n:=11) Tryz.func86 rfl rfl rfl ?_;intro a hF;have hW:=Wd.start w;replace hF:Fr 11 a [(0,.int .i64 (fi:Int)),(1,.agg #[.int .i64 x.regs,.slice fp.pP x.params.length fp.cP,.slice fp.pR x.results.length fp.cR,.slice fp.pB x.blocks.length fp.cB]),(2,.pointer (some ⟨Bc,0,none⟩))]:=hF;refine wp_seq_k fun K1 hK1=>?_;refine rg hF fun ops=>?_;clear hF a;refine sB hW trivial rfl rfl ?_;clear hW;intro w2 B2 hW2 hN;clear hN;refine ZG hW2 trivial rfl ?_;clear hW2;intro w3 B3 hW3 hN;clear hN;refine St.nil fun a4 h4=>?_;refine hK1 _ _ ?_;refine wp_seq_k fun K5 hK5=>?_;refine rg h4 fun ops=>?_;clear h4 a4;refine sSE Tryz.underlying24 rfl (Q4 (QdH hcap.out 0 1 rfl) hW3.bel) infModule trivial rfl rfl ?_;refine sS 1 4 Tryz.underlying55 rfl infFunc hW3 trivial rfl rfl rfl rfl ?_;refine sm trivial rfl rfl ?_;intro a6 h6;refine Q8 (t:=9) (v:=.agg #[.slice p m.length c,.int .i64 x.regs,.slice fp.pP x.params.length fp.cP,.slice fp.pR x.results.length fp.cR,.slice fp.pB x.blocks.length fp.cB,.int .i64 (fi:Int)]) (w':=w3) h6 rfl rfl rfl (fun K hK=>?_) ?_
 ·have k0:a6.tmps[6]?.getD undef=.agg #[.slice p m.length c]:=h6.sl2 6 _ rfl
  have k1:a6.tmps[7]?.getD undef=.agg #[.int .i64 x.regs,.slice fp.pP x.params.length fp.cP,.slice fp.pR x.results.length fp.cR,.slice fp.pB x.blocks.length fp.cB]:=h6.sl2 7 _ rfl;have k2:a6.tmps[8]?.getD undef=.int .i64 (fi:Int):=h6.sl2 8 _ rfl;go_simp;exact hK
 clear h6;intro a7 hF7;refine St.go hF7 ?_;clear hF7 a7;refine QiF cf87 hW3 (Qdf (m:=m) (p:=p) (c:=c) (x:=x) (fp:=fp) (fi:=fi) (hx.out.below hW3.bel) hs.out hm hfi) trivial rfl rfl ?_;clear hW3;intro w8 hW8;refine sT 0 hW8 rfl rfl infFault rfl rfl rfl ?_;clear hW8;intro w9 hW9;refine St.nil fun a10 h10=>?_;refine hK5 _ _ ?_;refine wp_ret ?_;with_reducible repeat first | refine Qd ?_ | refine Qc ?_
 exact QS 0 h10 hW9 rfl rfl rfl Tryz.underlying30 rfl infFault ⟨rfl,hW9.bel⟩
theorem Qdl {n:Nat}{m:List (Qg n)}{p:Option Addr}{c:Nat}{w:World}(hm0:(Qak n).In w All m [.slice p m.length c]) (hs0:QcS m) :
 Rd Tryz.prog 40 #[.agg #[.slice p m.length c]] w (QY (modFault m)):=by
 have hmm:Hid _:=hm0;have hms:Hid _:=hs0;clear hm0 hs0;refine Qy (n:=18) Tryz.func40 rfl rfl rfl ?_;intro a hF;have hW:=Wd.start w;replace hF:Fr 18 a [(0,.agg #[.slice p m.length c])]:=hF;refine wp_seq_k fun K1 hK1=>?_;refine rg hF fun ops=>?_;clear hF a;refine sB hW trivial rfl rfl ?_;clear hW;intro w2 B2 hW2 hN;clear hN;refine ZG hW2 trivial rfl ?_;clear hW2;intro w3 B3 hW3 hN;clear hN;refine St.nil fun a4 h4=>?_;refine hK1 _ _ ?_;refine wp_seq_k fun K5 hK5=>?_;refine wp_seq_k fun K6 hK6=>?_;refine Zb ?_;intro ops hops;have hg4:(ops[4]?).bind (fun o:Oper=>o.dst)=some 7:=hops 4;clear hops;refine St.go h4 ?_;clear h4 a4;refine Qa5 trivial rfl rfl ?_;refine QcQ 1 hW3 trivial rfl rfl rfl rfl ?_;refine Qcd trivial rfl rfl ?_;refine slt trivial rfl rfl rfl ?_;refine sm trivial rfl rfl ?_;intro a7 h7;rcases Bool.eq_false_or_eq_true (decide ((m.length:Int)<1)) with hb | hb
 ·rw[hb] at h7
  have hc8:m.length<1:=by have:=of_decide_eq_true hb;omega
  clear hb;refine St.go h7 ?_;clear h7 a7;refine so hg4 rfl rfl rfl rfl ?_;refine so hg4 rfl rfl rfl rfl ?_;refine so hg4 rfl rfl rfl rfl ?_;refine so hg4 rfl rfl rfl rfl ?_;refine sp trivial rfl rfl rfl ?_;refine St.nil fun a9 h9=>?_;refine hK6 _ _ ?_;refine Qad (t:=12) h9 rfl ?_;refine wp_seq_k fun K10 hK10=>?_;refine rg h9 fun ops=>?_;clear h9 a9;intro a11 h11;refine Q8 (t:=13) (v:=.agg #[.int .i64 2,.int .i64 (-1)]) (w':=w3) h11 rfl rfl rfl (fun K hK=>?_) ?_
  ·go_simp
   exact hK
  clear h11;intro a12 hF12;refine St.go hF12 ?_;clear hF12 a12;refine sT 0 hW3 rfl rfl infFault rfl rfl rfl ?_;clear hW3;intro w13 hW13;refine St.nil fun a14 h14=>?_;refine hK10 _ _ ?_;refine wp_ret ?_;with_reducible repeat first | refine Qd ?_ | refine Qc ?_
  have R:modFault m=(2,-1):=if_pos (by omega);exact QS 0 h14 hW13 rfl rfl rfl Tryz.underlying30 rfl infFault ⟨by show Ending.returned (.agg #[.int .i64 2,.int .i64 (-1)])=_;rw[R],hW13.bel⟩
 rw[hb] at h7
 have hc15:¬ (m.length<1):=by have:=of_decide_eq_false hb;omega
 clear hb;refine St.go h7 ?_;clear h7 a7;refine Qa5 ⟨_,hg4,rfl,rfl⟩ rfl rfl ?_;refine QcQ 1 hW3 ⟨_,hg4,rfl,rfl⟩ rfl rfl rfl rfl ?_;refine Qcd ⟨_,hg4,rfl,rfl⟩ rfl rfl ?_;refine sgt ⟨_,hg4,rfl,rfl⟩ rfl rfl rfl ?_;refine spf trivial rfl rfl rfl ?_;refine St.nil fun a16 h16=>?_;refine hK6 _ _ ?_;refine Qv (t:=12) h16 rfl (fun hb=>?_) (fun hb=>?_)
 ·have hc17:8<m.length:=by have:=of_decide_eq_true hb;omega
  clear hb;refine wp_seq_k fun K18 hK18=>?_;refine rg h16 fun ops=>?_;clear h16 a16;intro a19 h19;refine Q8 (t:=13) (v:=.agg #[.int .i64 2,.int .i64 (-1)]) (w':=w3) h19 rfl rfl rfl (fun K hK=>?_) ?_
  ·go_simp
   exact hK
  clear h19;intro a20 hF20;refine St.go hF20 ?_;clear hF20 a20;refine sT 0 hW3 rfl rfl infFault rfl rfl rfl ?_;clear hW3;intro w21 hW21;refine St.nil fun a22 h22=>?_;refine hK18 _ _ ?_;refine wp_ret ?_;with_reducible repeat first | refine Qd ?_ | refine Qc ?_
  have R:modFault m=(2,-1):=if_pos (by omega);exact QS 0 h22 hW21 rfl rfl rfl Tryz.underlying30 rfl infFault ⟨by show Ending.returned (.agg #[.int .i64 2,.int .i64 (-1)])=_;rw[R],hW21.bel⟩
 have hc23:¬ (8<m.length):=by have:=of_decide_eq_false hb;omega
 clear hb;refine wp_skip ?_;refine hK5 _ _ ?_;refine wp_seq_k fun K24 hK24=>?_;refine rg h16 fun ops=>?_;clear h16 a16;refine Qa5 trivial rfl rfl ?_;refine QcQ 1 hW3 trivial rfl rfl rfl rfl ?_;intro a25 h25;refine Q8 (t:=16) (v:=.func (.func 86) #[] #[.pointer (some ⟨B2,0,none⟩)]) (w':=w3) h25 rfl rfl rfl (fun K hK=>?_) ?_
 ·have k0:a25.tmps.getD 1 undef=.pointer (some ⟨B2,0,none⟩):=h25.sl 1 _ rfl
  go_simp;exact hK
 clear h25;intro a26 hF26;refine St.go hF26 ?_;clear hF26 a26;refine QgI cf85 hW3 (QgT (Bc:=B2) (fun f x=>Qg.fault m.length f x) (Lay.below hmm.out hW3.bel) (by have:=hms.out.1;omega) (fun f x xi wx hz hi hb=>QhM hi (hms.out.2 _ (List.mem_of_getElem? hz)) (by have:=hms.out.1;omega) (by have h9:=(List.getElem?_eq_some_iff.1 hz).1;have:=hms.out.1;omega) ((hW3.get 1 rfl).below hb))) trivial rfl rfl rfl ?_;clear hW3;intro w27 hW27;refine sT 0 hW27 rfl rfl infFault rfl rfl rfl ?_;clear hW27;intro w28 hW28;refine St.nil fun a29 h29=>?_;refine hK24 _ _ ?_;refine wp_ret ?_;with_reducible repeat first | refine Qd ?_ | refine Qc ?_
 have R:modFault m=firstF (fun f x=>Qg.fault m.length f x) 0 m:=if_neg (by omega);exact QS 0 h29 hW28 rfl rfl rfl Tryz.underlying30 rfl infFault ⟨by show Ending.returned (.agg #[.int .i64 ((firstF (fun f x=>Qg.fault m.length f x) 0 m).1),.int .i64 ((firstF (fun f x=>Qg.fault m.length f x) 0 m).2)])=_;rw[R],hW28.bel⟩
end Go.Proofs.YtacjnejckfhpoadGreat
namespace Go.Proofs.YtacjnejckfhpoadGreat
open Go.ChangeShapes Go.WideShapes Go.ChangeAt Go.RowKit
set_option linter.unusedVariables false
section
variable {n:Nat}{a:Act}{L:List (Tmp × Value)}{w0 w:World}{Bs:List (Nat × Array Value × TypeId)}{Q:Exit→Act→World→Prop}{ops:Array Oper}{rest:List Oper}{t:Tmp}{u v:Value}{ty ty2 ty3:TypeId}{pos:String}{aft:Array Edge}{gd:Option (Nat × Bool)}{x y:Operand}
theorem Qiw {tS e:TypeId}{i:TypeInfo}{z:Value}{size m:Nat}(hu:Tryz.prog.underlying tS=some (.slice e)) (hi:Tryz.prog.info? e=some i) (hz:i.zero=some z) (hsz:i.size=size)
 (hby:i.bytes*m≤281474976710656) (hm:m≤maxLen) (hW:Wd w0 w Bs) (hg:Gok ops n L gd) (hx:Qn L x=some (.int .i64 (m:Int))) (ht:Nat.blt t n=true)
 (k:∀ w' g xs,w.heap.size=g→w'.ownsRow w.heap.size e size (.slice (some ⟨g,0,none⟩) m m) m xs→Below w.heap.size w w'→Wd w0 w' Bs→St n ((t,.slice (some ⟨g,0,none⟩) m m)::L) ops Q rest w') :
 St n L ops Q (⟨some t,.makeSlice tS x x,ty,pos,aft,gd⟩::rest) w:=fun a hF=>by
 obtain⟨w',hr,ho,hgr⟩:=run_make_full (P:=Tryz.prog) w w.heap.size tS e i z size hu hi hz hsz .i64 .i64 m hby hm (Nat.le_refl _)
 have hb:Below w.heap.size w w':=(Below.refl _ w).grown hgr (Nat.le_refl _) (fun k hk=>by cases hk);have e0:=hF.ev hx;refine wpList_step fun K hK=>?_;rw[if_pos (Gok.on (o:=⟨some t,.makeSlice tS x x,ty,pos,aft,gd⟩) hF hg)]
 have h9:=hK (a.put (some t) (.slice (some ⟨w.heap.size,0,none⟩) m m)) w' (k w' _ _ rfl ho hb (hW.below hb) _ (hF.put ht));unfold Oper.wp;simp[execOp,e0,hr,Result.andThen]
 exact h9
theorem QlG {g j:Nat}{c:Array Value}{bt:TypeId}{cells:List Value}(hW:Wd w0 w Bs) (hg:w0.heap.size≤g) (hne:∀ (i:Nat) x,Bs[i]?=some x→x.1≠g) (hB:Blk w g c bt)
 (hx:Qn L x=some (.pointer (some ⟨g,j,none⟩))) (hy:Qn L y=some (.agg cells.toArray)) (hi:(Tryz.prog.info? ty2).map (·.size)=some cells.length) (h1:cells.all (·.oneCell')=true) (hs:j+cells.length≤c.size)
 (k:Wd w0 (w.setCells g j cells) Bs→St n L ops Q rest (w.setCells g j cells)):St n L ops Q (⟨none,.store ty2 x y,ty,pos,aft,none⟩::rest) w:=fun a hF=>by
 have hW':Wd w0 (w.setCells g j cells) Bs:=⟨ZY hg cells w w0 j hW.bel,fun i y hy=>(ZD (hne i y hy) cells j w).trans (hW.blk i y hy),hW.new,hW.nd⟩;refine QdP hF rfl rfl (fun K hK=>?_) (k hW' a hF);have e:=hF.ev hx;have e2:=hF.ev hy
 have:=run_storeAt_mid (P:=Tryz.prog) w g j ty2 cells.toArray (by simpa using Qb9 hB j cells.length hs) (by simpa using hi) (by simpa using h1)
 unfold Oper.wp execOp;simp only[e,e2,Sem.run_bind,this,Result.andThen_ok,Sem.run_pure]
 rw[Oper.upon_skip];simpa[Act.put] using hK
end
end Go.Proofs.YtacjnejckfhpoadGreat
namespace Go.Proofs.YtacjnejckfhpoadGreat
open Go.ChangeShapes Go.WideShapes Go.ChangeAt Go.RowKit
set_option linter.unusedSimpArgs false
set_option linter.unusedVariables false
theorem Qdx (x:MTo) (pR pA:Option Addr) (cR cA:Nat) (w:World) (h:QeY w All x pR cR pA cA) (b1:x.regs.length≤4294967296) (b2:x.args.length≤4294967296) :
 Calls Tryz.prog 218 #[.agg #[.int .i64 x.block,.slice pR x.regs.length cR,.slice pA x.args.length cA]] w fun e w'=>∃ p c p2 c2,e=.returned (.agg #[.int .i64 x.block,.slice p x.regs.length c,.slice p2 x.args.length c2])∧QeY w' (ZS w.heap.size) x p c p2 c2∧Below w.heap.size w w':=by
 have hr:Hid _:=h.regs;have hg:Hid _:=h.args;have hbd:=h.bnd;clear h;refine Qy (n:=12) Tryz.func218 rfl rfl rfl ?_;intro a hF;have hW:=Wd.start w;replace hF:Fr 12 a [(0,.agg #[.int .i64 x.block,.slice pR x.regs.length cR,.slice pA x.args.length cA])]:=hF;refine wp_seq_k fun K1 hK1=>?_;refine rg hF fun ops=>?_;clear hF a;refine sB hW trivial rfl rfl ?_;clear hW;intro w2 B2 hW2 hN;clear hN;refine QlZ hW2 trivial rfl ?_;clear hW2;intro w3 B3 hW3 hN;clear hN;refine St.nil fun a4 h4=>?_;refine hK1 _ _ ?_;refine wp_seq_k fun K5 hK5=>?_;have hF6:Fr 12 a4 [(0,.agg #[.int .i64 x.block,.slice pR x.regs.length cR,.slice pA x.args.length cA]),(1,.pointer (some ⟨B2,0,none⟩)),(2,.pointer (some ⟨B3,0,none⟩))]:=(h4.keep (h4.keep (h4.keep h4.nil (t:=2) rfl) (t:=1) rfl) (t:=0) rfl);have ho1:a4.tmps.getD 1 undef=.pointer (some ⟨B2,0,none⟩):=h4.sl 1 _ rfl;refine QbK 7 ([(1,fun v _=>v=.pointer (some ⟨B2,0,none⟩)),(3,fun v _=>v=.pointer (some ⟨B2,1,none⟩)),(4,fun v _=>v=.slice pR x.regs.length cR),(5,fun v w'=>∃ p c,v=.slice p x.regs.length c∧intsL.In w' (ZS w3.heap.size) x.regs [.slice p x.regs.length c]),(6,fun v _=>v=.pointer (some ⟨B2,2,none⟩)),(7,fun v _=>v=.slice pA x.args.length cA),(8,fun v w'=>∃ p c,v=.slice p x.args.length c∧intsL.In w' (ZS w3.heap.size) x.args [.slice p x.args.length c]),(9,fun v _=>v=.pointer (some ⟨B2,1,none⟩))]:Qbh) (fun w'=>Wd w w' [(B3,#[.int .i64 0,.slice none 0 0,.slice none 0 0],45),(B2,#[.int .i64 x.block,.slice pR x.regs.length cR,.slice pA x.args.length cA],45)]∧Below w3.heap.size w3 w') (fun w w'=>Below w.heap.size w w') (outs:=[1]) (gs:=[]) (bs:=[true,true,true,true,true,true,true]) (by kernel_rfl) hF6 rfl (by kernel_rfl) (by kernel_rfl) ?hR ?hG ⟨hW3.drewN 1,ZH (m:=1) (Below.refl _ _)⟩ ⟨ho1,trivial⟩ ?hA ?hend
 case hR=>exact⟨fun _ _ _ _ h=>h,fun _ _ _ _ h=>h,fun _ _ _ _ h=>h,fun v w w' hr h=>by obtain⟨p,c,h1,h2⟩:=h;exact⟨p,c,h1,Lay.below h2 hr⟩,fun _ _ _ _ h=>h,fun _ _ _ _ h=>h,fun v w w' hr h=>by obtain⟨p,c,h1,h2⟩:=h;exact⟨p,c,h1,Lay.below h2 hr⟩,fun _ _ _ _ h=>h,trivial⟩
 case hG=>exact trivial
 case hA =>
  refine⟨fun a w hW hk K hK=>?_,?_⟩
  ·obtain⟨k0,-⟩:=hk
   have k0:a.tmps.getD 1 undef=.pointer (some ⟨B2,0,none⟩):=k0;go_simp;exact hK _ _ (Below.refl _ _) hW rfl
  refine⟨fun a w hW hk K hK=>?_,?_⟩
  ·obtain⟨k0,-⟩:=hk
   have k0:a.tmps.getD 3 undef=.pointer (some ⟨B2,1,none⟩):=k0;have c1:w.cell? ⟨B2,1,none⟩=some (.slice pR x.regs.length cR):=Qb (hW.1.get 1 rfl) 1 _ rfl;go_simp;exact hK _ _ (Below.refl _ _) hW rfl
  refine⟨fun a w hW hk K hK=>?_,?_⟩
  ·obtain⟨k0,-⟩:=hk
   have k0:a.tmps.getD 4 undef=.slice pR x.regs.length cR:=k0;go_simp;refine(ZZ _ _ _ w (Lay.below hr.out hW.1.bel) b1).mono ?_
   rintro e w9 ⟨p9,c9,rfl,h9,hb⟩;exact hK _ _ hb ⟨hW.1.below hb,Below.andThen hW.2 hb⟩ ⟨p9,c9,rfl,Lay.mono h9 (fun k hk _=>Nat.le_trans hW.2.size hk)⟩
  refine⟨fun a w hW hk K hK=>?_,?_⟩
  ·obtain⟨k0,-⟩:=hk
   have k0:a.tmps.getD 1 undef=.pointer (some ⟨B2,0,none⟩):=k0;go_simp;exact hK _ _ (Below.refl _ _) hW rfl
  refine⟨fun a w hW hk K hK=>?_,?_⟩
  ·obtain⟨k0,-⟩:=hk
   have k0:a.tmps.getD 6 undef=.pointer (some ⟨B2,2,none⟩):=k0;have c2:w.cell? ⟨B2,2,none⟩=some (.slice pA x.args.length cA):=Qb (hW.1.get 1 rfl) 2 _ rfl;go_simp;exact hK _ _ (Below.refl _ _) hW rfl
  refine⟨fun a w hW hk K hK=>?_,?_⟩
  ·obtain⟨k0,-⟩:=hk
   have k0:a.tmps.getD 7 undef=.slice pA x.args.length cA:=k0;go_simp;refine(ZZ _ _ _ w (Lay.below hg.out hW.1.bel) b2).mono ?_
   rintro e w9 ⟨p9,c9,rfl,h9,hb⟩;exact hK _ _ hb ⟨hW.1.below hb,Below.andThen hW.2 hb⟩ ⟨p9,c9,rfl,Lay.mono h9 (fun k hk _=>Nat.le_trans hW.2.size hk)⟩
  refine⟨fun a w hW hk K hK=>?_,?_⟩
  ·obtain⟨k0,-⟩:=hk
   have k0:a.tmps.getD 1 undef=.pointer (some ⟨B2,0,none⟩):=k0;go_simp;exact hK _ _ (Below.refl _ _) hW rfl
  trivial
 case hend =>
  intro ops a7 w7 hWD hE hFD;obtain⟨pN5,cN5,hd5,hNN5⟩:=hE 5 rfl
  replace hd5:a7.tmps.getD 5 undef=.slice pN5 x.regs.length cN5:=hd5;obtain⟨pN8,cN8,hd8,hNN8⟩:=hE 8 rfl
  replace hd8:a7.tmps.getD 8 undef=.slice pN8 x.args.length cN8:=hd8;have hd9:a7.tmps.getD 9 undef=.pointer (some ⟨B2,1,none⟩):=hE 9 rfl;have hF7:Fr 12 a7 [(9,.pointer (some ⟨B2,1,none⟩)),(8,.slice pN8 x.args.length cN8),(5,.slice pN5 x.regs.length cN5),(0,.agg #[.int .i64 x.block,.slice pR x.regs.length cR,.slice pA x.args.length cA]),(1,.pointer (some ⟨B2,0,none⟩)),(2,.pointer (some ⟨B3,0,none⟩))]:=(((hFD.cons hd5).cons hd8).cons hd9);clear hd5 hd8 hd9;have hW7:Wd w w7 [(B3,#[.int .i64 0,.slice none 0 0,.slice none 0 0],45),(B2,#[.int .i64 x.block,.slice pR x.regs.length cR,.slice pA x.args.length cA],45)]:=hWD.1;have hlt0:B3<w3.heap.size:=(hW3.get 0 rfl).lt;have hlt1:B2<w3.heap.size:=(hW3.get 1 rfl).lt;have hsz:w.heap.size≤w3.heap.size:=hW3.bel.size;clear hFD hWD hE hF6 h4;clear hW3;refine St.go hF7 ?_;clear hF7 a7;refine s1k 1 inf1Ints hW7 rfl rfl rfl rfl rfl rfl ?_;intro w8 hKp hW8;replace hNN5:=Lay.keep1 hNN5 hKp hlt1;replace hNN8:=Lay.keep1 hNN8 hKp hlt1;clear hKp hW7;refine Qlb trivial rfl rfl ?_;refine s1k 1 inf1Ints hW8 rfl rfl rfl rfl rfl rfl ?_;intro w9 hKp hW9;replace hNN5:=Lay.keep1 hNN5 hKp hlt1;replace hNN8:=Lay.keep1 hNN8 hKp hlt1;clear hKp hW8;refine St.nil fun a10 h10=>?_;refine hK5 _ _ ?_;refine wp_seq_k fun K11 hK11=>?_;refine rg h10 fun ops=>?_;clear h10 a10;refine sS 1 3 Tryz.underlying45 rfl infTo hW9 trivial rfl rfl rfl rfl ?_;refine sTk 0 hW9 rfl rfl infTo rfl rfl rfl ?_;intro w12 hKp hW12;replace hNN5:=Lay.keep1 hNN5 hKp hlt0;replace hNN8:=Lay.keep1 hNN8 hKp hlt0;clear hKp hW9;refine St.nil fun a13 h13=>?_;refine hK11 _ _ ?_;refine wp_ret ?_;with_reducible repeat first | refine Qd ?_ | refine Qc ?_
  exact QS 0 h13 hW12 rfl rfl rfl Tryz.underlying45 rfl infTo ⟨_,_,_,_,rfl,⟨Lay.mono hNN5 (fun k hk _=>Nat.le_trans hsz hk),Lay.mono hNN8 (fun k hk _=>Nat.le_trans hsz hk),hbd⟩,hW12.bel⟩
theorem Qfi (x:Qz) (i:IP) (w:World) (h:IIn w All x i) (b1:x.regs.length≤4294967296) (b2:x.args.length≤4294967296) :
 Calls Tryz.prog 196 #[.agg #[.int .i64 x.op,.int .i64 x.a,.int .i64 x.b,.int .i64 x.c,.int .i64 x.k,.int .i64 x.n,.slice i.pR x.regs.length i.cR,.slice i.pA x.args.length i.cA]] w fun e w'=>∃ i':IP,e=.returned (.agg #[.int .i64 x.op,.int .i64 x.a,.int .i64 x.b,.int .i64 x.c,.int .i64 x.k,.int .i64 x.n,.slice i'.pR x.regs.length i'.cR,.slice i'.pA x.args.length i'.cA])∧IIn w' (ZS w.heap.size) x i'∧Below w.heap.size w w':=by
 have hr:Hid _:=h.regs;have hg:Hid _:=h.args;have hbd:=h.bnd;clear h;refine Qy (n:=12) Tryz.func196 rfl rfl rfl ?_;intro a hF;have hW:=Wd.start w;replace hF:Fr 12 a [(0,.agg #[.int .i64 x.op,.int .i64 x.a,.int .i64 x.b,.int .i64 x.c,.int .i64 x.k,.int .i64 x.n,.slice i.pR x.regs.length i.cR,.slice i.pA x.args.length i.cA])]:=hF;refine wp_seq_k fun K1 hK1=>?_;refine rg hF fun ops=>?_;clear hF a;refine sB hW trivial rfl rfl ?_;clear hW;intro w2 B2 hW2 hN;clear hN;refine QjX hW2 trivial rfl ?_;clear hW2;intro w3 B3 hW3 hN;clear hN;refine St.nil fun a4 h4=>?_;refine hK1 _ _ ?_;refine wp_seq_k fun K5 hK5=>?_;have hF6:Fr 12 a4 [(0,.agg #[.int .i64 x.op,.int .i64 x.a,.int .i64 x.b,.int .i64 x.c,.int .i64 x.k,.int .i64 x.n,.slice i.pR x.regs.length i.cR,.slice i.pA x.args.length i.cA]),(1,.pointer (some ⟨B2,0,none⟩)),(2,.pointer (some ⟨B3,0,none⟩))]:=(h4.keep (h4.keep (h4.keep h4.nil (t:=2) rfl) (t:=1) rfl) (t:=0) rfl);have ho1:a4.tmps.getD 1 undef=.pointer (some ⟨B2,0,none⟩):=h4.sl 1 _ rfl;refine QbK 7 ([(1,fun v _=>v=.pointer (some ⟨B2,0,none⟩)),(3,fun v _=>v=.pointer (some ⟨B2,6,none⟩)),(4,fun v _=>v=.slice i.pR x.regs.length i.cR),(5,fun v w'=>∃ p c,v=.slice p x.regs.length c∧intsL.In w' (ZS w3.heap.size) x.regs [.slice p x.regs.length c]),(6,fun v _=>v=.pointer (some ⟨B2,7,none⟩)),(7,fun v _=>v=.slice i.pA x.args.length i.cA),(8,fun v w'=>∃ p c,v=.slice p x.args.length c∧intsL.In w' (ZS w3.heap.size) x.args [.slice p x.args.length c]),(9,fun v _=>v=.pointer (some ⟨B2,6,none⟩))]:Qbh) (fun w'=>Wd w w' [(B3,#[.int .i64 0,.int .i64 0,.int .i64 0,.int .i64 0,.int .i64 0,.int .i64 0,.slice none 0 0,.slice none 0 0],59),(B2,#[.int .i64 x.op,.int .i64 x.a,.int .i64 x.b,.int .i64 x.c,.int .i64 x.k,.int .i64 x.n,.slice i.pR x.regs.length i.cR,.slice i.pA x.args.length i.cA],59)]∧Below w3.heap.size w3 w') (fun w w'=>Below w.heap.size w w') (outs:=[1]) (gs:=[]) (bs:=[true,true,true,true,true,true,true]) (by kernel_rfl) hF6 rfl (by kernel_rfl) (by kernel_rfl) ?hR ?hG ⟨hW3.drewN 1,ZH (m:=1) (Below.refl _ _)⟩ ⟨ho1,trivial⟩ ?hA ?hend
 case hR=>exact⟨fun _ _ _ _ h=>h,fun _ _ _ _ h=>h,fun _ _ _ _ h=>h,fun v w w' hr h=>by obtain⟨p,c,h1,h2⟩:=h;exact⟨p,c,h1,Lay.below h2 hr⟩,fun _ _ _ _ h=>h,fun _ _ _ _ h=>h,fun v w w' hr h=>by obtain⟨p,c,h1,h2⟩:=h;exact⟨p,c,h1,Lay.below h2 hr⟩,fun _ _ _ _ h=>h,trivial⟩
 case hG=>exact trivial
 case hA =>
  refine⟨fun a w hW hk K hK=>?_,?_⟩
  ·obtain⟨k0,-⟩:=hk
   have k0:a.tmps.getD 1 undef=.pointer (some ⟨B2,0,none⟩):=k0;go_simp;exact hK _ _ (Below.refl _ _) hW rfl
  refine⟨fun a w hW hk K hK=>?_,?_⟩
  ·obtain⟨k0,-⟩:=hk
   have k0:a.tmps.getD 3 undef=.pointer (some ⟨B2,6,none⟩):=k0;have c6:w.cell? ⟨B2,6,none⟩=some (.slice i.pR x.regs.length i.cR):=Qb (hW.1.get 1 rfl) 6 _ rfl;go_simp;exact hK _ _ (Below.refl _ _) hW rfl
  refine⟨fun a w hW hk K hK=>?_,?_⟩
  ·obtain⟨k0,-⟩:=hk
   have k0:a.tmps.getD 4 undef=.slice i.pR x.regs.length i.cR:=k0;go_simp;refine(ZZ _ _ _ w (Lay.below hr.out hW.1.bel) b1).mono ?_
   rintro e w9 ⟨p9,c9,rfl,h9,hb⟩;exact hK _ _ hb ⟨hW.1.below hb,Below.andThen hW.2 hb⟩ ⟨p9,c9,rfl,Lay.mono h9 (fun k hk _=>Nat.le_trans hW.2.size hk)⟩
  refine⟨fun a w hW hk K hK=>?_,?_⟩
  ·obtain⟨k0,-⟩:=hk
   have k0:a.tmps.getD 1 undef=.pointer (some ⟨B2,0,none⟩):=k0;go_simp;exact hK _ _ (Below.refl _ _) hW rfl
  refine⟨fun a w hW hk K hK=>?_,?_⟩
  ·obtain⟨k0,-⟩:=hk
   have k0:a.tmps.getD 6 undef=.pointer (some ⟨B2,7,none⟩):=k0;have c7:w.cell? ⟨B2,7,none⟩=some (.slice i.pA x.args.length i.cA):=Qb (hW.1.get 1 rfl) 7 _ rfl;go_simp;exact hK _ _ (Below.refl _ _) hW rfl
  refine⟨fun a w hW hk K hK=>?_,?_⟩
  ·obtain⟨k0,-⟩:=hk
   have k0:a.tmps.getD 7 undef=.slice i.pA x.args.length i.cA:=k0;go_simp;refine(ZZ _ _ _ w (Lay.below hg.out hW.1.bel) b2).mono ?_
   rintro e w9 ⟨p9,c9,rfl,h9,hb⟩;exact hK _ _ hb ⟨hW.1.below hb,Below.andThen hW.2 hb⟩ ⟨p9,c9,rfl,Lay.mono h9 (fun k hk _=>Nat.le_trans hW.2.size hk)⟩
  refine⟨fun a w hW hk K hK=>?_,?_⟩
  ·obtain⟨k0,-⟩:=hk
   have k0:a.tmps.getD 1 undef=.pointer (some ⟨B2,0,none⟩):=k0;go_simp;exact hK _ _ (Below.refl _ _) hW rfl
  trivial
 case hend =>
  intro ops a7 w7 hWD hE hFD;obtain⟨pN5,cN5,hd5,hNN5⟩:=hE 5 rfl
  replace hd5:a7.tmps.getD 5 undef=.slice pN5 x.regs.length cN5:=hd5;obtain⟨pN8,cN8,hd8,hNN8⟩:=hE 8 rfl
  replace hd8:a7.tmps.getD 8 undef=.slice pN8 x.args.length cN8:=hd8;have hd9:a7.tmps.getD 9 undef=.pointer (some ⟨B2,6,none⟩):=hE 9 rfl;have hF7:Fr 12 a7 [(9,.pointer (some ⟨B2,6,none⟩)),(8,.slice pN8 x.args.length cN8),(5,.slice pN5 x.regs.length cN5),(0,.agg #[.int .i64 x.op,.int .i64 x.a,.int .i64 x.b,.int .i64 x.c,.int .i64 x.k,.int .i64 x.n,.slice i.pR x.regs.length i.cR,.slice i.pA x.args.length i.cA]),(1,.pointer (some ⟨B2,0,none⟩)),(2,.pointer (some ⟨B3,0,none⟩))]:=(((hFD.cons hd5).cons hd8).cons hd9);clear hd5 hd8 hd9;have hW7:Wd w w7 [(B3,#[.int .i64 0,.int .i64 0,.int .i64 0,.int .i64 0,.int .i64 0,.int .i64 0,.slice none 0 0,.slice none 0 0],59),(B2,#[.int .i64 x.op,.int .i64 x.a,.int .i64 x.b,.int .i64 x.c,.int .i64 x.k,.int .i64 x.n,.slice i.pR x.regs.length i.cR,.slice i.pA x.args.length i.cA],59)]:=hWD.1;have hlt0:B3<w3.heap.size:=(hW3.get 0 rfl).lt;have hlt1:B2<w3.heap.size:=(hW3.get 1 rfl).lt;have hsz:w.heap.size≤w3.heap.size:=hW3.bel.size;clear hFD hWD hE hF6 h4;clear hW3;refine St.go hF7 ?_;clear hF7 a7;refine s1k 1 inf1Ints hW7 rfl rfl rfl rfl rfl rfl ?_;intro w8 hKp hW8;replace hNN5:=Lay.keep1 hNN5 hKp hlt1;replace hNN8:=Lay.keep1 hNN8 hKp hlt1;clear hKp hW7;refine Qgd trivial rfl rfl ?_;refine s1k 1 inf1Ints hW8 rfl rfl rfl rfl rfl rfl ?_;intro w9 hKp hW9;replace hNN5:=Lay.keep1 hNN5 hKp hlt1;replace hNN8:=Lay.keep1 hNN8 hKp hlt1;clear hKp hW8;refine St.nil fun a10 h10=>?_;refine hK5 _ _ ?_;refine wp_seq_k fun K11 hK11=>?_;refine rg h10 fun ops=>?_;clear h10 a10;refine sS 1 8 Tryz.underlying59 rfl infIns hW9 trivial rfl rfl rfl rfl ?_;refine sTk 0 hW9 rfl rfl infIns rfl rfl rfl ?_;intro w12 hKp hW12;replace hNN5:=Lay.keep1 hNN5 hKp hlt0;replace hNN8:=Lay.keep1 hNN8 hKp hlt0;clear hKp hW9;refine St.nil fun a13 h13=>?_;refine hK11 _ _ ?_;refine wp_ret ?_;with_reducible repeat first | refine Qd ?_ | refine Qc ?_
  exact QS 0 h13 hW12 rfl rfl rfl Tryz.underlying59 rfl infIns ⟨⟨pN5,cN5,pN8,cN8⟩,rfl,⟨Lay.mono hNN5 (fun k hk _=>Nat.le_trans hsz hk),Lay.mono hNN8 (fun k hk _=>Nat.le_trans hsz hk),hbd⟩,hW12.bel⟩
theorem Qft (x:MEnd) (i:EP) (w:World) (h:EIn w All x i) (b1:x.yes.regs.length≤4294967296) (b2:x.yes.args.length≤4294967296) (b3:x.no.regs.length≤4294967296) (b4:x.no.args.length≤4294967296) (b5:x.args.length≤4294967296) :
 Calls Tryz.prog 197 #[.agg #[.int .i64 x.op,.int .i64 x.a,.int .i64 x.yes.block,.slice i.pYR x.yes.regs.length i.cYR,.slice i.pYA x.yes.args.length i.cYA,.int .i64 x.no.block,.slice i.pNR x.no.regs.length i.cNR,.slice i.pNA x.no.args.length i.cNA,.slice i.pA x.args.length i.cA]] w fun e w'=>∃ i':EP,e=.returned (.agg #[.int .i64 x.op,.int .i64 x.a,.int .i64 x.yes.block,.slice i'.pYR x.yes.regs.length i'.cYR,.slice i'.pYA x.yes.args.length i'.cYA,.int .i64 x.no.block,.slice i'.pNR x.no.regs.length i'.cNR,.slice i'.pNA x.no.args.length i'.cNA,.slice i'.pA x.args.length i'.cA])∧EIn w' (ZS w.heap.size) x i'∧Below w.heap.size w w':=by
 have hy:Hid _:=h.yes;have hn:Hid _:=h.no;have hg:Hid _:=h.args;have hbd:=h.bnd;clear h;refine Qy (n:=16) Tryz.func197 rfl rfl rfl ?_;intro a hF;have hW:=Wd.start w;replace hF:Fr 16 a [(0,.agg #[.int .i64 x.op,.int .i64 x.a,.int .i64 x.yes.block,.slice i.pYR x.yes.regs.length i.cYR,.slice i.pYA x.yes.args.length i.cYA,.int .i64 x.no.block,.slice i.pNR x.no.regs.length i.cNR,.slice i.pNA x.no.args.length i.cNA,.slice i.pA x.args.length i.cA])]:=hF;refine wp_seq_k fun K1 hK1=>?_;refine rg hF fun ops=>?_;clear hF a;refine sB hW trivial rfl rfl ?_;clear hW;intro w2 B2 hW2 hN;clear hN;refine Qk8 hW2 trivial rfl ?_;clear hW2;intro w3 B3 hW3 hN;clear hN;refine St.nil fun a4 h4=>?_;refine hK1 _ _ ?_;refine wp_seq_k fun K5 hK5=>?_;have hF6:Fr 16 a4 [(0,.agg #[.int .i64 x.op,.int .i64 x.a,.int .i64 x.yes.block,.slice i.pYR x.yes.regs.length i.cYR,.slice i.pYA x.yes.args.length i.cYA,.int .i64 x.no.block,.slice i.pNR x.no.regs.length i.cNR,.slice i.pNA x.no.args.length i.cNA,.slice i.pA x.args.length i.cA]),(1,.pointer (some ⟨B2,0,none⟩)),(2,.pointer (some ⟨B3,0,none⟩))]:=(h4.keep (h4.keep (h4.keep h4.nil (t:=2) rfl) (t:=1) rfl) (t:=0) rfl);have ho1:a4.tmps.getD 1 undef=.pointer (some ⟨B2,0,none⟩):=h4.sl 1 _ rfl;refine QgZ 10 ([(1,fun v _=>v=.pointer (some ⟨B2,0,none⟩)),(3,fun v _=>v=.pointer (some ⟨B2,2,none⟩)),(4,fun v _=>v=.agg #[.int .i64 x.yes.block,.slice i.pYR x.yes.regs.length i.cYR,.slice i.pYA x.yes.args.length i.cYA]),(5,fun v w'=>∃ p c p2 c2,v=.agg #[.int .i64 x.yes.block,.slice p x.yes.regs.length c,.slice p2 x.yes.args.length c2]∧QeY w' (ZS w3.heap.size) x.yes p c p2 c2),(6,fun v _=>v=.pointer (some ⟨B2,5,none⟩)),(7,fun v _=>v=.agg #[.int .i64 x.no.block,.slice i.pNR x.no.regs.length i.cNR,.slice i.pNA x.no.args.length i.cNA]),(8,fun v w'=>∃ p c p2 c2,v=.agg #[.int .i64 x.no.block,.slice p x.no.regs.length c,.slice p2 x.no.args.length c2]∧QeY w' (ZS w3.heap.size) x.no p c p2 c2),(9,fun v _=>v=.pointer (some ⟨B2,8,none⟩)),(10,fun v _=>v=.slice i.pA x.args.length i.cA),(11,fun v w'=>∃ p c,v=.slice p x.args.length c∧intsL.In w' (ZS w3.heap.size) x.args [.slice p x.args.length c]),(12,fun v _=>v=.pointer (some ⟨B2,2,none⟩))]:Qbh) (fun w'=>Wd w w' [(B3,#[.int .i64 0,.int .i64 0,.int .i64 0,.slice none 0 0,.slice none 0 0,.int .i64 0,.slice none 0 0,.slice none 0 0,.slice none 0 0],47),(B2,#[.int .i64 x.op,.int .i64 x.a,.int .i64 x.yes.block,.slice i.pYR x.yes.regs.length i.cYR,.slice i.pYA x.yes.args.length i.cYA,.int .i64 x.no.block,.slice i.pNR x.no.regs.length i.cNR,.slice i.pNA x.no.args.length i.cNA,.slice i.pA x.args.length i.cA],47)]∧Below w3.heap.size w3 w') (fun w w'=>Below w.heap.size w w') (outs:=[1]) (gs:=[]) (bs:=[true,true,true,true,true,true,true,true,true,true]) (by kernel_rfl) hF6 rfl (by kernel_rfl) (by kernel_rfl) ?hR ?hG ⟨hW3.drewN 1,ZH (m:=1) (Below.refl _ _)⟩ ⟨ho1,trivial⟩ ?hA ?hend
 case hR=>exact⟨fun _ _ _ _ h=>h,fun _ _ _ _ h=>h,fun _ _ _ _ h=>h,fun v w w' hr h=>by obtain⟨p,c,p2,c2,h1,h2⟩:=h;exact⟨p,c,p2,c2,h1,⟨Lay.below h2.regs hr,Lay.below h2.args hr,h2.bnd⟩⟩,fun _ _ _ _ h=>h,fun _ _ _ _ h=>h,fun v w w' hr h=>by obtain⟨p,c,p2,c2,h1,h2⟩:=h;exact⟨p,c,p2,c2,h1,⟨Lay.below h2.regs hr,Lay.below h2.args hr,h2.bnd⟩⟩,fun _ _ _ _ h=>h,fun _ _ _ _ h=>h,fun v w w' hr h=>by obtain⟨p,c,h1,h2⟩:=h;exact⟨p,c,h1,Lay.below h2 hr⟩,fun _ _ _ _ h=>h,trivial⟩
 case hG=>exact trivial
 case hA =>
  refine⟨fun a w hW hk K hK=>?_,?_⟩
  ·obtain⟨k0,-⟩:=hk
   have k0:a.tmps.getD 1 undef=.pointer (some ⟨B2,0,none⟩):=k0;go_simp;exact hK _ _ (Below.refl _ _) hW rfl
  refine⟨fun a w hW hk K hK=>?_,?_⟩
  ·obtain⟨k0,-⟩:=hk
   have k0:a.tmps.getD 3 undef=.pointer (some ⟨B2,2,none⟩):=k0;have c2:w.cell? ⟨B2,2,none⟩=some (.int .i64 x.yes.block):=Qb (hW.1.get 1 rfl) 2 _ rfl;have c3:w.cell? ⟨B2,3,none⟩=some (.slice i.pYR x.yes.regs.length i.cYR):=Qb (hW.1.get 1 rfl) 3 _ rfl;have c4:w.cell? ⟨B2,4,none⟩=some (.slice i.pYA x.yes.args.length i.cYA):=Qb (hW.1.get 1 rfl) 4 _ rfl;go_simp;exact hK _ _ (Below.refl _ _) hW rfl
  refine⟨fun a w hW hk K hK=>?_,?_⟩
  ·obtain⟨k0,-⟩:=hk
   have k0:a.tmps.getD 4 undef=.agg #[.int .i64 x.yes.block,.slice i.pYR x.yes.regs.length i.cYR,.slice i.pYA x.yes.args.length i.cYA]:=k0;go_simp;refine(Qdx _ _ _ _ _ w ⟨Lay.below hy.out.regs hW.1.bel,Lay.below hy.out.args hW.1.bel,hy.out.bnd⟩ b1 b2).mono ?_
   rintro e w9 ⟨p9,c9,p8,c8,rfl,h9,hb⟩;exact hK _ _ hb ⟨hW.1.below hb,Below.andThen hW.2 hb⟩ ⟨p9,c9,p8,c8,rfl,⟨Lay.mono h9.regs (fun k hk _=>Nat.le_trans hW.2.size hk),Lay.mono h9.args (fun k hk _=>Nat.le_trans hW.2.size hk),h9.bnd⟩⟩
  refine⟨fun a w hW hk K hK=>?_,?_⟩
  ·obtain⟨k0,-⟩:=hk
   have k0:a.tmps.getD 1 undef=.pointer (some ⟨B2,0,none⟩):=k0;go_simp;exact hK _ _ (Below.refl _ _) hW rfl
  refine⟨fun a w hW hk K hK=>?_,?_⟩
  ·obtain⟨k0,-⟩:=hk
   have k0:a.tmps.getD 6 undef=.pointer (some ⟨B2,5,none⟩):=k0;have c5:w.cell? ⟨B2,5,none⟩=some (.int .i64 x.no.block):=Qb (hW.1.get 1 rfl) 5 _ rfl;have c6:w.cell? ⟨B2,6,none⟩=some (.slice i.pNR x.no.regs.length i.cNR):=Qb (hW.1.get 1 rfl) 6 _ rfl;have c7:w.cell? ⟨B2,7,none⟩=some (.slice i.pNA x.no.args.length i.cNA):=Qb (hW.1.get 1 rfl) 7 _ rfl;go_simp;exact hK _ _ (Below.refl _ _) hW rfl
  refine⟨fun a w hW hk K hK=>?_,?_⟩
  ·obtain⟨k0,-⟩:=hk
   have k0:a.tmps.getD 7 undef=.agg #[.int .i64 x.no.block,.slice i.pNR x.no.regs.length i.cNR,.slice i.pNA x.no.args.length i.cNA]:=k0;go_simp;refine(Qdx _ _ _ _ _ w ⟨Lay.below hn.out.regs hW.1.bel,Lay.below hn.out.args hW.1.bel,hn.out.bnd⟩ b3 b4).mono ?_
   rintro e w9 ⟨p9,c9,p8,c8,rfl,h9,hb⟩;exact hK _ _ hb ⟨hW.1.below hb,Below.andThen hW.2 hb⟩ ⟨p9,c9,p8,c8,rfl,⟨Lay.mono h9.regs (fun k hk _=>Nat.le_trans hW.2.size hk),Lay.mono h9.args (fun k hk _=>Nat.le_trans hW.2.size hk),h9.bnd⟩⟩
  refine⟨fun a w hW hk K hK=>?_,?_⟩
  ·obtain⟨k0,-⟩:=hk
   have k0:a.tmps.getD 1 undef=.pointer (some ⟨B2,0,none⟩):=k0;go_simp;exact hK _ _ (Below.refl _ _) hW rfl
  refine⟨fun a w hW hk K hK=>?_,?_⟩
  ·obtain⟨k0,-⟩:=hk
   have k0:a.tmps.getD 9 undef=.pointer (some ⟨B2,8,none⟩):=k0;have c8:w.cell? ⟨B2,8,none⟩=some (.slice i.pA x.args.length i.cA):=Qb (hW.1.get 1 rfl) 8 _ rfl;go_simp;exact hK _ _ (Below.refl _ _) hW rfl
  refine⟨fun a w hW hk K hK=>?_,?_⟩
  ·obtain⟨k0,-⟩:=hk
   have k0:a.tmps.getD 10 undef=.slice i.pA x.args.length i.cA:=k0;go_simp;refine(ZZ _ _ _ w (Lay.below hg.out hW.1.bel) b5).mono ?_
   rintro e w9 ⟨p9,c9,rfl,h9,hb⟩;exact hK _ _ hb ⟨hW.1.below hb,Below.andThen hW.2 hb⟩ ⟨p9,c9,rfl,Lay.mono h9 (fun k hk _=>Nat.le_trans hW.2.size hk)⟩
  refine⟨fun a w hW hk K hK=>?_,?_⟩
  ·obtain⟨k0,-⟩:=hk
   have k0:a.tmps.getD 1 undef=.pointer (some ⟨B2,0,none⟩):=k0;go_simp;exact hK _ _ (Below.refl _ _) hW rfl
  trivial
 case hend =>
  intro ops a7 w7 hWD hE hFD;obtain⟨pN5r,cN5r,pN5a,cN5a,hd5,⟨hN5r,hN5a,hbdN5⟩⟩:=hE 5 rfl
  replace hd5:a7.tmps.getD 5 undef=.agg #[.int .i64 x.yes.block,.slice pN5r x.yes.regs.length cN5r,.slice pN5a x.yes.args.length cN5a]:=hd5;obtain⟨pN8r,cN8r,pN8a,cN8a,hd8,⟨hN8r,hN8a,hbdN8⟩⟩:=hE 8 rfl
  replace hd8:a7.tmps.getD 8 undef=.agg #[.int .i64 x.no.block,.slice pN8r x.no.regs.length cN8r,.slice pN8a x.no.args.length cN8a]:=hd8;obtain⟨pN11,cN11,hd11,hNN11⟩:=hE 11 rfl
  replace hd11:a7.tmps.getD 11 undef=.slice pN11 x.args.length cN11:=hd11;have hd12:a7.tmps.getD 12 undef=.pointer (some ⟨B2,2,none⟩):=hE 12 rfl;have hF7:Fr 16 a7 [(12,.pointer (some ⟨B2,2,none⟩)),(11,.slice pN11 x.args.length cN11),(8,.agg #[.int .i64 x.no.block,.slice pN8r x.no.regs.length cN8r,.slice pN8a x.no.args.length cN8a]),(5,.agg #[.int .i64 x.yes.block,.slice pN5r x.yes.regs.length cN5r,.slice pN5a x.yes.args.length cN5a]),(0,.agg #[.int .i64 x.op,.int .i64 x.a,.int .i64 x.yes.block,.slice i.pYR x.yes.regs.length i.cYR,.slice i.pYA x.yes.args.length i.cYA,.int .i64 x.no.block,.slice i.pNR x.no.regs.length i.cNR,.slice i.pNA x.no.args.length i.cNA,.slice i.pA x.args.length i.cA]),(1,.pointer (some ⟨B2,0,none⟩)),(2,.pointer (some ⟨B3,0,none⟩))]:=((((hFD.cons hd5).cons hd8).cons hd11).cons hd12);clear hd5 hd8 hd11 hd12;have hW7:Wd w w7 [(B3,#[.int .i64 0,.int .i64 0,.int .i64 0,.slice none 0 0,.slice none 0 0,.int .i64 0,.slice none 0 0,.slice none 0 0,.slice none 0 0],47),(B2,#[.int .i64 x.op,.int .i64 x.a,.int .i64 x.yes.block,.slice i.pYR x.yes.regs.length i.cYR,.slice i.pYA x.yes.args.length i.cYA,.int .i64 x.no.block,.slice i.pNR x.no.regs.length i.cNR,.slice i.pNA x.no.args.length i.cNA,.slice i.pA x.args.length i.cA],47)]:=hWD.1;have hlt0:B3<w3.heap.size:=(hW3.get 0 rfl).lt;have hlt1:B2<w3.heap.size:=(hW3.get 1 rfl).lt;have hsz:w.heap.size≤w3.heap.size:=hW3.bel.size;clear hFD hWD hE hF6 h4;clear hW3;refine St.go hF7 ?_;clear hF7 a7;refine sTk 1 hW7 rfl rfl infTo rfl rfl rfl ?_;intro w8 hKp hW8;replace hNN11:=Lay.keep1 hNN11 hKp hlt1;replace hN5r:=Lay.keep1 hN5r hKp hlt1;replace hN5a:=Lay.keep1 hN5a hKp hlt1;replace hN8r:=Lay.keep1 hN8r hKp hlt1;replace hN8a:=Lay.keep1 hN8a hKp hlt1;clear hKp hW7;refine QkX trivial rfl rfl ?_;refine sTk 1 hW8 rfl rfl infTo rfl rfl rfl ?_;intro w9 hKp hW9;replace hNN11:=Lay.keep1 hNN11 hKp hlt1;replace hN5r:=Lay.keep1 hN5r hKp hlt1;replace hN5a:=Lay.keep1 hN5a hKp hlt1;replace hN8r:=Lay.keep1 hN8r hKp hlt1;replace hN8a:=Lay.keep1 hN8a hKp hlt1;clear hKp hW8;refine QkF trivial rfl rfl ?_;refine s1k 1 inf1Ints hW9 rfl rfl rfl rfl rfl rfl ?_;intro w10 hKp hW10;replace hNN11:=Lay.keep1 hNN11 hKp hlt1;replace hN5r:=Lay.keep1 hN5r hKp hlt1;replace hN5a:=Lay.keep1 hN5a hKp hlt1;replace hN8r:=Lay.keep1 hN8r hKp hlt1;replace hN8a:=Lay.keep1 hN8a hKp hlt1;clear hKp hW9;refine St.nil fun a11 h11=>?_;refine hK5 _ _ ?_;refine wp_seq_k fun K12 hK12=>?_;refine rg h11 fun ops=>?_;clear h11 a11;refine sS 1 9 Tryz.underlying47 rfl infEnd hW10 trivial rfl rfl rfl rfl ?_;refine sTk 0 hW10 rfl rfl infEnd rfl rfl rfl ?_;intro w13 hKp hW13;replace hNN11:=Lay.keep1 hNN11 hKp hlt0;replace hN5r:=Lay.keep1 hN5r hKp hlt0;replace hN5a:=Lay.keep1 hN5a hKp hlt0;replace hN8r:=Lay.keep1 hN8r hKp hlt0;replace hN8a:=Lay.keep1 hN8a hKp hlt0;clear hKp hW10;refine St.nil fun a14 h14=>?_;refine hK12 _ _ ?_;refine wp_ret ?_;with_reducible repeat first | refine Qd ?_ | refine Qc ?_
  exact QS 0 h14 hW13 rfl rfl rfl Tryz.underlying47 rfl infEnd ⟨⟨pN5r,cN5r,pN5a,cN5a,pN8r,cN8r,pN8a,cN8a,pN11,cN11⟩,rfl,⟨⟨Lay.mono hN5r (fun k hk _=>Nat.le_trans hsz hk),Lay.mono hN5a (fun k hk _=>Nat.le_trans hsz hk),hy.out.bnd⟩,⟨Lay.mono hN8r (fun k hk _=>Nat.le_trans hsz hk),Lay.mono hN8a (fun k hk _=>Nat.le_trans hsz hk),hn.out.bnd⟩,Lay.mono hNN11 (fun k hk _=>Nat.le_trans hsz hk),hbd⟩,hW13.bel⟩
structure TP where
 p:Option Addr
 c:Nat
structure YIn (w:World) (O:Nat→Prop){n:Nat}(x:TT n) (i:TP):Prop where
 tree:TIn w O x i.p
 ok:x.ok
section
variable {w w':World}{O O':Nat→Prop}{n:Nat}{x:TT n}{i:TP}
theorem YIn.keep (hb:∀ k,O k→k<w.heap.size→w'.heap[k]?=w.heap[k]?) (hl:∀ k,O k→k<w.heap.size→O' k) (h:YIn w O x i):YIn w' O' x i:=⟨h.tree.keep hb hl,h.ok⟩
theorem YIn.below (h:YIn w O x i) (hbl:Below w.heap.size w w'):YIn w' O x i:=h.keep (fun k _ hk=>hbl.block k hk) (fun _ h _=>h)
theorem YIn.mono (h:YIn w O x i) (hl:∀ k,O k→k<w.heap.size→O' k):YIn w O' x i:=h.keep (fun k _ _=>rfl) hl
theorem Qha (h:YIn w O x i):(Lay.tt n).In w O x [.int .i64 x.kind,.int .i64 x.r,.slice i.p x.len i.c]:=⟨i.p,i.c,rfl,h.tree,h.ok⟩
theorem QjG {l:List (TT n)}{p:Option Addr}{m c:Nat}(h:(Lay.tt n).list.In w O l [.slice p m c]){q:Nat}(hx:l[q]?=some x) :
 ∃ (g o:Nat) (i:TP),p=some ⟨g,o,none⟩∧w.rangeAt g (o+q*3) [.int .i64 x.kind,.int .i64 x.r,.slice i.p x.len i.c]∧YIn w O x i:=by
 obtain⟨g,o,ds,e,h1,h2,h3,h4⟩:=Lay.list_at h hx
 obtain⟨a,c,rfl,h5,h6⟩:=h4
 have hs:(Lay.tt n).size=3:=rfl;rw[hs] at h3
 exact⟨g,o,⟨a,c⟩,e,fun j v hj=>(h3 j (by have:=(List.getElem?_eq_some_iff.1 hj).1;simpa using this)).trans hj,h5,h6⟩
end
theorem Wd.of {w0 w:World}(b:Below w0.heap.size w0 w):Wd w0 w []:=⟨b,fun i x h=>by simp at h,fun i x h=>by simp at h,fun i j x y h=>by simp at h⟩
section
variable {α:Type}{A:Lay α}{e:TypeId}{w w':World}{lo g n q s:Nat}{l:List α}{xs:List Value}{x:α}{ds:List Value}
theorem ZK.start {m:Nat}(hs:A.size=s) (h:w.ownsRow lo e s (.slice (some ⟨g,0,none⟩) m m) m xs):ZK A e w lo (.slice (some ⟨g,0,none⟩) 0 m) (l.take 0) []:=by
 subst hs;obtain⟨hl,h2⟩:=h
 rcases h2 with ⟨h',_⟩|⟨g',cap',cur,h',hb,hg,hnc,hcm,hcs,htake⟩
 ·simp at h'
 ·simp only[Value.slice.injEq,Option.some.injEq,Addr.mk.injEq,and_true,true_and] at h'
  obtain⟨rfl,rfl⟩:=h'
  exact⟨⟨by simp,.inr ⟨g,m,cur,rfl,hb,hg,Nat.zero_le _,hcm,hcs,by simp⟩⟩,fun i x h=>by simp at h⟩
theorem ZK.blk (h:ZK A e w lo (.slice (some ⟨g,0,none⟩) q n) l xs) (hs:A.size=s):∃ c,Blk w g c e∧c.size=n*s:=by
 subst hs;obtain⟨hl,h2⟩:=h.own
 rcases h2 with ⟨h',_⟩|⟨g',cap',cur,h',hb,hg,hnc,hcm,hcs,htake⟩
 ·simp at h'
 ·simp only[Value.slice.injEq,Option.some.injEq,Addr.mk.injEq,and_true,true_and] at h'
  obtain⟨rfl,-,rfl⟩:=h'
  exact⟨cur,hg,hcs⟩
theorem ZK.fillq (h:ZK A e w lo (.slice (some ⟨g,0,none⟩) q n) (l.take q) xs) (hs:A.size=s) (hq:q<l.length) (hn:l.length=n) (hx0:l[q]?=some x) (hx:A.In w (fun k=>lo≤k∧k≠g) x ds) (hw:w'=w.setCells g (0+q*s) ds) :
 ∃ xs',ZK A e w' lo (.slice (some ⟨g,0,none⟩) (q+1) n) (l.take (q+1)) xs':=by
 subst hs hw;have hlq:(l.take q).length=q:=by simp;omega
 have T:l.take (q+1)=l.take q++[x]:=by rw[List.take_add_one,hx0];rfl
 have:=ZK.fill (l:=l.take q) (g:=g) (n:=n) (by rw[hlq];exact h) hx (by omega)
 rw[hlq] at this
 rw[T,Nat.zero_add]
 exact⟨_,this⟩
theorem ZK.done (h:ZK A e w lo (.slice (some ⟨g,0,none⟩) q n) (l.take q) xs) (hq:q=l.length):A.list.In w (ZS lo) l [.slice (some ⟨g,0,none⟩) l.length n]:=by
 have:=h.lay
 subst hq;rw[List.take_length] at this
 exact this
end
section
variable {n:Nat}{a:Act}{L:List (Tmp × Value)}{w0 w:World}{Bs:List (Nat × Array Value × TypeId)}{Q:Exit→Act→World→Prop}{ops:Array Oper}{rest:List Oper}{t:Tmp}{u v:Value}{ty ty2 ty3:TypeId}{pos:String}{aft:Array Edge}{gd:Option (Nat × Bool)}{x y:Operand}
theorem QiT {g j:Nat}{c:Array Value}{bt:TypeId}{cells:List Value}(hW:Wd w0 w Bs) (hg:w0.heap.size≤g) (hne:∀ (i:Nat) x,Bs[i]?=some x→x.1≠g) (hB:Blk w g c bt)
 (hx:Qn L x=some (.pointer (some ⟨g,j,none⟩))) (hy:Qn L y=some (.agg cells.toArray)) (hi:(Tryz.prog.info? ty2).map (·.size)=some cells.length) (h1:cells.all (·.oneCell')=true) (hs:j+cells.length≤c.size)
 (k:∀ w',Wd w0 w' Bs→w'=w.setCells g j cells→St n L ops Q rest w'):St n L ops Q (⟨none,.store ty2 x y,ty,pos,aft,none⟩::rest) w :=
 QlG hW hg hne hB hx hy hi h1 hs (fun h=>k _ h rfl)
end
theorem underIns:Tryz.prog.underlying 42=some (.slice 59):=by kernel_rfl
theorem underBlocks:Tryz.prog.underlying 53=some (.slice 84):=by kernel_rfl
theorem underFuncs:Tryz.prog.underlying 22=some (.slice 55):=by kernel_rfl
theorem QdL {t:TypeId}{z:Value}{s b:Nat}(h:(Tryz.prog.info? t).map (fun i=>(i.zero,i.size,i.bytes))=some (some z,s,b)):∃ i,Tryz.prog.info? t=some i∧i.zero=some z∧i.size=s∧i.bytes=b:=by
 obtain⟨i,hi,e⟩:=Option.map_eq_some_iff.1 h
 simp only[Prod.mk.injEq] at e
 exact⟨i,hi,e⟩
theorem infoIns:(Tryz.prog.info? 59).map (fun i=>(i.zero,i.size,i.bytes))=some (some (.agg #[.int .i64 0,.int .i64 0,.int .i64 0,.int .i64 0,.int .i64 0,.int .i64 0,.slice none 0 0,.slice none 0 0]),8,96):=by kernel_rfl
theorem infoBlock:(Tryz.prog.info? 84).map (fun i=>(i.zero,i.size,i.bytes))=some (some (.agg #[.int .i64 0,.slice none 0 0,.slice none 0 0,.int .i64 0,.int .i64 0,.int .i64 0,.slice none 0 0,.slice none 0 0,.int .i64 0,.slice none 0 0,.slice none 0 0,.slice none 0 0]),12,208):=by kernel_rfl
theorem infoFunc:(Tryz.prog.info? 55).map (fun i=>(i.zero,i.size,i.bytes))=some (some (.agg #[.int .i64 0,.slice none 0 0,.slice none 0 0,.slice none 0 0]),4,80):=by kernel_rfl
theorem Qao {n:Nat}(l:List (TT n)) (p:Option Addr) (c:Nat) (w:World) (hl0:(Lay.tt n).list.In w All l [.slice p l.length c]) (hb0:l.length≤4294967296)
 (hf:∀ x∈l,∀ (i:TP) (w:World),YIn w All x i→Calls Tryz.prog 153 #[.agg #[.int .i64 x.kind,.int .i64 x.r,.slice i.p x.len i.c]] w fun e w'=>∃ v,e=.returned v∧(∃ i':TP,v=.agg #[.int .i64 x.kind,.int .i64 x.r,.slice i'.p x.len i'.c]∧YIn w' (ZS w.heap.size) x i')∧Below w.heap.size w w') :
 Calls Tryz.prog 152 #[.slice p l.length c,.func (.func 153) #[] #[]] w fun e w'=>Qfx (Lay.tt n) w w' l e:=by
 have hl:Hid _:=hl0;clear hl0;obtain⟨i0,hi,hz0,hz1,hz2⟩:=infoT_parts
 refine Qy (n:=26) Tryz.func152 rfl rfl rfl ?_;intro a hF;have hW:=Wd.start w;replace hF:Fr 26 a [(0,.slice p l.length c),(1,.func (.func 153) #[] #[])]:=hF;refine wp_seq_k fun K1 hK1=>?_;refine rg hF fun ops=>?_;clear hF a;refine sa trivial rfl rfl ?_;refine St.nil fun a2 h2=>?_;refine hK1 _ _ ?_;refine wp_seq_k fun K3 hK3=>?_;refine rg h2 fun ops=>?_;clear h2 a2;refine sm trivial rfl rfl ?_;refine Qa4 trivial rfl rfl ?_;refine Qiw underTs hi hz0 hz1 (by rw[hz2];omega) (by unfold maxLen;omega) hW trivial rfl rfl ?_;rintro w4 g xs0 rfl hO hbl hW4;clear hW;refine sa trivial rfl rfl ?_;refine St.nil fun a5 h5=>?_;refine hK3 _ _ ?_;refine wp_seq_k fun K6 hK6=>?_;refine wp_seq_k fun K7 hK7=>?_;refine rg h5 fun ops=>?_;clear h5 a5;refine sm trivial rfl rfl ?_;refine Qa4 trivial rfl rfl ?_;refine sm trivial rfl rfl ?_;refine St.nil fun a8 h8=>?_;refine hK7 _ _ ?_;refine wp_block ?_;refine Qas (fun r a w'=>∃ q:Nat,q≤l.length∧r=l.length - q∧(∃ xs,ZK (Lay.tt n) 79 w' w.heap.size (.slice (some ⟨w.heap.size,0,none⟩) q l.length) (l.take q) xs)∧Fr 26 a [(1,.func (.func 153) #[] #[]),(0,.slice p l.length c),(4,.slice none 0 0),(5,.slice (some ⟨w.heap.size,0,none⟩) l.length l.length),(11,.slice p l.length c),(12,.int .i64 (l.length:Int)),(13,.int .i64 (q:Int))]∧Below w.heap.size w w') l.length ⟨0,Nat.zero_le _,rfl,⟨_,ZK.start rfl hO⟩,(h8.keep (h8.keep (h8.keep (h8.keep (h8.keep (h8.keep (h8.keep h8.nil (t:=13) rfl) (t:=12) rfl) (t:=11) rfl) (t:=5) rfl) (t:=4) rfl) (t:=0) rfl) (t:=1) rfl),hbl⟩ ?_;clear h8 hW4 hO hbl;rintro r a9 w9 ⟨q,hq,hr,⟨xs,hA0⟩,hF9,hB0⟩ KL hKL;have hA:Hid _:=hA0;have hB:Hid _:=hB0;clear hA0 hB0;have hW9:=Wd.start w9;refine wp_seq_k fun K10 hK10=>?_;refine rg hF9 fun ops=>?_;clear hF9 a9;refine slt trivial rfl rfl rfl ?_;refine St.nil fun a11 h11=>?_;refine hK10 _ _ ?_;refine wp_seq_k fun K12 hK12=>?_;refine Qv (t:=14) h11 rfl (fun hb=>?_) (fun hb=>?_)
 ·have hlt1:q<l.length:=by have:=of_decide_eq_true hb;omega
  clear hb;obtain⟨x,hx1⟩:∃ v9,(l)[q]?=some v9:=⟨_,List.getElem?_eq_getElem hlt1⟩
  obtain⟨g1,o1,y1,hp1,E1,In1⟩:=QjG (Lay.below hl.out hB.out) hx1
  replace In1:Hid _:=In1;replace hp1:Hid _:=hp1;replace hx1:Hid _:=hx1;replace E1:Hid _:=E1;have hpg:Hid ((some ⟨w.heap.size,0,none⟩:Option Addr)=some ⟨w.heap.size,0,none⟩):=rfl;refine wp_skip ?_;refine hK12 _ _ ?_;refine wp_seq_k fun K13 hK13=>?_;refine wp_block ?_;refine wp_seq_k fun K14 hK14=>?_;refine rg h11 fun ops=>?_;clear h11 a11;refine sm trivial rfl rfl ?_;refine QcT hp1.out hlt1 trivial rfl rfl rfl ?_;refine sSE Tryz.underlying79 rfl (Q4 E1.out hW9.bel) infType trivial rfl rfl ?_;refine Qie hW9 trivial rfl ?_;clear hW9;intro w15 B15 hW15 hN;clear hN;refine sa trivial rfl rfl ?_;refine sT 0 hW15 rfl rfl infType rfl rfl rfl ?_;clear hW15;intro w16 hW16;refine St.nil fun a17 h17=>?_;refine hK14 _ _ ?_;refine rg h17 fun ops=>?_;clear h17 a17;refine sm trivial rfl rfl ?_;refine sm trivial rfl rfl ?_;refine sm trivial rfl rfl ?_;refine sS 0 3 Tryz.underlying79 rfl infType hW16 trivial rfl rfl rfl rfl ?_;refine Qi0 cf153 hW16 (hf x (List.mem_of_getElem? hx1.out) y1 _ (In1.out.below hW16.bel)) trivial rfl rfl rfl ?_;rintro v9 w18 ⟨i2,rfl,hI⟩ hb9 hW18;refine QcT hpg.out hlt1 trivial rfl rfl rfl ?_;intro a19 h19;refine St.go h19 ?_;clear h19 a19;have hA2:=hA.out.below hW18.bel;obtain⟨cg,hBk,hcs⟩:=hA2.blk (s:=3) rfl
  have hb8:Below w.heap.size w w18:=Below.andThen hB.out hW18.bel;have hs1:w9.heap.size≤w16.heap.size:=hW16.bel.size;have hs2:w.heap.size≤w9.heap.size:=hB.out.size;have hs3:=(hA.out.lo_le (g:=w.heap.size) rfl).2;have hI2:(Lay.tt n).In w18 (fun k=>w.heap.size≤k∧k≠w.heap.size) x [.int .i64 x.kind,.int .i64 x.r,.slice i2.p x.len i2.c]:=Lay.mono (Qha hI) (fun k hk _=>⟨by have:_≤k:=hk;omega,by have:_≤k:=hk;omega⟩);clear hW18 hW16;refine QiT (Wd.of hb8) (Nat.le_refl _) (fun i x h=>by simp at h) hBk rfl rfl infType rfl (by simp only[List.length_cons,List.length_nil];omega) ?_;intro w20 hW20 hwe;obtain⟨xs2,hA3⟩:=hA2.fillq (s:=3) (w':=w20) rfl hlt1 rfl hx1.out hI2 hwe
  clear hwe hA2 hBk hcs hI2;refine St.nil fun a21 h21=>?_;refine hK13 _ _ ?_;refine rg h21 fun ops=>?_;clear h21 a21;refine sad (by omega) trivial rfl rfl rfl ?_;refine sm trivial rfl rfl ?_;refine St.nil fun a22 h22=>?_;exact hKL _ _ (l.length - (q+1)) (by omega) ⟨q+1,by omega,rfl,⟨_,hA3⟩,(h22.keep (h22.keep (h22.keep (h22.keep (h22.keep (h22.keep (h22.keep h22.nil (t:=13) rfl) (t:=12) rfl) (t:=11) rfl) (t:=5) rfl) (t:=4) rfl) (t:=0) rfl) (t:=1) rfl),hW20.bel⟩
 have hge:q=l.length:=by have:=of_decide_eq_false hb;omega
 clear hb;refine wp_exit ?_;refine hK6 _ _ ?_;refine wp_seq_k fun K23 hK23=>?_;refine rg h11 fun ops=>?_;clear h11 a11;refine sm trivial rfl rfl ?_;refine sa trivial rfl rfl ?_;refine St.nil fun a24 h24=>?_;refine hK23 _ _ ?_;refine wp_ret ?_;with_reducible repeat first | refine Qd ?_ | refine Qc ?_
 exact Qq (t:=4) h24 rfl rfl ⟨_,_,rfl,hA.out.done hge,hB.out⟩
theorem Qfg (l:List (Qz)) (p:Option Addr) (c:Nat) (w:World) (hl0:insL.list.In w All l [.slice p l.length c]) (hb0:l.length≤4294967296)
 (hf:∀ x∈l,∀ (i:IP) (w:World),IIn w All x i→Calls Tryz.prog 196 #[.agg #[.int .i64 x.op,.int .i64 x.a,.int .i64 x.b,.int .i64 x.c,.int .i64 x.k,.int .i64 x.n,.slice i.pR x.regs.length i.cR,.slice i.pA x.args.length i.cA]] w fun e w'=>∃ v,e=.returned v∧(∃ i':IP,v=.agg #[.int .i64 x.op,.int .i64 x.a,.int .i64 x.b,.int .i64 x.c,.int .i64 x.k,.int .i64 x.n,.slice i'.pR x.regs.length i'.cR,.slice i'.pA x.args.length i'.cA]∧IIn w' (ZS w.heap.size) x i')∧Below w.heap.size w w') :
 Calls Tryz.prog 195 #[.slice p l.length c,.func (.func 196) #[] #[]] w fun e w'=>Qfx insL w w' l e:=by
 have hl:Hid _:=hl0;clear hl0;obtain⟨i0,hi,hz0,hz1,hz2⟩:=(QdL infoIns)
 refine Qy (n:=26) Tryz.func195 rfl rfl rfl ?_;intro a hF;have hW:=Wd.start w;replace hF:Fr 26 a [(0,.slice p l.length c),(1,.func (.func 196) #[] #[])]:=hF;refine wp_seq_k fun K1 hK1=>?_;refine rg hF fun ops=>?_;clear hF a;refine sa trivial rfl rfl ?_;refine St.nil fun a2 h2=>?_;refine hK1 _ _ ?_;refine wp_seq_k fun K3 hK3=>?_;refine rg h2 fun ops=>?_;clear h2 a2;refine sm trivial rfl rfl ?_;refine QeT trivial rfl rfl ?_;refine Qiw underIns hi hz0 hz1 (by rw[hz2];omega) (by unfold maxLen;omega) hW trivial rfl rfl ?_;rintro w4 g xs0 rfl hO hbl hW4;clear hW;refine sa trivial rfl rfl ?_;refine St.nil fun a5 h5=>?_;refine hK3 _ _ ?_;refine wp_seq_k fun K6 hK6=>?_;refine wp_seq_k fun K7 hK7=>?_;refine rg h5 fun ops=>?_;clear h5 a5;refine sm trivial rfl rfl ?_;refine QeT trivial rfl rfl ?_;refine sm trivial rfl rfl ?_;refine St.nil fun a8 h8=>?_;refine hK7 _ _ ?_;refine wp_block ?_;refine Qas (fun r a w'=>∃ q:Nat,q≤l.length∧r=l.length - q∧(∃ xs,ZK insL 59 w' w.heap.size (.slice (some ⟨w.heap.size,0,none⟩) q l.length) (l.take q) xs)∧Fr 26 a [(1,.func (.func 196) #[] #[]),(0,.slice p l.length c),(4,.slice none 0 0),(5,.slice (some ⟨w.heap.size,0,none⟩) l.length l.length),(11,.slice p l.length c),(12,.int .i64 (l.length:Int)),(13,.int .i64 (q:Int))]∧Below w.heap.size w w') l.length ⟨0,Nat.zero_le _,rfl,⟨_,ZK.start rfl hO⟩,(h8.keep (h8.keep (h8.keep (h8.keep (h8.keep (h8.keep (h8.keep h8.nil (t:=13) rfl) (t:=12) rfl) (t:=11) rfl) (t:=5) rfl) (t:=4) rfl) (t:=0) rfl) (t:=1) rfl),hbl⟩ ?_;clear h8 hW4 hO hbl;rintro r a9 w9 ⟨q,hq,hr,⟨xs,hA0⟩,hF9,hB0⟩ KL hKL;have hA:Hid _:=hA0;have hB:Hid _:=hB0;clear hA0 hB0;have hW9:=Wd.start w9;refine wp_seq_k fun K10 hK10=>?_;refine rg hF9 fun ops=>?_;clear hF9 a9;refine slt trivial rfl rfl rfl ?_;refine St.nil fun a11 h11=>?_;refine hK10 _ _ ?_;refine wp_seq_k fun K12 hK12=>?_;refine Qv (t:=14) h11 rfl (fun hb=>?_) (fun hb=>?_)
 ·have hlt1:q<l.length:=by have:=of_decide_eq_true hb;omega
  clear hb;obtain⟨x,hx1⟩:∃ v9,(l)[q]?=some v9:=⟨_,List.getElem?_eq_getElem hlt1⟩
  obtain⟨g1,o1,i1,hp1,E1,In1⟩:=Qf1 (Lay.below hl.out hB.out) hx1
  replace In1:Hid _:=In1;replace hp1:Hid _:=hp1;replace hx1:Hid _:=hx1;replace E1:Hid _:=E1;have hpg:Hid ((some ⟨w.heap.size,0,none⟩:Option Addr)=some ⟨w.heap.size,0,none⟩):=rfl;refine wp_skip ?_;refine hK12 _ _ ?_;refine wp_seq_k fun K13 hK13=>?_;refine wp_block ?_;refine wp_seq_k fun K14 hK14=>?_;refine rg h11 fun ops=>?_;clear h11 a11;refine sm trivial rfl rfl ?_;refine Qg3 hp1.out hlt1 trivial rfl rfl rfl ?_;refine sSE Tryz.underlying59 rfl (Q4 E1.out hW9.bel) infIns trivial rfl rfl ?_;refine QjX hW9 trivial rfl ?_;clear hW9;intro w15 B15 hW15 hN;clear hN;refine sa trivial rfl rfl ?_;refine sT 0 hW15 rfl rfl infIns rfl rfl rfl ?_;clear hW15;intro w16 hW16;refine St.nil fun a17 h17=>?_;refine hK14 _ _ ?_;refine rg h17 fun ops=>?_;clear h17 a17;refine sm trivial rfl rfl ?_;refine sm trivial rfl rfl ?_;refine sm trivial rfl rfl ?_;refine sS 0 8 Tryz.underlying59 rfl infIns hW16 trivial rfl rfl rfl rfl ?_;refine Qi0 cf196 hW16 (hf x (List.mem_of_getElem? hx1.out) i1 _ (In1.out.below hW16.bel)) trivial rfl rfl rfl ?_;rintro v9 w18 ⟨i2,rfl,hI⟩ hb9 hW18;refine Qg3 hpg.out hlt1 trivial rfl rfl rfl ?_;intro a19 h19;refine St.go h19 ?_;clear h19 a19;have hA2:=hA.out.below hW18.bel;obtain⟨cg,hBk,hcs⟩:=hA2.blk (s:=8) rfl
  have hb8:Below w.heap.size w w18:=Below.andThen hB.out hW18.bel;have hs1:w9.heap.size≤w16.heap.size:=hW16.bel.size;have hs2:w.heap.size≤w9.heap.size:=hB.out.size;have hs3:=(hA.out.lo_le (g:=w.heap.size) rfl).2;have hI2:insL.In w18 (fun k=>w.heap.size≤k∧k≠w.heap.size) x [.int .i64 x.op,.int .i64 x.a,.int .i64 x.b,.int .i64 x.c,.int .i64 x.k,.int .i64 x.n,.slice i2.pR x.regs.length i2.cR,.slice i2.pA x.args.length i2.cA]:=Lay.mono (Qjh hI) (fun k hk _=>⟨by have:_≤k:=hk;omega,by have:_≤k:=hk;omega⟩);clear hW18 hW16;refine QiT (Wd.of hb8) (Nat.le_refl _) (fun i x h=>by simp at h) hBk rfl rfl infIns rfl (by simp only[List.length_cons,List.length_nil];omega) ?_;intro w20 hW20 hwe;obtain⟨xs2,hA3⟩:=hA2.fillq (s:=8) (w':=w20) rfl hlt1 rfl hx1.out hI2 hwe
  clear hwe hA2 hBk hcs hI2;refine St.nil fun a21 h21=>?_;refine hK13 _ _ ?_;refine rg h21 fun ops=>?_;clear h21 a21;refine sad (by omega) trivial rfl rfl rfl ?_;refine sm trivial rfl rfl ?_;refine St.nil fun a22 h22=>?_;exact hKL _ _ (l.length - (q+1)) (by omega) ⟨q+1,by omega,rfl,⟨_,hA3⟩,(h22.keep (h22.keep (h22.keep (h22.keep (h22.keep (h22.keep (h22.keep h22.nil (t:=13) rfl) (t:=12) rfl) (t:=11) rfl) (t:=5) rfl) (t:=4) rfl) (t:=0) rfl) (t:=1) rfl),hW20.bel⟩
 have hge:q=l.length:=by have:=of_decide_eq_false hb;omega
 clear hb;refine wp_exit ?_;refine hK6 _ _ ?_;refine wp_seq_k fun K23 hK23=>?_;refine rg h11 fun ops=>?_;clear h11 a11;refine sm trivial rfl rfl ?_;refine sa trivial rfl rfl ?_;refine St.nil fun a24 h24=>?_;refine hK23 _ _ ?_;refine wp_ret ?_;with_reducible repeat first | refine Qd ?_ | refine Qc ?_
 exact Qq (t:=4) h24 rfl rfl ⟨_,_,rfl,hA.out.done hge,hB.out⟩
theorem QdC {n:Nat}(l:List (Qh n)) (p:Option Addr) (c:Nat) (w:World) (hl0:(ZA n).list.In w All l [.slice p l.length c]) (hb0:l.length≤4294967296)
 (hf:∀ x∈l,∀ (i:BP) (w:World),BIn w All x i→Calls Tryz.prog 155 #[.agg #[.int .i64 x.regs,.slice i.pP x.params.length i.cP,.slice i.pC x.code.length i.cC,.int .i64 x.fin.op,.int .i64 x.fin.a,.int .i64 x.fin.yes.block,.slice i.e.pYR x.fin.yes.regs.length i.e.cYR,.slice i.e.pYA x.fin.yes.args.length i.e.cYA,.int .i64 x.fin.no.block,.slice i.e.pNR x.fin.no.regs.length i.e.cNR,.slice i.e.pNA x.fin.no.args.length i.e.cNA,.slice i.e.pA x.fin.args.length i.e.cA]] w fun e w'=>∃ v,e=.returned v∧(∃ i':BP,v=.agg #[.int .i64 x.regs,.slice i'.pP x.params.length i'.cP,.slice i'.pC x.code.length i'.cC,.int .i64 x.fin.op,.int .i64 x.fin.a,.int .i64 x.fin.yes.block,.slice i'.e.pYR x.fin.yes.regs.length i'.e.cYR,.slice i'.e.pYA x.fin.yes.args.length i'.e.cYA,.int .i64 x.fin.no.block,.slice i'.e.pNR x.fin.no.regs.length i'.e.cNR,.slice i'.e.pNA x.fin.no.args.length i'.e.cNA,.slice i'.e.pA x.fin.args.length i'.e.cA]∧BIn w' (ZS w.heap.size) x i')∧Below w.heap.size w w') :
 Calls Tryz.prog 154 #[.slice p l.length c,.func (.func 155) #[] #[]] w fun e w'=>Qfx (ZA n) w w' l e:=by
 have hl:Hid _:=hl0;clear hl0;obtain⟨i0,hi,hz0,hz1,hz2⟩:=(QdL infoBlock)
 refine Qy (n:=26) Tryz.func154 rfl rfl rfl ?_;intro a hF;have hW:=Wd.start w;replace hF:Fr 26 a [(0,.slice p l.length c),(1,.func (.func 155) #[] #[])]:=hF;refine wp_seq_k fun K1 hK1=>?_;refine rg hF fun ops=>?_;clear hF a;refine sa trivial rfl rfl ?_;refine St.nil fun a2 h2=>?_;refine hK1 _ _ ?_;refine wp_seq_k fun K3 hK3=>?_;refine rg h2 fun ops=>?_;clear h2 a2;refine sm trivial rfl rfl ?_;refine QbN trivial rfl rfl ?_;refine Qiw underBlocks hi hz0 hz1 (by rw[hz2];omega) (by unfold maxLen;omega) hW trivial rfl rfl ?_;rintro w4 g xs0 rfl hO hbl hW4;clear hW;refine sa trivial rfl rfl ?_;refine St.nil fun a5 h5=>?_;refine hK3 _ _ ?_;refine wp_seq_k fun K6 hK6=>?_;refine wp_seq_k fun K7 hK7=>?_;refine rg h5 fun ops=>?_;clear h5 a5;refine sm trivial rfl rfl ?_;refine QbN trivial rfl rfl ?_;refine sm trivial rfl rfl ?_;refine St.nil fun a8 h8=>?_;refine hK7 _ _ ?_;refine wp_block ?_;refine Qas (fun r a w'=>∃ q:Nat,q≤l.length∧r=l.length - q∧(∃ xs,ZK (ZA n) 84 w' w.heap.size (.slice (some ⟨w.heap.size,0,none⟩) q l.length) (l.take q) xs)∧Fr 26 a [(1,.func (.func 155) #[] #[]),(0,.slice p l.length c),(4,.slice none 0 0),(5,.slice (some ⟨w.heap.size,0,none⟩) l.length l.length),(11,.slice p l.length c),(12,.int .i64 (l.length:Int)),(13,.int .i64 (q:Int))]∧Below w.heap.size w w') l.length ⟨0,Nat.zero_le _,rfl,⟨_,ZK.start rfl hO⟩,(h8.keep (h8.keep (h8.keep (h8.keep (h8.keep (h8.keep (h8.keep h8.nil (t:=13) rfl) (t:=12) rfl) (t:=11) rfl) (t:=5) rfl) (t:=4) rfl) (t:=0) rfl) (t:=1) rfl),hbl⟩ ?_;clear h8 hW4 hO hbl;rintro r a9 w9 ⟨q,hq,hr,⟨xs,hA0⟩,hF9,hB0⟩ KL hKL;have hA:Hid _:=hA0;have hB:Hid _:=hB0;clear hA0 hB0;have hW9:=Wd.start w9;refine wp_seq_k fun K10 hK10=>?_;refine rg hF9 fun ops=>?_;clear hF9 a9;refine slt trivial rfl rfl rfl ?_;refine St.nil fun a11 h11=>?_;refine hK10 _ _ ?_;refine wp_seq_k fun K12 hK12=>?_;refine Qv (t:=14) h11 rfl (fun hb=>?_) (fun hb=>?_)
 ·have hlt1:q<l.length:=by have:=of_decide_eq_true hb;omega
  clear hb;obtain⟨x,hx1⟩:∃ v9,(l)[q]?=some v9:=⟨_,List.getElem?_eq_getElem hlt1⟩
  obtain⟨g1,o1,b1,hp1,E1,In1⟩:=Qct (Lay.below hl.out hB.out) hx1
  replace In1:Hid _:=In1;replace hp1:Hid _:=hp1;replace hx1:Hid _:=hx1;replace E1:Hid _:=E1;have hpg:Hid ((some ⟨w.heap.size,0,none⟩:Option Addr)=some ⟨w.heap.size,0,none⟩):=rfl;refine wp_skip ?_;refine hK12 _ _ ?_;refine wp_seq_k fun K13 hK13=>?_;refine wp_block ?_;refine wp_seq_k fun K14 hK14=>?_;refine rg h11 fun ops=>?_;clear h11 a11;refine sm trivial rfl rfl ?_;refine Qd1 hp1.out hlt1 trivial rfl rfl rfl ?_;refine sSE Tryz.underlying84 rfl (Q4 E1.out hW9.bel) infBlock trivial rfl rfl ?_;refine QfK hW9 trivial rfl ?_;clear hW9;intro w15 B15 hW15 hN;clear hN;refine sa trivial rfl rfl ?_;refine sT 0 hW15 rfl rfl infBlock rfl rfl rfl ?_;clear hW15;intro w16 hW16;refine St.nil fun a17 h17=>?_;refine hK14 _ _ ?_;refine rg h17 fun ops=>?_;clear h17 a17;refine sm trivial rfl rfl ?_;refine sm trivial rfl rfl ?_;refine sm trivial rfl rfl ?_;refine sS 0 12 Tryz.underlying84 rfl infBlock hW16 trivial rfl rfl rfl rfl ?_;refine Qi0 cf155 hW16 (hf x (List.mem_of_getElem? hx1.out) b1 _ (In1.out.below hW16.bel)) trivial rfl rfl rfl ?_;rintro v9 w18 ⟨i2,rfl,hI⟩ hb9 hW18;refine Qd1 hpg.out hlt1 trivial rfl rfl rfl ?_;intro a19 h19;refine St.go h19 ?_;clear h19 a19;have hA2:=hA.out.below hW18.bel;obtain⟨cg,hBk,hcs⟩:=hA2.blk (s:=12) rfl
  have hb8:Below w.heap.size w w18:=Below.andThen hB.out hW18.bel;have hs1:w9.heap.size≤w16.heap.size:=hW16.bel.size;have hs2:w.heap.size≤w9.heap.size:=hB.out.size;have hs3:=(hA.out.lo_le (g:=w.heap.size) rfl).2;have hI2:(ZA n).In w18 (fun k=>w.heap.size≤k∧k≠w.heap.size) x [.int .i64 x.regs,.slice i2.pP x.params.length i2.cP,.slice i2.pC x.code.length i2.cC,.int .i64 x.fin.op,.int .i64 x.fin.a,.int .i64 x.fin.yes.block,.slice i2.e.pYR x.fin.yes.regs.length i2.e.cYR,.slice i2.e.pYA x.fin.yes.args.length i2.e.cYA,.int .i64 x.fin.no.block,.slice i2.e.pNR x.fin.no.regs.length i2.e.cNR,.slice i2.e.pNA x.fin.no.args.length i2.e.cNA,.slice i2.e.pA x.fin.args.length i2.e.cA]:=Lay.mono (Qds hI) (fun k hk _=>⟨by have:_≤k:=hk;omega,by have:_≤k:=hk;omega⟩);clear hW18 hW16;refine QiT (Wd.of hb8) (Nat.le_refl _) (fun i x h=>by simp at h) hBk rfl rfl infBlock rfl (by simp only[List.length_cons,List.length_nil];omega) ?_;intro w20 hW20 hwe;obtain⟨xs2,hA3⟩:=hA2.fillq (s:=12) (w':=w20) rfl hlt1 rfl hx1.out hI2 hwe
  clear hwe hA2 hBk hcs hI2;refine St.nil fun a21 h21=>?_;refine hK13 _ _ ?_;refine rg h21 fun ops=>?_;clear h21 a21;refine sad (by omega) trivial rfl rfl rfl ?_;refine sm trivial rfl rfl ?_;refine St.nil fun a22 h22=>?_;exact hKL _ _ (l.length - (q+1)) (by omega) ⟨q+1,by omega,rfl,⟨_,hA3⟩,(h22.keep (h22.keep (h22.keep (h22.keep (h22.keep (h22.keep (h22.keep h22.nil (t:=13) rfl) (t:=12) rfl) (t:=11) rfl) (t:=5) rfl) (t:=4) rfl) (t:=0) rfl) (t:=1) rfl),hW20.bel⟩
 have hge:q=l.length:=by have:=of_decide_eq_false hb;omega
 clear hb;refine wp_exit ?_;refine hK6 _ _ ?_;refine wp_seq_k fun K23 hK23=>?_;refine rg h11 fun ops=>?_;clear h11 a11;refine sm trivial rfl rfl ?_;refine sa trivial rfl rfl ?_;refine St.nil fun a24 h24=>?_;refine hK23 _ _ ?_;refine wp_ret ?_;with_reducible repeat first | refine Qd ?_ | refine Qc ?_
 exact Qq (t:=4) h24 rfl rfl ⟨_,_,rfl,hA.out.done hge,hB.out⟩
theorem Qea {n:Nat}(l:List (Qg n)) (p:Option Addr) (c:Nat) (w:World) (hl0:(Zs n).list.In w All l [.slice p l.length c]) (hb0:l.length≤4294967296)
 (hf:∀ x∈l,∀ (i:FP) (w:World),FIn w All x i→Calls Tryz.prog 105 #[.agg #[.int .i64 x.regs,.slice i.pP x.params.length i.cP,.slice i.pR x.results.length i.cR,.slice i.pB x.blocks.length i.cB]] w fun e w'=>∃ v,e=.returned v∧(∃ i':FP,v=.agg #[.int .i64 x.regs,.slice i'.pP x.params.length i'.cP,.slice i'.pR x.results.length i'.cR,.slice i'.pB x.blocks.length i'.cB]∧FIn w' (ZS w.heap.size) x i')∧Below w.heap.size w w') :
 Calls Tryz.prog 104 #[.slice p l.length c,.func (.func 105) #[] #[]] w fun e w'=>Qfx (Zs n) w w' l e:=by
 have hl:Hid _:=hl0;clear hl0;obtain⟨i0,hi,hz0,hz1,hz2⟩:=(QdL infoFunc)
 refine Qy (n:=26) Tryz.func104 rfl rfl rfl ?_;intro a hF;have hW:=Wd.start w;replace hF:Fr 26 a [(0,.slice p l.length c),(1,.func (.func 105) #[] #[])]:=hF;refine wp_seq_k fun K1 hK1=>?_;refine rg hF fun ops=>?_;clear hF a;refine sa trivial rfl rfl ?_;refine St.nil fun a2 h2=>?_;refine hK1 _ _ ?_;refine wp_seq_k fun K3 hK3=>?_;refine rg h2 fun ops=>?_;clear h2 a2;refine sm trivial rfl rfl ?_;refine Qcd trivial rfl rfl ?_;refine Qiw underFuncs hi hz0 hz1 (by rw[hz2];omega) (by unfold maxLen;omega) hW trivial rfl rfl ?_;rintro w4 g xs0 rfl hO hbl hW4;clear hW;refine sa trivial rfl rfl ?_;refine St.nil fun a5 h5=>?_;refine hK3 _ _ ?_;refine wp_seq_k fun K6 hK6=>?_;refine wp_seq_k fun K7 hK7=>?_;refine rg h5 fun ops=>?_;clear h5 a5;refine sm trivial rfl rfl ?_;refine Qcd trivial rfl rfl ?_;refine sm trivial rfl rfl ?_;refine St.nil fun a8 h8=>?_;refine hK7 _ _ ?_;refine wp_block ?_;refine Qas (fun r a w'=>∃ q:Nat,q≤l.length∧r=l.length - q∧(∃ xs,ZK (Zs n) 55 w' w.heap.size (.slice (some ⟨w.heap.size,0,none⟩) q l.length) (l.take q) xs)∧Fr 26 a [(1,.func (.func 105) #[] #[]),(0,.slice p l.length c),(4,.slice none 0 0),(5,.slice (some ⟨w.heap.size,0,none⟩) l.length l.length),(11,.slice p l.length c),(12,.int .i64 (l.length:Int)),(13,.int .i64 (q:Int))]∧Below w.heap.size w w') l.length ⟨0,Nat.zero_le _,rfl,⟨_,ZK.start rfl hO⟩,(h8.keep (h8.keep (h8.keep (h8.keep (h8.keep (h8.keep (h8.keep h8.nil (t:=13) rfl) (t:=12) rfl) (t:=11) rfl) (t:=5) rfl) (t:=4) rfl) (t:=0) rfl) (t:=1) rfl),hbl⟩ ?_;clear h8 hW4 hO hbl;rintro r a9 w9 ⟨q,hq,hr,⟨xs,hA0⟩,hF9,hB0⟩ KL hKL;have hA:Hid _:=hA0;have hB:Hid _:=hB0;clear hA0 hB0;have hW9:=Wd.start w9;refine wp_seq_k fun K10 hK10=>?_;refine rg hF9 fun ops=>?_;clear hF9 a9;refine slt trivial rfl rfl rfl ?_;refine St.nil fun a11 h11=>?_;refine hK10 _ _ ?_;refine wp_seq_k fun K12 hK12=>?_;refine Qv (t:=14) h11 rfl (fun hb=>?_) (fun hb=>?_)
 ·have hlt1:q<l.length:=by have:=of_decide_eq_true hb;omega
  clear hb;obtain⟨x,hx1⟩:∃ v9,(l)[q]?=some v9:=⟨_,List.getElem?_eq_getElem hlt1⟩
  obtain⟨g1,o1,f1,hp1,E1,In1⟩:=QcW (Lay.below hl.out hB.out) hx1
  replace In1:Hid _:=In1;replace hp1:Hid _:=hp1;replace hx1:Hid _:=hx1;replace E1:Hid _:=E1;have hpg:Hid ((some ⟨w.heap.size,0,none⟩:Option Addr)=some ⟨w.heap.size,0,none⟩):=rfl;refine wp_skip ?_;refine hK12 _ _ ?_;refine wp_seq_k fun K13 hK13=>?_;refine wp_block ?_;refine wp_seq_k fun K14 hK14=>?_;refine rg h11 fun ops=>?_;clear h11 a11;refine sm trivial rfl rfl ?_;refine Qe2 hp1.out hlt1 trivial rfl rfl rfl ?_;refine sSE Tryz.underlying55 rfl (Q4 E1.out hW9.bel) infFunc trivial rfl rfl ?_;refine Qhm hW9 trivial rfl ?_;clear hW9;intro w15 B15 hW15 hN;clear hN;refine sa trivial rfl rfl ?_;refine sT 0 hW15 rfl rfl infFunc rfl rfl rfl ?_;clear hW15;intro w16 hW16;refine St.nil fun a17 h17=>?_;refine hK14 _ _ ?_;refine rg h17 fun ops=>?_;clear h17 a17;refine sm trivial rfl rfl ?_;refine sm trivial rfl rfl ?_;refine sm trivial rfl rfl ?_;refine sS 0 4 Tryz.underlying55 rfl infFunc hW16 trivial rfl rfl rfl rfl ?_;refine Qi0 cf105 hW16 (hf x (List.mem_of_getElem? hx1.out) f1 _ (In1.out.below hW16.bel)) trivial rfl rfl rfl ?_;rintro v9 w18 ⟨i2,rfl,hI⟩ hb9 hW18;refine Qe2 hpg.out hlt1 trivial rfl rfl rfl ?_;intro a19 h19;refine St.go h19 ?_;clear h19 a19;have hA2:=hA.out.below hW18.bel;obtain⟨cg,hBk,hcs⟩:=hA2.blk (s:=4) rfl
  have hb8:Below w.heap.size w w18:=Below.andThen hB.out hW18.bel;have hs1:w9.heap.size≤w16.heap.size:=hW16.bel.size;have hs2:w.heap.size≤w9.heap.size:=hB.out.size;have hs3:=(hA.out.lo_le (g:=w.heap.size) rfl).2;have hI2:(Zs n).In w18 (fun k=>w.heap.size≤k∧k≠w.heap.size) x [.int .i64 x.regs,.slice i2.pP x.params.length i2.cP,.slice i2.pR x.results.length i2.cR,.slice i2.pB x.blocks.length i2.cB]:=Lay.mono (Qec hI) (fun k hk _=>⟨by have:_≤k:=hk;omega,by have:_≤k:=hk;omega⟩);clear hW18 hW16;refine QiT (Wd.of hb8) (Nat.le_refl _) (fun i x h=>by simp at h) hBk rfl rfl infFunc rfl (by simp only[List.length_cons,List.length_nil];omega) ?_;intro w20 hW20 hwe;obtain⟨xs2,hA3⟩:=hA2.fillq (s:=4) (w':=w20) rfl hlt1 rfl hx1.out hI2 hwe
  clear hwe hA2 hBk hcs hI2;refine St.nil fun a21 h21=>?_;refine hK13 _ _ ?_;refine rg h21 fun ops=>?_;clear h21 a21;refine sad (by omega) trivial rfl rfl rfl ?_;refine sm trivial rfl rfl ?_;refine St.nil fun a22 h22=>?_;exact hKL _ _ (l.length - (q+1)) (by omega) ⟨q+1,by omega,rfl,⟨_,hA3⟩,(h22.keep (h22.keep (h22.keep (h22.keep (h22.keep (h22.keep (h22.keep h22.nil (t:=13) rfl) (t:=12) rfl) (t:=11) rfl) (t:=5) rfl) (t:=4) rfl) (t:=0) rfl) (t:=1) rfl),hW20.bel⟩
 have hge:q=l.length:=by have:=of_decide_eq_false hb;omega
 clear hb;refine wp_exit ?_;refine hK6 _ _ ?_;refine wp_seq_k fun K23 hK23=>?_;refine rg h11 fun ops=>?_;clear h11 a11;refine sm trivial rfl rfl ?_;refine sa trivial rfl rfl ?_;refine St.nil fun a24 h24=>?_;refine hK23 _ _ ?_;refine wp_ret ?_;with_reducible repeat first | refine Qd ?_ | refine Qc ?_
 exact Qq (t:=4) h24 rfl rfl ⟨_,_,rfl,hA.out.done hge,hB.out⟩
theorem Qbn {α:Type}{A:Lay α}{f:FuncId}{args:Array Value}{w:World}{l:List α}(h:Calls Tryz.prog f args w fun e w'=>Qfx A w w' l e) :
 Calls Tryz.prog f args w fun e w'=>∃ v,e=.returned v∧(∃ a' c',v=.slice a' l.length c'∧A.list.In w' (ZS w.heap.size) l [.slice a' l.length c'])∧Below w.heap.size w w' :=
 h.mono fun e w' ⟨a',c',h1,h2,h3⟩=>⟨_,h1,⟨a',c',rfl,h2⟩,h3⟩
theorem EIn.keep1 {w w':World}{lo B:Nat}{x:MEnd}{e:EP}(h:EIn w (ZS lo) x e) (hk:QhT B w w') (hB:B<lo):EIn w' (ZS lo) x e :=
 h.keep (fun k hl _=>hk k (by have:lo≤k:=hl;omega)) (fun _ h _=>h)
theorem QhH {x:Qz}(hs:x.small) (i:IP) (w:World) (h:IIn w All x i):Calls Tryz.prog 196 #[.agg #[.int .i64 x.op,.int .i64 x.a,.int .i64 x.b,.int .i64 x.c,.int .i64 x.k,.int .i64 x.n,.slice i.pR x.regs.length i.cR,.slice i.pA x.args.length i.cA]] w fun e w'=>∃ v,e=.returned v∧(∃ i':IP,v=.agg #[.int .i64 x.op,.int .i64 x.a,.int .i64 x.b,.int .i64 x.c,.int .i64 x.k,.int .i64 x.n,.slice i'.pR x.regs.length i'.cR,.slice i'.pA x.args.length i'.cA]∧IIn w' (ZS w.heap.size) x i')∧Below w.heap.size w w' :=
 (Qfi x i w h (by have:=hs.1;omega) (by have:=hs.2;omega)).mono fun e w' ⟨i',h1,h2,h3⟩=>⟨_,h1,⟨i',rfl,h2⟩,h3⟩
theorem QhU {x:MEnd}(hs:x.small) (i:EP) (w:World) (h:EIn w All x i):Calls Tryz.prog 197 #[.agg #[.int .i64 x.op,.int .i64 x.a,.int .i64 x.yes.block,.slice i.pYR x.yes.regs.length i.cYR,.slice i.pYA x.yes.args.length i.cYA,.int .i64 x.no.block,.slice i.pNR x.no.regs.length i.cNR,.slice i.pNA x.no.args.length i.cNA,.slice i.pA x.args.length i.cA]] w fun e w'=>∃ v,e=.returned v∧(∃ i':EP,v=.agg #[.int .i64 x.op,.int .i64 x.a,.int .i64 x.yes.block,.slice i'.pYR x.yes.regs.length i'.cYR,.slice i'.pYA x.yes.args.length i'.cYA,.int .i64 x.no.block,.slice i'.pNR x.no.regs.length i'.cNR,.slice i'.pNA x.no.args.length i'.cNA,.slice i'.pA x.args.length i'.cA]∧EIn w' (ZS w.heap.size) x i')∧Below w.heap.size w w' :=
 (Qft x i w h (by have:=hs.1.1;omega) (by have:=hs.1.2;omega) (by have:=hs.2.1.1;omega) (by have:=hs.2.1.2;omega) (by have:=hs.2.2;omega)).mono fun e w' ⟨i',h1,h2,h3⟩=>⟨_,h1,⟨i',rfl,h2⟩,h3⟩
def QkK (n:Nat):Prop:=∀ (t:TT n) (i:TP) (w:World),YIn w All t i→t.count≤100000→Calls Tryz.prog 153 #[.agg #[.int .i64 t.kind,.int .i64 t.r,.slice i.p t.len i.c]] w fun e w'=>∃ v,e=.returned v∧(∃ i':TP,v=.agg #[.int .i64 t.kind,.int .i64 t.r,.slice i'.p t.len i'.c]∧YIn w' (ZS w.heap.size) t i')∧Below w.heap.size w w'
theorem cOwnType_any:∀ n,QkK n:=by
 intro n
 induction n with
 | zero=>intro t;exact Empty.elim t
 | succ n ih =>
  intro t i w ht hc;have hco:∀ x∈t.2.2,x.count≤100000:=fun x hx=>by have:=t.count_kid hx;omega
  have hlen:t.2.2.length≤100000:=by have:=t.len_lt_count;rw[t.len_eq] at this;omega
  have hok:=ht.ok;have hk:Hid _:=Qes (c:=i.c) ht.tree.list hok.2;clear ht;simp only[TT.len_eq]
  refine Qy (n:=8) Tryz.func153 rfl rfl rfl ?_;intro a hF;have hW:=Wd.start w;replace hF:Fr 8 a [(0,.agg #[.int .i64 t.kind,.int .i64 t.r,.slice i.p t.2.2.length i.c])]:=hF;refine wp_seq_k fun K1 hK1=>?_;refine rg hF fun ops=>?_;clear hF a;refine sB hW trivial rfl rfl ?_;clear hW;intro w2 B2 hW2 hN;clear hN;refine Qie hW2 trivial rfl ?_;clear hW2;intro w3 B3 hW3 hN;clear hN;refine St.nil fun a4 h4=>?_;refine hK1 _ _ ?_;refine wp_seq_k fun K5 hK5=>?_;refine rg h4 fun ops=>?_;clear h4 a4;refine QhB trivial rfl rfl ?_;refine Qaf 1 hW3 trivial rfl rfl rfl rfl ?_;have hlb:max B3 B2+1≤w3.heap.size:=by have h8:=(hW3.get 0 rfl).lt;have h9:=(hW3.get 1 rfl).lt;omega
  refine QjK cf152 hW3 (Qbn (Qao t.2.2 _ _ _ (Lay.below hk.out hW3.bel) (by omega) (fun u hu i w h=>ih u i w h (hco u hu)))) trivial rfl rfl rfl ?_;rintro v9 w7 ⟨p5,c5,rfl,hN5⟩ hb9 hW7;replace hN5:=Lay.mono hN5 (O':=ZS (max B3 B2+1)) (fun k hk _=>Nat.le_trans hlb hk);clear hlb hb9 hW3;refine QhB trivial rfl rfl ?_;refine s1k 1 inf1Types hW7 rfl rfl rfl rfl rfl rfl ?_;intro w8 hKp hW8;replace hN5:=Lay.keep1 hN5 hKp (by omega);clear hKp hW7;refine St.nil fun a9 h9=>?_;refine hK5 _ _ ?_;refine wp_seq_k fun K10 hK10=>?_;refine rg h9 fun ops=>?_;clear h9 a9;refine sS 1 3 Tryz.underlying79 rfl infType hW8 trivial rfl rfl rfl rfl ?_;refine sTk 0 hW8 rfl rfl infType rfl rfl rfl ?_;intro w11 hKp hW11;replace hN5:=Lay.keep1 hN5 hKp (by omega);clear hKp hW8;refine St.nil fun a12 h12=>?_;refine hK10 _ _ ?_;refine wp_ret ?_;with_reducible repeat first | refine Qd ?_ | refine Qc ?_
  have hlow:w.heap.size≤max B3 B2+1:=by have h8:=hW11.new 0 _ rfl;simp only at h8;omega
  have hZ:=QI (Lay.mono hN5 (fun k hk _=>Nat.le_trans hlow hk));exact QS 0 h12 hW11 rfl rfl rfl Tryz.underlying79 rfl infType ⟨_,rfl,⟨⟨p5,c5⟩,rfl,⟨hZ.1,hok⟩⟩,hW11.bel⟩
theorem Qd3 {n:Nat}(x:Qh n) (i:BP) (w:World) (h:BIn w All x i) (hs0:x.small) :
 Calls Tryz.prog 155 #[.agg #[.int .i64 x.regs,.slice i.pP x.params.length i.cP,.slice i.pC x.code.length i.cC,.int .i64 x.fin.op,.int .i64 x.fin.a,.int .i64 x.fin.yes.block,.slice i.e.pYR x.fin.yes.regs.length i.e.cYR,.slice i.e.pYA x.fin.yes.args.length i.e.cYA,.int .i64 x.fin.no.block,.slice i.e.pNR x.fin.no.regs.length i.e.cNR,.slice i.e.pNA x.fin.no.args.length i.e.cNA,.slice i.e.pA x.fin.args.length i.e.cA]] w fun e w'=>∃ v,e=.returned v∧(∃ i':BP,v=.agg #[.int .i64 x.regs,.slice i'.pP x.params.length i'.cP,.slice i'.pC x.code.length i'.cC,.int .i64 x.fin.op,.int .i64 x.fin.a,.int .i64 x.fin.yes.block,.slice i'.e.pYR x.fin.yes.regs.length i'.e.cYR,.slice i'.e.pYA x.fin.yes.args.length i'.e.cYA,.int .i64 x.fin.no.block,.slice i'.e.pNR x.fin.no.regs.length i'.e.cNR,.slice i'.e.pNA x.fin.no.args.length i'.e.cNA,.slice i'.e.pA x.fin.args.length i'.e.cA]∧BIn w' (ZS w.heap.size) x i')∧Below w.heap.size w w':=by
 have hx:Hid _:=h;have hs:Hid _:=hs0;have hbd:=h.bnd;clear h hs0;refine Qy (n:=16) Tryz.func155 rfl rfl rfl ?_;intro a hF;have hW:=Wd.start w;replace hF:Fr 16 a [(0,.agg #[.int .i64 x.regs,.slice i.pP x.params.length i.cP,.slice i.pC x.code.length i.cC,.int .i64 x.fin.op,.int .i64 x.fin.a,.int .i64 x.fin.yes.block,.slice i.e.pYR x.fin.yes.regs.length i.e.cYR,.slice i.e.pYA x.fin.yes.args.length i.e.cYA,.int .i64 x.fin.no.block,.slice i.e.pNR x.fin.no.regs.length i.e.cNR,.slice i.e.pNA x.fin.no.args.length i.e.cNA,.slice i.e.pA x.fin.args.length i.e.cA])]:=hF;refine wp_seq_k fun K1 hK1=>?_;refine rg hF fun ops=>?_;clear hF a;refine sB hW trivial rfl rfl ?_;clear hW;intro w2 B2 hW2 hN;clear hN;refine QfK hW2 trivial rfl ?_;clear hW2;intro w3 B3 hW3 hN;clear hN;refine St.nil fun a4 h4=>?_;refine hK1 _ _ ?_;refine wp_seq_k fun K5 hK5=>?_;refine rg h4 fun ops=>?_;clear h4 a4;refine QcB trivial rfl rfl ?_;refine Qaf 1 hW3 trivial rfl rfl rfl rfl ?_;have hlb:max B3 B2+1≤w3.heap.size:=by have h8:=(hW3.get 0 rfl).lt;have h9:=(hW3.get 1 rfl).lt;omega
 refine QjK cf152 hW3 (Qbn (Qao x.params _ _ _ (Lay.below hx.out.params hW3.bel) (by have:=hs.out.2.1.1;omega) (fun t ht i w h=>cOwnType_any n t i w h (hs.out.2.1.2 t ht)))) trivial rfl rfl rfl ?_;rintro v9 w7 ⟨p5,c5,rfl,hN5⟩ hb9 hW7;replace hN5:=Lay.mono hN5 (O':=ZS (max B3 B2+1)) (fun k hk _=>Nat.le_trans hlb hk);clear hlb hb9 hW3;refine QcB trivial rfl rfl ?_;refine s1k 1 inf1Types hW7 rfl rfl rfl rfl rfl rfl ?_;intro w8 hKp hW8;replace hN5:=Lay.keep1 hN5 hKp (by omega);clear hKp hW7;refine St.nil fun a9 h9=>?_;refine hK5 _ _ ?_;refine wp_seq_k fun K10 hK10=>?_;refine rg h9 fun ops=>?_;clear h9 a9;refine QbG trivial rfl rfl ?_;refine Qgc 1 hW8 trivial rfl rfl rfl rfl ?_;have hlb:max B3 B2+1≤w8.heap.size:=by have h8:=(hW8.get 0 rfl).lt;have h9:=(hW8.get 1 rfl).lt;omega
 refine QjK cf195 hW8 (Qbn (Qfg x.code _ _ _ (Lay.below hx.out.code hW8.bel) (by have:=hs.out.1;omega) (fun t ht i w h=>QhH (hs.out.2.2.2 t ht) i w h))) trivial rfl rfl rfl ?_;rintro v9 w12 ⟨p9,c9,rfl,hN9⟩ hb9 hW12;replace hN5:=Lay.below hN5 hb9;replace hN9:=Lay.mono hN9 (O':=ZS (max B3 B2+1)) (fun k hk _=>Nat.le_trans hlb hk);clear hlb hb9 hW8;refine QbG trivial rfl rfl ?_;refine s1k 1 inf1Inss hW12 rfl rfl rfl rfl rfl rfl ?_;intro w13 hKp hW13;replace hN5:=Lay.keep1 hN5 hKp (by omega);replace hN9:=Lay.keep1 hN9 hKp (by omega);clear hKp hW12;refine St.nil fun a14 h14=>?_;refine hK10 _ _ ?_;refine wp_seq_k fun K15 hK15=>?_;refine rg h14 fun ops=>?_;clear h14 a14;refine Qf2 trivial rfl rfl ?_;refine sS 1 9 Tryz.underlying47 rfl infEnd hW13 trivial rfl rfl rfl rfl ?_;have hlb:max B3 B2+1≤w13.heap.size:=by have h8:=(hW13.get 0 rfl).lt;have h9:=(hW13.get 1 rfl).lt;omega
 refine QlI cf197 hW13 (QhU hs.out.2.2.1 _ _ (hx.out.fin.below hW13.bel)) trivial rfl rfl ?_;rintro v9 w17 ⟨e13,rfl,hN13⟩ hb9 hW17;replace hN5:=Lay.below hN5 hb9;replace hN9:=Lay.below hN9 hb9;replace hN13:=EIn.mono hN13 (O':=ZS (max B3 B2+1)) (fun k hk _=>Nat.le_trans hlb hk);clear hlb hb9 hW13;refine Qf2 trivial rfl rfl ?_;refine sTk 1 hW17 rfl rfl infEnd rfl rfl rfl ?_;intro w18 hKp hW18;replace hN5:=Lay.keep1 hN5 hKp (by omega);replace hN9:=Lay.keep1 hN9 hKp (by omega);replace hN13:=EIn.keep1 hN13 hKp (by omega);clear hKp hW17;refine St.nil fun a19 h19=>?_;refine hK15 _ _ ?_;refine wp_seq_k fun K20 hK20=>?_;refine rg h19 fun ops=>?_;clear h19 a19;refine sS 1 12 Tryz.underlying84 rfl infBlock hW18 trivial rfl rfl rfl rfl ?_;refine sTk 0 hW18 rfl rfl infBlock rfl rfl rfl ?_;intro w21 hKp hW21;replace hN5:=Lay.keep1 hN5 hKp (by omega);replace hN9:=Lay.keep1 hN9 hKp (by omega);replace hN13:=EIn.keep1 hN13 hKp (by omega);clear hKp hW18;refine St.nil fun a22 h22=>?_;refine hK20 _ _ ?_;refine wp_ret ?_;with_reducible repeat first | refine Qd ?_ | refine Qc ?_
 have hlow:w.heap.size≤max B3 B2+1:=by have h8:=hW21.new 0 _ rfl;simp only at h8;omega
 exact QS 0 h22 hW21 rfl rfl rfl Tryz.underlying84 rfl infBlock ⟨_,rfl,⟨⟨p5,c5,p9,c9,e13⟩,rfl,⟨Lay.mono hN5 (fun k hk _=>Nat.le_trans hlow hk),Lay.mono hN9 (fun k hk _=>Nat.le_trans hlow hk),EIn.mono hN13 (fun k hk _=>Nat.le_trans hlow hk),hbd⟩⟩,hW21.bel⟩
theorem Qen {n:Nat}(x:Qg n) (i:FP) (w:World) (h:FIn w All x i) (hs0:x.small) :
 Calls Tryz.prog 105 #[.agg #[.int .i64 x.regs,.slice i.pP x.params.length i.cP,.slice i.pR x.results.length i.cR,.slice i.pB x.blocks.length i.cB]] w fun e w'=>∃ v,e=.returned v∧(∃ i':FP,v=.agg #[.int .i64 x.regs,.slice i'.pP x.params.length i'.cP,.slice i'.pR x.results.length i'.cR,.slice i'.pB x.blocks.length i'.cB]∧FIn w' (ZS w.heap.size) x i')∧Below w.heap.size w w':=by
 have hx:Hid _:=h;have hs:Hid _:=hs0;have hbd:=h.bnd;clear h hs0;refine Qy (n:=16) Tryz.func105 rfl rfl rfl ?_;intro a hF;have hW:=Wd.start w;replace hF:Fr 16 a [(0,.agg #[.int .i64 x.regs,.slice i.pP x.params.length i.cP,.slice i.pR x.results.length i.cR,.slice i.pB x.blocks.length i.cB])]:=hF;refine wp_seq_k fun K1 hK1=>?_;refine rg hF fun ops=>?_;clear hF a;refine sB hW trivial rfl rfl ?_;clear hW;intro w2 B2 hW2 hN;clear hN;refine Qhm hW2 trivial rfl ?_;clear hW2;intro w3 B3 hW3 hN;clear hN;refine St.nil fun a4 h4=>?_;refine hK1 _ _ ?_;refine wp_seq_k fun K5 hK5=>?_;refine rg h4 fun ops=>?_;clear h4 a4;refine QcN trivial rfl rfl ?_;refine Qaf 1 hW3 trivial rfl rfl rfl rfl ?_;have hlb:max B3 B2+1≤w3.heap.size:=by have h8:=(hW3.get 0 rfl).lt;have h9:=(hW3.get 1 rfl).lt;omega
 refine QjK cf152 hW3 (Qbn (Qao x.params _ _ _ (Lay.below hx.out.params hW3.bel) (by have:=hs.out.2.1.1;omega) (fun t ht i w h=>cOwnType_any n t i w h (hs.out.2.1.2 t ht)))) trivial rfl rfl rfl ?_;rintro v9 w7 ⟨p5,c5,rfl,hN5⟩ hb9 hW7;replace hN5:=Lay.mono hN5 (O':=ZS (max B3 B2+1)) (fun k hk _=>Nat.le_trans hlb hk);clear hlb hb9 hW3;refine QcN trivial rfl rfl ?_;refine s1k 1 inf1Types hW7 rfl rfl rfl rfl rfl rfl ?_;intro w8 hKp hW8;replace hN5:=Lay.keep1 hN5 hKp (by omega);clear hKp hW7;refine St.nil fun a9 h9=>?_;refine hK5 _ _ ?_;refine wp_seq_k fun K10 hK10=>?_;refine rg h9 fun ops=>?_;clear h9 a9;refine QdS trivial rfl rfl ?_;refine Qaf 1 hW8 trivial rfl rfl rfl rfl ?_;have hlb:max B3 B2+1≤w8.heap.size:=by have h8:=(hW8.get 0 rfl).lt;have h9:=(hW8.get 1 rfl).lt;omega
 refine QjK cf152 hW8 (Qbn (Qao x.results _ _ _ (Lay.below hx.out.results hW8.bel) (by have:=hs.out.2.2.1.1;omega) (fun t ht i w h=>cOwnType_any n t i w h (hs.out.2.2.1.2 t ht)))) trivial rfl rfl rfl ?_;rintro v9 w12 ⟨p9,c9,rfl,hN9⟩ hb9 hW12;replace hN5:=Lay.below hN5 hb9;replace hN9:=Lay.mono hN9 (O':=ZS (max B3 B2+1)) (fun k hk _=>Nat.le_trans hlb hk);clear hlb hb9 hW8;refine QdS trivial rfl rfl ?_;refine s1k 1 inf1Types hW12 rfl rfl rfl rfl rfl rfl ?_;intro w13 hKp hW13;replace hN5:=Lay.keep1 hN5 hKp (by omega);replace hN9:=Lay.keep1 hN9 hKp (by omega);clear hKp hW12;refine St.nil fun a14 h14=>?_;refine hK10 _ _ ?_;refine wp_seq_k fun K15 hK15=>?_;refine rg h14 fun ops=>?_;clear h14 a14;refine QcG trivial rfl rfl ?_;refine QcA 1 hW13 trivial rfl rfl rfl rfl ?_;have hlb:max B3 B2+1≤w13.heap.size:=by have h8:=(hW13.get 0 rfl).lt;have h9:=(hW13.get 1 rfl).lt;omega
 refine QjK cf154 hW13 (Qbn (QdC x.blocks _ _ _ (Lay.below hx.out.blocks hW13.bel) (by have:=hs.out.1;omega) (fun t ht i w h=>Qd3 t i w h (hs.out.2.2.2 t ht)))) trivial rfl rfl rfl ?_;rintro v9 w17 ⟨p13,c13,rfl,hN13⟩ hb9 hW17;replace hN5:=Lay.below hN5 hb9;replace hN9:=Lay.below hN9 hb9;replace hN13:=Lay.mono hN13 (O':=ZS (max B3 B2+1)) (fun k hk _=>Nat.le_trans hlb hk);clear hlb hb9 hW13;refine QcG trivial rfl rfl ?_;refine s1k 1 inf1Blocks hW17 rfl rfl rfl rfl rfl rfl ?_;intro w18 hKp hW18;replace hN5:=Lay.keep1 hN5 hKp (by omega);replace hN9:=Lay.keep1 hN9 hKp (by omega);replace hN13:=Lay.keep1 hN13 hKp (by omega);clear hKp hW17;refine St.nil fun a19 h19=>?_;refine hK15 _ _ ?_;refine wp_seq_k fun K20 hK20=>?_;refine rg h19 fun ops=>?_;clear h19 a19;refine sS 1 4 Tryz.underlying55 rfl infFunc hW18 trivial rfl rfl rfl rfl ?_;refine sTk 0 hW18 rfl rfl infFunc rfl rfl rfl ?_;intro w21 hKp hW21;replace hN5:=Lay.keep1 hN5 hKp (by omega);replace hN9:=Lay.keep1 hN9 hKp (by omega);replace hN13:=Lay.keep1 hN13 hKp (by omega);clear hKp hW18;refine St.nil fun a22 h22=>?_;refine hK20 _ _ ?_;refine wp_ret ?_;with_reducible repeat first | refine Qd ?_ | refine Qc ?_
 have hlow:w.heap.size≤max B3 B2+1:=by have h8:=hW21.new 0 _ rfl;simp only at h8;omega
 exact QS 0 h22 hW21 rfl rfl rfl Tryz.underlying55 rfl infFunc ⟨_,rfl,⟨⟨p5,c5,p9,c9,p13,c13⟩,rfl,⟨Lay.mono hN5 (fun k hk _=>Nat.le_trans hlow hk),Lay.mono hN9 (fun k hk _=>Nat.le_trans hlow hk),Lay.mono hN13 (fun k hk _=>Nat.le_trans hlow hk),hbd⟩⟩,hW21.bel⟩
theorem Qje {n:Nat}(m:List (Qg n)) (p:Option Addr) (c:Nat) (w:World) (h:(Qak n).In w All m [.slice p m.length c]) (hs0:QcS m) :
 Calls Tryz.prog 61 #[.agg #[.slice p m.length c]] w fun e w'=>∃ v,e=.returned v∧(∃ a' c',v=.agg #[.slice a' m.length c']∧(Qak n).In w' (ZS w.heap.size) m [.slice a' m.length c'])∧Below w.heap.size w w':=by
 have hx:Hid _:=h;have hs:Hid _:=hs0;clear h hs0;refine Qy (n:=7) Tryz.func61 rfl rfl rfl ?_;intro a hF;have hW:=Wd.start w;replace hF:Fr 7 a [(0,.agg #[.slice p m.length c])]:=hF;refine wp_seq_k fun K1 hK1=>?_;refine rg hF fun ops=>?_;clear hF a;refine sB hW trivial rfl rfl ?_;clear hW;intro w2 B2 hW2 hN;clear hN;refine QfQ hW2 trivial rfl ?_;clear hW2;intro w3 B3 hW3 hN;clear hN;refine St.nil fun a4 h4=>?_;refine hK1 _ _ ?_;refine wp_seq_k fun K5 hK5=>?_;refine rg h4 fun ops=>?_;clear h4 a4;refine Qa5 trivial rfl rfl ?_;refine QcQ 1 hW3 trivial rfl rfl rfl rfl ?_;have hlb:max B3 B2+1≤w3.heap.size:=by have h8:=(hW3.get 0 rfl).lt;have h9:=(hW3.get 1 rfl).lt;omega
 refine QjK cf104 hW3 (Qbn (Qea m _ _ _ (Lay.below hx.out hW3.bel) (by have:=hs.out.1;omega) (fun t ht i w h=>Qen t i w h (hs.out.2 t ht)))) trivial rfl rfl rfl ?_;rintro v9 w7 ⟨p5,c5,rfl,hN5⟩ hb9 hW7;replace hN5:=Lay.mono hN5 (O':=ZS (max B3 B2+1)) (fun k hk _=>Nat.le_trans hlb hk);clear hlb hb9 hW3;intro a8 h8;refine Q8 (t:=6) (v:=.agg #[.slice p5 m.length c5]) (w':=w7) h8 rfl rfl rfl (fun K hK=>?_) ?_
 ·have k0:a8.tmps[5]?.getD undef=.slice p5 m.length c5:=h8.sl2 5 _ rfl
  go_simp;exact hK
 clear h8;intro a9 hF9;refine St.go hF9 ?_;clear hF9 a9;refine sTk 0 hW7 rfl rfl infModule rfl rfl rfl ?_;intro w10 hKp hW10;replace hN5:=Lay.keep1 hN5 hKp (by omega);clear hKp hW7;refine St.nil fun a11 h11=>?_;refine hK5 _ _ ?_;refine wp_ret ?_;with_reducible repeat first | refine Qd ?_ | refine Qc ?_
 have hlow:w.heap.size≤max B3 B2+1:=by have h8:=hW10.new 0 _ rfl;simp only at h8;omega
 exact QS 0 h11 hW10 rfl rfl rfl Tryz.underlying24 rfl infModule ⟨_,rfl,⟨p5,c5,rfl,Lay.mono hN5 (fun k hk _=>Nat.le_trans hlow hk)⟩,hW10.bel⟩
def QeJ (m:List (Qg 6)) (f b:Int):Bool:=decide (0≤f)&&(match m[f.toNat]? with | none=>false | some g=>decide (0≤b)&&decide (b<(g.blocks.length:Int)))
theorem Qir {m:List (Qg 6)}{f b:Int}(h:QeJ m f b=true):∃ (i j:Nat) (fn:Qg 6) (g:Qh 6),f=(i:Int)∧b=(j:Int)∧m[i]?=some fn∧fn.blocks[j]?=some g:=by
 unfold QeJ at h;simp only[Bool.and_eq_true,decide_eq_true_eq] at h
 obtain⟨h1,h2⟩:=h
 obtain⟨i,rfl⟩:=Int.eq_ofNat_of_zero_le h1
 rw[Int.toNat_natCast] at h2
 cases e:m[i]? with
 | none=>rw[e] at h2;cases h2
 | some fn =>
  rw[e] at h2
  simp only[Bool.and_eq_true,decide_eq_true_eq] at h2
  obtain⟨j,rfl⟩:=Int.eq_ofNat_of_zero_le h2.1
  exact⟨i,j,fn,_,rfl,rfl,e,List.getElem?_eq_getElem (by omega)⟩
theorem Qi2 {w:World}{m:List (Qg 6)}{p:Option Addr}{c:Nat}(f b:Int) (hm8:m.length≤100000) (hm:(Qak 6).In w All m [.slice p m.length c]) :
 Calls Tryz.prog 60 #[.agg #[.slice p m.length c],.int .i64 f,.int .i64 b] w fun e w'=>e=.returned (.bool (QeJ m f b))∧Below w.heap.size w w':=by
 have b1:=QO w (.cells #[.slice p m.length c] 24);have HB:=Qa b1;have x0:=Qb (Qe w #[.slice p m.length c] 24) 0 _ rfl;by_cases h0:0≤f
 rotate_left
 ·have E:Hid (QeJ m f b=false):=by show _=_;unfold QeJ;rw[decide_eq_false h0];rfl
  have h0':decide (f≥0)=false:=decide_eq_false h0;clear hm b1;generalize m.length=nm at x0 HB;go_enter Tryz.func60,Tryz.ntmps60
  go_wp2
  go_ret;exact⟨by rw[E.out];rfl,HB.out⟩
 obtain⟨i,rfl⟩:=Int.eq_ofNat_of_zero_le h0
 by_cases h1:i<m.length
 rotate_left
 ·have E:Hid (QeJ m (i:Int) b=false):=by show _=_;unfold QeJ;rw[Int.toNat_natCast,List.getElem?_eq_none (by omega)];simp
  have h1':¬ (i:Int)<m.length:=by omega
  clear hm b1;generalize m.length=nm at x0 HB h1 h1' hm8;go_enter Tryz.func60,Tryz.ntmps60
  go_wp2
  go_ret;exact⟨by rw[E.out];rfl,HB.out⟩
 have hg:m[i]?=some m[i]:=List.getElem?_eq_getElem h1;generalize m[i]=g at hg;obtain⟨mg,mo,a1,c1,a2,c2,a3,c3,rfl,f0,f1,f2,f3,-,-⟩:=Qb4 hm hg
 have hmgl:mg<w.heap.size:=World.block_lt_of_cell? w ⟨mg,mo+i*4,none⟩ f0;have E:Hid (QeJ m (i:Int) b=(decide (0≤b)&&decide (b<(g.blocks.length:Int)))):=by show _=_;unfold QeJ;rw[Int.toNat_natCast,hg];simp
 have h1':(i:Int)<m.length:=by omega
 clear hm b1 f0 f1 f2 hg;generalize m.length=nm at x0 HB h1 h1' hm8;generalize g.blocks.length=nb at f3 E;by_cases hb0:0≤b
 rotate_left
 ·have hb0':decide (b≥0)=false:=decide_eq_false hb0;rw[show (decide (0≤b)&&decide (b<(nb:Int)))=false by rw[decide_eq_false hb0];rfl] at E
  go_enter Tryz.func60,Tryz.ntmps60
  go_wp2
  go_ret;exact⟨by rw[E.out];rfl,HB.out⟩
 ·have hb0':decide (b≥0)=true:=decide_eq_true hb0;rw[show (decide (0≤b)&&decide (b<(nb:Int)))=decide (b<(nb:Int)) by rw[decide_eq_true hb0];rfl] at E
  by_cases hbn:b<(nb:Int)
  ·rw[decide_eq_true hbn] at E
   go_enter Tryz.func60,Tryz.ntmps60
   go_wp2
   go_ret;exact⟨by rw[E.out];rfl,HB.out⟩
  ·rw[decide_eq_false hbn] at E
   go_enter Tryz.func60,Tryz.ntmps60
   go_wp2
   go_ret;exact⟨by rw[E.out];rfl,HB.out⟩
theorem Qlc {w1:World}{cs:List Value}(hl:cs.length=12) :
 Blk ((w1.alloc (.cells #[.int .i64 0,.slice none 0 0,.slice none 0 0,.int .i64 0,.int .i64 0,.int .i64 0,.slice none 0 0,.slice none 0 0,.int .i64 0,.slice none 0 0,.slice none 0 0,.slice none 0 0] 84)).setCells w1.heap.size 0 cs.toArray.toList) w1.heap.size cs.toArray 84∧Below w1.heap.size w1 ((w1.alloc (.cells #[.int .i64 0,.slice none 0 0,.slice none 0 0,.int .i64 0,.int .i64 0,.int .i64 0,.slice none 0 0,.slice none 0 0,.int .i64 0,.slice none 0 0,.slice none 0 0,.slice none 0 0] 84)).setCells w1.heap.size 0 cs.toArray.toList)∧(w1.alloc (.cells #[.int .i64 0,.slice none 0 0,.slice none 0 0,.int .i64 0,.int .i64 0,.int .i64 0,.slice none 0 0,.slice none 0 0,.int .i64 0,.slice none 0 0,.slice none 0 0,.slice none 0 0] 84)).there w1.heap.size 0 cs.toArray.size:=by
 have hB:=Qe w1 #[.int .i64 0,.slice none 0 0,.slice none 0 0,.int .i64 0,.int .i64 0,.int .i64 0,.slice none 0 0,.slice none 0 0,.int .i64 0,.slice none 0 0,.slice none 0 0,.slice none 0 0] 84;refine⟨?_,?_,?_⟩
 ·have h0:Blk (w1.alloc (.cells #[.int .i64 0,.slice none 0 0,.slice none 0 0,.int .i64 0,.int .i64 0,.int .i64 0,.slice none 0 0,.slice none 0 0,.int .i64 0,.slice none 0 0,.slice none 0 0,.slice none 0 0] 84)) w1.heap.size ([]++(#[.int .i64 0,.slice none 0 0,.slice none 0 0,.int .i64 0,.int .i64 0,.int .i64 0,.slice none 0 0,.slice none 0 0,.int .i64 0,.slice none 0 0,.slice none 0 0,.slice none 0 0]:Array Value).toList).toArray 84:=hB;exact Blk.sets cs [] (#[.int .i64 0,.slice none 0 0,.slice none 0 0,.int .i64 0,.int .i64 0,.int .i64 0,.slice none 0 0,.slice none 0 0,.int .i64 0,.slice none 0 0,.slice none 0 0,.slice none 0 0]:Array Value).toList _ (by rw[hl];rfl) h0
 ·have:=Zj.setCells (O:=fun k=>k=w1.heap.size) (O':=fun k=>k=w1.heap.size) (b:=w1.heap.size) rfl cs.toArray.toList 0 _ (Zj.refl _ (w1.alloc (.cells #[.int .i64 0,.slice none 0 0,.slice none 0 0,.int .i64 0,.int .i64 0,.int .i64 0,.slice none 0 0,.slice none 0 0,.int .i64 0,.slice none 0 0,.slice none 0 0,.slice none 0 0] 84)))
  exact(QO w1 _).trans (this.below (by simp) (fun k hk=>by omega))
 ·intro j hj;rw[List.size_toArray,hl] at hj
  rw[Nat.zero_add]
  refine⟨?_,Qp hB j⟩
  rw[Qb hB j ((#[.int .i64 0,.slice none 0 0,.slice none 0 0,.int .i64 0,.int .i64 0,.int .i64 0,.slice none 0 0,.slice none 0 0,.int .i64 0,.slice none 0 0,.slice none 0 0,.slice none 0 0]:Array Value)[j]'hj) (by simp)];rfl
theorem Qac {w w':World}{e:TypeId}{s n:Nat}{v:Value}{xs:List Value}(h:w.ownsRow 0 e s v n xs) (hb:Below w.heap.size w w'):w'.ownsRow 0 e s v n xs:=by
 obtain⟨h1,h2⟩:=h
 refine⟨h1,?_⟩
 rcases h2 with h4 | ⟨g,cap,cur,e',hg,hh,r⟩
 ·exact .inl h4
 ·exact .inr ⟨g,cap,cur,e',hg,(hb.block g (lt_of_block hh)).trans hh,r⟩
theorem Qh2 {w:World}{e:TypeId}{s n:Nat}{v:Value}{xs:List Value}(h:w.ownsRow 0 e s v n xs):∃ a c,v=.slice a n c:=by
 obtain⟨h1,h2⟩:=h
 rcases h2 with ⟨h4,h5⟩|⟨g,cap,cur,e',hg,hh,r⟩
 ·exact⟨none,0,by rw[h4,h5]⟩
 ·exact⟨_,_,e'⟩
def Qln (w7:World) (M9 F10 B11 nm cm n1 d1 n2 d2 n3 d3 np cp:Nat) (fr br:Int) (pm p1 p2 p3 pp:Option Addr) (ps:List (TT 6)) (QP:Nat→Prop) (t:Tmp) (v:Value) (w:World):Prop :=
 match ([(39,fun v w=>∃ hh,v=.pointer (some ⟨hh,0,none⟩)∧w7.heap.size≤hh∧Qu w hh (Qcu br)),(43,fun v w=>∃ a c ds,v=.slice a np c∧w.ownsRow 0 79 3 (.slice a np c) np ds∧(∀ g,(Value.slice a np c).ownBlock=some g→w7.heap.size≤g)∧(∀ i x,ps[i]?=some x→(Lay.tt 6).In w7 QP x ((ds.drop (i*3)).take 3))),(44,fun v w=>∃ hh a c ds,v=.agg #[.slice pm nm cm,.pointer (some ⟨hh,0,none⟩),.int .i64 fr,.slice p1 n1 d1,.slice p2 n2 d2,.slice p3 n3 d3,.slice a np c]∧w7.heap.size≤hh∧Qu w hh (Qcu br)∧w.ownsRow 0 79 3 (.slice a np c) np ds∧(∀ g,(Value.slice a np c).ownBlock=some g→w7.heap.size≤g)∧(∀ i x,ps[i]?=some x→(Lay.tt 6).In w7 QP x ((ds.drop (i*3)).take 3))),(45,fun v w=>∃ B hh a c ds,v=.pointer (some ⟨B,0,none⟩)∧w7.heap.size≤B∧w.heap[B]?=some (.cells #[.slice pm nm cm,.pointer (some ⟨hh,0,none⟩),.int .i64 fr,.slice p1 n1 d1,.slice p2 n2 d2,.slice p3 n3 d3,.slice a np c] 70 (0,0))∧w7.heap.size≤hh∧Qu w hh (Qcu br)∧w.ownsRow 0 79 3 (.slice a np c) np ds∧(∀ g,(Value.slice a np c).ownBlock=some g→w7.heap.size≤g)∧(∀ i x,ps[i]?=some x→(Lay.tt 6).In w7 QP x ((ds.drop (i*3)).take 3))),(6,fun v w=>∃ B hh a c ds,v=.pointer (some ⟨B,0,none⟩)∧w7.heap.size≤B∧w.heap[B]?=some (.cells #[.slice pm nm cm,.pointer (some ⟨hh,0,none⟩),.int .i64 fr,.slice p1 n1 d1,.slice p2 n2 d2,.slice p3 n3 d3,.slice a np c] 70 (0,0))∧w7.heap.size≤hh∧Qu w hh (Qcu br)∧w.ownsRow 0 79 3 (.slice a np c) np ds∧(∀ g,(Value.slice a np c).ownBlock=some g→w7.heap.size≤g)∧(∀ i x,ps[i]?=some x→(Lay.tt 6).In w7 QP x ((ds.drop (i*3)).take 3)))]:List (Tmp × (Value→World→Prop))).lookup t with
 | some p=>p v w
 | none=>v=(([(9,.pointer (some ⟨M9,0,none⟩)),(10,.pointer (some ⟨F10,0,none⟩)),(11,.pointer (some ⟨B11,0,none⟩)),(36,.agg #[.slice pm nm cm]),(37,.pointer (some ⟨B11,0,none⟩)),(38,.int .i64 br),(40,.agg #[.int .i64 fr,.slice p1 n1 d1,.slice p2 n2 d2,.slice p3 n3 d3]),(41,.pointer (some ⟨B11,1,none⟩)),(42,.slice pp np cp),(46,.agg #[.int .i64 0,.int .i64 0])]:List (Tmp × Value)).lookup t).getD undef
theorem jn9 {w7:World}{M9 F10 B11 nm cm n1 d1 n2 d2 n3 d3 np cp:Nat}{fr br:Int}{pm p1 p2 p3 pp:Option Addr}{ps:List (TT 6)}{QP:Nat→Prop}(m0:w7.cell? ⟨M9,0,none⟩=some (.slice pm nm cm)) (f0:w7.cell? ⟨F10,0,none⟩=some (.int .i64 fr)) (f1:w7.cell? ⟨F10,1,none⟩=some (.slice p1 n1 d1)) (f2:w7.cell? ⟨F10,2,none⟩=some (.slice p2 n2 d2)) (f3:w7.cell? ⟨F10,3,none⟩=some (.slice p3 n3 d3)) (y0:w7.cell? ⟨B11,0,none⟩=some (.int .i64 br)) (y1:w7.cell? ⟨B11,1,none⟩=some (.slice pp np cp)) (hbr:-9223372036854775808≤br∧br≤9223372036854775807) (HNP:Hid (ps.length=np)) (hnp:np≤5000) (HP:Hid ((Qm 6).In w7 QP ps [.slice pp np cp])) (HPB:Hid (∀ (i:Nat) (x:TT 6) (cs:List Value){w:World},ps[i]?=some x→(Lay.tt 6).In w QP x cs→Below w7.heap.size w7 w→(Lay.tt 6).In w7 QP x cs)){Q:Exit→Act→World→Prop}
 (a:Act) (m:Nat) (hn:a.tmps.size=m) (hn':47≤m) (h9:a.tmps.getD 9 undef=.pointer (some ⟨M9,0,none⟩)) (h10:a.tmps.getD 10 undef=.pointer (some ⟨F10,0,none⟩)) (h11:a.tmps.getD 11 undef=.pointer (some ⟨B11,0,none⟩))
 (hend:∀ ops vs w',vs 46=.agg #[.int .i64 0,.int .i64 0]→(fun v w=>∃ B hh a c ds,v=.pointer (some ⟨B,0,none⟩)∧w7.heap.size≤B∧w.heap[B]?=some (.cells #[.slice pm nm cm,.pointer (some ⟨hh,0,none⟩),.int .i64 fr,.slice p1 n1 d1,.slice p2 n2 d2,.slice p3 n3 d3,.slice a np c] 70 (0,0))∧w7.heap.size≤hh∧Qu w hh (Qcu br)∧w.ownsRow 0 79 3 (.slice a np c) np ds∧(∀ g,(Value.slice a np c).ownBlock=some g→w7.heap.size≤g)∧(∀ i x,ps[i]?=some x→(Lay.tt 6).In w7 QP x ((ds.drop (i*3)).take 3))) (vs 6) w'→Below w7.heap.size w7 w'→wpList Tryz.prog ops Q (QcZ 12 ((Tryz.f20.body.bind (Qj 9)).getD .skip)) (Q5 a vs [36,37,38,39,40,41,42,43,44,45,46,6]) w') :
 Code.wp Tryz.prog ((Tryz.f20.body.bind (Qj 9)).getD .skip) Q a w7:=by
 conv=>arg 2;whnf
 refine Qr 12 (Qln w7 M9 F10 B11 nm cm n1 d1 n2 d2 n3 d3 np cp fr br pm p1 p2 p3 pp ps QP) (fun w=>Below w7.heap.size w7 w) (fun w w'=>Below w.heap.size w w') (outs:=[9,10,11]) (gs:=[]) (bs:=[true,true,true,true,true,true,true,true,true,true,true,true]) (by kernel_rfl) (n:=47) hn hn' (by kernel_rfl) (by kernel_rfl) ?hR ?hG (Qf (Below.refl _ _) 1) ⟨h9,h10,h11,trivial⟩ ?hA ?hend
 case hR =>
  intro t v w w' hr h;unfold Qln at h ⊢;split at h
  ·rename_i p hp
   simp only[List.lookup_cons,List.lookup_nil] at hp
   split at hp
   ·cases hp;exact(by obtain⟨hh,e,h1,h2⟩:=h;exact⟨hh,e,h1,h2.below hr⟩)
   ·split at hp
    ·cases hp;exact(by obtain⟨a,c,ds,e,h1,h2,h3⟩:=h;exact⟨a,c,ds,e,Qac h1 hr,h2,h3⟩)
    ·split at hp
     ·cases hp;exact(by obtain⟨hh,a,c,ds,e,h1,h2,h3,h4,h5⟩:=h;exact⟨hh,a,c,ds,e,h1,h2.below hr,Qac h3 hr,h4,h5⟩)
     ·split at hp
      ·cases hp;exact(by obtain⟨B,hh,a,c,ds,e,g1,g2,h1,h2,h3,h4,h5⟩:=h;exact⟨B,hh,a,c,ds,e,g1,(hr.block B (lt_of_block g2)).trans g2,h1,h2.below hr,Qac h3 hr,h4,h5⟩)
      ·split at hp
       ·cases hp;exact(by obtain⟨B,hh,a,c,ds,e,g1,g2,h1,h2,h3,h4,h5⟩:=h;exact⟨B,hh,a,c,ds,e,g1,(hr.block B (lt_of_block g2)).trans g2,h1,h2.below hr,Qac h3 hr,h4,h5⟩)
       ·cases hp
  ·exact h
 case hG=>exact trivial
 case hend=>exact fun ops vs w' hW hk=>hend ops vs w' (hk 46 (by kernel_rfl)) (hk 6 (by kernel_rfl)) hW
 case hA =>
  refine⟨fun a w hW hk K hK=>?_,?_⟩
  ·obtain⟨k0,-⟩:=hk
   have k0:a.tmps.getD 9 undef=.pointer (some ⟨M9,0,none⟩):=k0;have c0:=Qi m0 hW;go_simp;exact hK _ _ (Below.refl _ _) hW rfl
  refine⟨fun a w hW hk K hK=>?_,?_⟩
  ·obtain⟨k0,-⟩:=hk
   have k0:a.tmps.getD 11 undef=.pointer (some ⟨B11,0,none⟩):=k0;go_simp;exact hK _ _ (Below.refl _ _) hW rfl
  refine⟨fun a w hW hk K hK=>?_,?_⟩
  ·obtain⟨k0,-⟩:=hk
   have k0:a.tmps.getD 37 undef=.pointer (some ⟨B11,0,none⟩):=k0;have c0:=Qi y0 hW;go_simp;exact hK _ _ (Below.refl _ _) hW rfl
  refine⟨fun a w hW hk K hK=>?_,?_⟩
  ·obtain⟨k0,-⟩:=hk
   have k0:a.tmps.getD 38 undef=.int .i64 br:=k0;go_simp;refine Calls.mono (Qjg _ br hbr) ?_;rintro r7 w8 ⟨rfl,hh8,b8⟩;go_simp;exact hK _ _ b8 (hW.trans (b8.mono hW.size)) ⟨_,rfl,hW.size,hh8⟩
  refine⟨fun a w hW hk K hK=>?_,?_⟩
  ·obtain⟨k0,-⟩:=hk
   have k0:a.tmps.getD 10 undef=.pointer (some ⟨F10,0,none⟩):=k0;have c0:=Qi f0 hW;have c1:=Qi f1 hW;have c2:=Qi f2 hW;have c3:=Qi f3 hW;go_simp;exact hK _ _ (Below.refl _ _) hW rfl
  refine⟨fun a w hW hk K hK=>?_,?_⟩
  ·obtain⟨k0,-⟩:=hk
   have k0:a.tmps.getD 11 undef=.pointer (some ⟨B11,0,none⟩):=k0;go_simp;exact hK _ _ (Below.refl _ _) hW rfl
  refine⟨fun a w hW hk K hK=>?_,?_⟩
  ·obtain⟨k0,-⟩:=hk
   have k0:a.tmps.getD 41 undef=.pointer (some ⟨B11,1,none⟩):=k0;have c0:=Qi y1 hW;go_simp;exact hK _ _ (Below.refl _ _) hW rfl
  refine⟨fun a w hW hk K hK=>?_,?_⟩
  ·obtain⟨k0,-⟩:=hk
   have k0:a.tmps.getD 42 undef=.slice pp np cp:=k0;go_simp;refine Calls.mono (Qdy HNP.out hnp (Lay.below HP.out hW)) ?_;rintro r7 w8 ⟨v8,ds8,rfl,o1,o2,o3,b8⟩;rw[HNP.out] at o1
   obtain⟨a8,c8,rfl⟩:=Qh2 o1
   go_simp;exact hK _ _ b8 (hW.trans (b8.mono hW.size)) ⟨a8,c8,ds8,rfl,o1,fun g hg=>Nat.le_trans hW.size (o2 g hg),fun i x hx=>HPB.out i x _ hx (o3 i x hx) hW⟩
  refine⟨fun a w hW hk K hK=>?_,?_⟩
  ·obtain⟨k0,k1,k2,k3,-⟩:=hk
   have k0:a.tmps.getD 36 undef=.agg #[.slice pm nm cm]:=k0;have k1:(fun v w=>∃ hh,v=.pointer (some ⟨hh,0,none⟩)∧w7.heap.size≤hh∧Qu w hh (Qcu br)) (a.tmps.getD 39 undef) w:=k1;generalize k1e:a.tmps.getD 39 undef=uk1 at k1;have k2:a.tmps.getD 40 undef=.agg #[.int .i64 fr,.slice p1 n1 d1,.slice p2 n2 d2,.slice p3 n3 d3]:=k2;have k3:(fun v w=>∃ a c ds,v=.slice a np c∧w.ownsRow 0 79 3 (.slice a np c) np ds∧(∀ g,(Value.slice a np c).ownBlock=some g→w7.heap.size≤g)∧(∀ i x,ps[i]?=some x→(Lay.tt 6).In w7 QP x ((ds.drop (i*3)).take 3))) (a.tmps.getD 43 undef) w:=k3;generalize k3e:a.tmps.getD 43 undef=uk3 at k3;obtain⟨hh,rfl,g1,g2⟩:=k1
   obtain⟨a3,c3,ds3,rfl,h1,h2,h3⟩:=k3
   have j0:a.tmps[36]?.getD undef=.agg #[.slice pm nm cm]:=by simpa using k0
   have j1:a.tmps[39]?.getD undef=.pointer (some ⟨hh,0,none⟩):=by simpa using k1e
   have j2:a.tmps[40]?.getD undef=.agg #[.int .i64 fr,.slice p1 n1 d1,.slice p2 n2 d2,.slice p3 n3 d3]:=by simpa using k2
   have j3:a.tmps[43]?.getD undef=.slice a3 np c3:=by simpa using k3e
   go_simp;exact hK _ _ (Below.refl _ _) hW ⟨hh,a3,c3,ds3,rfl,g1,g2,h1,h2,h3⟩
  refine⟨fun a w hW hk K hK=>?_,?_⟩
  ·obtain⟨k0,-⟩:=hk
   have k0:(fun v w=>∃ hh a c ds,v=.agg #[.slice pm nm cm,.pointer (some ⟨hh,0,none⟩),.int .i64 fr,.slice p1 n1 d1,.slice p2 n2 d2,.slice p3 n3 d3,.slice a np c]∧w7.heap.size≤hh∧Qu w hh (Qcu br)∧w.ownsRow 0 79 3 (.slice a np c) np ds∧(∀ g,(Value.slice a np c).ownBlock=some g→w7.heap.size≤g)∧(∀ i x,ps[i]?=some x→(Lay.tt 6).In w7 QP x ((ds.drop (i*3)).take 3))) (a.tmps.getD 44 undef) w:=k0;generalize k0e:a.tmps.getD 44 undef=uk0 at k0;obtain⟨hh,a3,c3,ds3,rfl,g1,g2,h1,h2,h3⟩:=k0
   go_simp;have b8:=QO w (.cells #[.slice pm nm cm,.pointer (some ⟨hh,0,none⟩),.int .i64 fr,.slice p1 n1 d1,.slice p2 n2 d2,.slice p3 n3 d3,.slice a3 np c3] 70);exact hK _ _ b8 (hW.trans (b8.mono hW.size)) ⟨w.heap.size,hh,a3,c3,ds3,rfl,hW.size,Qe _ _ _,g1,g2.below b8,Qac h1 b8,h2,h3⟩
  refine⟨fun a w hW hk K hK=>?_,?_⟩
  ·clear hk;go_simp;exact hK _ _ (Below.refl _ _) hW rfl
  refine⟨fun a w hW hk K hK=>?_,?_⟩
  ·obtain⟨k0,-⟩:=hk
   have k0:(fun v w=>∃ B hh a c ds,v=.pointer (some ⟨B,0,none⟩)∧w7.heap.size≤B∧w.heap[B]?=some (.cells #[.slice pm nm cm,.pointer (some ⟨hh,0,none⟩),.int .i64 fr,.slice p1 n1 d1,.slice p2 n2 d2,.slice p3 n3 d3,.slice a np c] 70 (0,0))∧w7.heap.size≤hh∧Qu w hh (Qcu br)∧w.ownsRow 0 79 3 (.slice a np c) np ds∧(∀ g,(Value.slice a np c).ownBlock=some g→w7.heap.size≤g)∧(∀ i x,ps[i]?=some x→(Lay.tt 6).In w7 QP x ((ds.drop (i*3)).take 3))) (a.tmps.getD 45 undef) w:=k0;generalize k0e:a.tmps.getD 45 undef=uk0 at k0;obtain⟨B,hh,a3,c3,ds3,rfl,g1,g2,h0,h1,h2,h3,h4⟩:=k0
   go_simp;exact hK _ _ (Below.refl _ _) hW ⟨B,hh,a3,c3,ds3,rfl,g1,g2,h0,h1,h2,h3,h4⟩
  trivial
def QkE (w:World) (m:List (Qg 6)) (f b:Int) (e:Ending) (w':World):Prop :=
 Below w.heap.size w w'∧(((modFault m).1≠0∧e=.returned (.tuple #[.pointer none,QY (modFault m)])) ∨
  ((modFault m).1=0∧QeJ m f b=false∧e=.returned (.tuple #[.pointer none,.agg #[.int .i64 1,.int .i64 (-1)]])) ∨
  ((modFault m).1=0∧QeJ m f b=true∧∃ (i j:Nat) (fn:Qg 6) (g:Qh 6) (B:Nat) (O A:Nat→Prop),f=(i:Int)∧b=(j:Int)∧m[i]?=some fn∧fn.blocks[j]?=some g∧e=.returned (.tuple #[.pointer (some ⟨B,0,none⟩),.agg #[.int .i64 0,.int .i64 0]])∧SAt w' B O A (JSt.start m fn g)∧∀ k,A k→w.heap.size≤k∧k<w'.heap.size))
theorem QdU {w:World}{m:List (Qg 6)}{p:Option Addr}{c:Nat}(f b:Int) (hng:¬ QX m) (hm:(Qak 6).In w All m [.slice p m.length c]) :
 Calls Tryz.prog 20 #[.agg #[.slice p m.length c],.int .i64 f,.int .i64 b] w fun e w'=>QkE w m f b e w':=by
 have hms:QcS m:=Qa8 hng;have HMS:=Qa hms;have b1:=QO w (.cells #[.slice p m.length c] 24);have b2:=QO (w.alloc (.cells #[.slice p m.length c] 24)) (.cells #[.int .i64 0,.int .i64 0] 30);have bb:=b1.trans (b2.mono b1.size);have HB:=Qa bb;have hX:Blk ((w.alloc (.cells #[.slice p m.length c] 24)).alloc (.cells #[.int .i64 0,.int .i64 0] 30)) w.heap.size #[.slice p m.length c] 24:=(Blk.new _ _ _:Blk (w.alloc (.cells #[.slice p m.length c] 24)) w.heap.size _ _).below b2
 have hR:Blk ((w.alloc (.cells #[.slice p m.length c] 24)).alloc (.cells #[.int .i64 0,.int .i64 0] 30)) (w.heap.size+1) #[.int .i64 0,.int .i64 0] 30:=by
  have:=Blk.new (w.alloc (.cells #[.slice p m.length c] 24)) #[.int .i64 0,.int .i64 0] 30
  simpa using this
 have HX:=Qa hX;have HR:=Qa hR;have HM:=Qa hm;have HM1:Hid ((Qak 6).In _ All m [.slice p m.length c]):=Lay.below hm bb;have hm8:m.length≤100000:=hms.1;clear hX hR b1 b2 bb hm hms hng;go_enter Tryz.func20,Tryz.ntmps20
 go_upto_region 1 with fail
 generalize (w.alloc (.cells #[.slice p m.length c] 24)).alloc (.cells #[.int .i64 0,.int .i64 0] 30)=w1 at HB HX HR HM1 ⊢;obtain⟨X,hX⟩:∃ X,X=w.heap.size:=⟨_,rfl⟩
 obtain⟨R,hR⟩:∃ R,R=X+1:=⟨_,rfl⟩
 rw[← hX] at HX HR ⊢
 rw[← hR] at HR ⊢
 have HXE:=Qa hX;have HRE:Hid (w.heap.size≤R):=by show _≤_;omega
 have HXR:¬ X=R:=by omega
 clear hX hR;have x0:=Qb HX.out 0 _ rfl;have CC:=Qa (Qdl HM1.out HMS.out);unfold Rd at CC;go_wp2_with fail
 refine CC.out.mono ?_;rintro e2 w2 ⟨rfl,b2⟩;have HB2:=Qa (HB.out.trans (b2.mono HB.out.size));have HX2:=Qa (HX.out.below b2);have HR2:=Qa (HR.out.below b2);clear b2 CC x0 HX HR HB HM1;have b3:=QO w2 (.cells #[.int .i64 (modFault m).1,.int .i64 (modFault m).2] 30);have HB3:=Qa (HB2.out.trans (b3.mono HB2.out.size));have HX3:=Qa (HX2.out.below b3);have HR3:=Qa (HR2.out.below b3);have hF3:=Blk.new w2 #[.int .i64 (modFault m).1,.int .i64 (modFault m).2] 30;have HF3:=Qa hF3;have hRF:¬ w2.heap.size=R:=by have:=HR2.out.lt;omega
 clear b3 hF3 HB2 HX2 HR2;go_upto_region 2 with fail
 generalize w2.alloc (.cells #[.int .i64 (modFault m).1,.int .i64 (modFault m).2] 30)=w3 at HB3 HX3 HR3 HF3 ⊢;generalize w2.heap.size=F8 at HF3 hRF ⊢;obtain⟨c0,a0,hcf⟩:∃ c0 a0,modFault m=(c0,a0):=⟨_,_,rfl⟩
 rw[hcf] at HF3 ⊢
 have HCF:=Qa hcf;clear hcf;simp only at HF3 ⊢
 have y0:=Qb HF3.out 0 _ rfl;have y1:=Qb HF3.out 1 _ rfl;by_cases hc0:c0=0
 rotate_left
 ·have hc0':(c0!=0)=true:=by simpa using hc0
  have r0:=Qb HR3.out 0 _ rfl;have r1:=Qb HR3.out 1 _ rfl;have z0:=Qp HR3.out 0;have z1:=Qp HR3.out 1;have HC0:=Qa hc0;clear hc0;go_upto_region 3 with fail
  go_region
  all_goals
   have D2:Blk ((w3.setCell ⟨R,0,none⟩ (.int .i64 c0)).setCell ⟨R,1,none⟩ (.int .i64 a0)).drew R #[.int .i64 c0,.int .i64 a0] 30:=by
    have h9:Blk ((w3.setCell ⟨R,0,none⟩ (.int .i64 c0)).setCell ⟨R,1,none⟩ (.int .i64 a0)) R #[.int .i64 c0,.int .i64 a0] 30:=by
     have:=Qo (Qo HR3.out 0 (.int .i64 c0)) 1 (.int .i64 a0)
     simpa using this
    exact h9
   have D3:Below w.heap.size w ((w3.setCell ⟨R,0,none⟩ (.int .i64 c0)).setCell ⟨R,1,none⟩ (.int .i64 a0)).drew:=Qbq ((HB3.out.setCell (p:=⟨R,0,none⟩) HRE.out _).setCell (p:=⟨R,1,none⟩) HRE.out _);clear y0 y1 r0 r1 z0 z1;generalize ((w3.setCell ⟨R,0,none⟩ (.int .i64 c0)).setCell ⟨R,1,none⟩ (.int .i64 a0)).drew=w9 at D2 D3 ⊢;have q0:=Qb D2 0 _ rfl;have q1:=Qb D2 1 _ rfl;go_wp2
   exact bodyPost_ret (v:=.tuple #[.pointer none,.agg #[.int .i64 c0,.int .i64 a0]]) (by simp[results,Tryz.results20,go_sem,q0,q1]) rfl ⟨D3,.inl ⟨by rw[HCF.out];exact HC0.out,by rw[HCF.out]⟩⟩
 subst hc0;have x3:=Qb HX3.out 0 _ rfl;have CH:=Qa (Qi2 f b hm8 (Lay.below HM.out HB3.out));have HZ:Hid ((modFault m).1=0):=by show _=_;rw[HCF.out]
 clear y1;go_wp2_with fail
 refine CH.out.mono ?_;rintro e4 w4 ⟨rfl,b4⟩;have HB4:=Qa (HB3.out.trans (b4.mono HB3.out.size));have HX4:=Qa (HX3.out.below b4);have HR4:=Qa (HR3.out.below b4);clear b4 CH x3 y0 HX3 HR3 HB3 HF3
 cases hhb:QeJ m f b with
 | false =>
  have r0:=Qb HR4.out 0 _ rfl;have r1:=Qb HR4.out 1 _ rfl;have z0:=Qp HR4.out 0;have z1:=Qp HR4.out 1;have HHB:=Qa hhb;clear hhb;go_wp2_with fail
  have D2:Blk ((w4.setCell ⟨R,0,none⟩ (.int .i64 1)).setCell ⟨R,1,none⟩ (.int .i64 (-1))) R #[.int .i64 1,.int .i64 (-1)] 30:=by
   have:=Qo (Qo HR4.out 0 (.int .i64 1)) 1 (.int .i64 (-1))
   simpa using this
  have D3:Below w.heap.size w ((w4.setCell ⟨R,0,none⟩ (.int .i64 1)).setCell ⟨R,1,none⟩ (.int .i64 (-1))):=(HB4.out.setCell (p:=⟨R,0,none⟩) HRE.out _).setCell (p:=⟨R,1,none⟩) HRE.out _;clear r0 r1 z0 z1;generalize (w4.setCell ⟨R,0,none⟩ (.int .i64 1)).setCell ⟨R,1,none⟩ (.int .i64 (-1))=w9 at D2 D3 ⊢;have q0:=Qb D2 0 _ rfl;have q1:=Qb D2 1 _ rfl;exact bodyPost_ret (v:=.tuple #[.pointer none,.agg #[.int .i64 1,.int .i64 (-1)]]) (by simp[results,Tryz.results20,go_sem,q0,q1]) rfl ⟨D3,.inr (.inl ⟨HZ.out,HHB.out,rfl⟩)⟩
 | true =>
  obtain⟨i,j,fn,g,rfl,rfl,hfi,hgj⟩:=Qir hhb
  have HHB:=Qa hhb;have x4:=Qb HX4.out 0 _ rfl;have CO:=Qa (Qje m p c w4 (Lay.below HM.out HB4.out) HMS.out);have hfl:i<m.length:=(List.getElem?_eq_some_iff.1 hfi).1;have hfi':(i:Int)<m.length:=by omega
  have hgl:j<fn.blocks.length:=(List.getElem?_eq_some_iff.1 hgj).1;have hgj':(j:Int)<fn.blocks.length:=by omega
  clear hhb;go_wp2_with fail
  refine CO.out.mono ?_;rintro e5 w5 ⟨v5,rfl,⟨pm,cm,rfl,hown⟩,b5⟩;have HB5:=Qa (HB4.out.trans (b5.mono HB4.out.size));have HR5:=Qa (HR4.out.below b5);have HOW5:=Qa hown;have hR5:=HR5.out.lt;clear b5 CO x4 HX4 HR4 HB4;obtain⟨mg,mo,ds,e1,e2,e3,hcs,hfn⟩:=Lay.list_at hown hfi
  subst e1;obtain⟨p1,d1,p2,d2,p3,d3,rfl,hpa,hre,hbs,hrr⟩:=Zx hfn
  obtain⟨eg,eo,pp,cp,es,rfl,hrange,hes,hpar,hone⟩:=QaN hbs hgj
  have v0:w5.cell? ⟨mg,mo+i*4,none⟩=some (.int .i64 fn.regs):=hcs 0 (by decide);have v1:w5.cell? ⟨mg,mo+i*4+1,none⟩=some (.slice p1 fn.params.length d1):=hcs 1 (by decide);have v2:w5.cell? ⟨mg,mo+i*4+2,none⟩=some (.slice p2 fn.results.length d2):=hcs 2 (by decide);have v3:w5.cell? ⟨mg,mo+i*4+3,none⟩=some (.slice (some ⟨eg,eo,none⟩) fn.blocks.length d3):=hcs 3 (by decide);have HFN:Hid ((Zs 6).In w5 (ZS w4.heap.size) fn [.int .i64 fn.regs,.slice p1 fn.params.length d1,.slice p2 fn.results.length d2,.slice (some ⟨eg,eo,none⟩) fn.blocks.length d3]):=hfn;have HPR:Hid ((Qm 6).In w5 (ZS w4.heap.size) g.params [.slice pp g.params.length cp]):=hpar;have HRG:=Qa hrange;have HONE:=Qa hone;have hl12:(Value.int .i64 g.regs::Value.slice pp g.params.length cp::es).length=12:=by simp[hes]
  have hmr:=QeR HZ.out;have hfr:=hmr.2 fn (List.mem_of_getElem? hfi);have hgr:=hfr.blocks g (List.mem_of_getElem? hgj);have HGR:=Qa (And.intro hfr hgr);have HIJ:=Qa (And.intro hfi hgj);have hmgl:mg<w5.heap.size:=World.block_lt_of_cell? w5 ⟨mg,mo+i*4,none⟩ v0;clear hcs hfn hbs hrange hpar hone hown hpa hre hrr e2 e3 hes hmr hfr hgr hfi hgj;have b6:=QO w5 (.cells #[.slice (some ⟨mg,mo,none⟩) m.length cm] 24);have b7:=QO (w5.alloc (.cells #[.slice (some ⟨mg,mo,none⟩) m.length cm] 24)) (.cells #[.int .i64 fn.regs,.slice p1 fn.params.length d1,.slice p2 fn.results.length d2,.slice (some ⟨eg,eo,none⟩) fn.blocks.length d3] 55);have b67:=b6.trans (b7.mono b6.size);have HB6:=Qa b67;have hM6:Blk ((w5.alloc (.cells #[.slice (some ⟨mg,mo,none⟩) m.length cm] 24)).alloc (.cells #[.int .i64 fn.regs,.slice p1 fn.params.length d1,.slice p2 fn.results.length d2,.slice (some ⟨eg,eo,none⟩) fn.blocks.length d3] 55)) w5.heap.size #[.slice (some ⟨mg,mo,none⟩) m.length cm] 24:=(Blk.new _ _ _:Blk (w5.alloc (.cells #[.slice (some ⟨mg,mo,none⟩) m.length cm] 24)) w5.heap.size _ _).below b7
  have hF6:Blk ((w5.alloc (.cells #[.slice (some ⟨mg,mo,none⟩) m.length cm] 24)).alloc (.cells #[.int .i64 fn.regs,.slice p1 fn.params.length d1,.slice p2 fn.results.length d2,.slice (some ⟨eg,eo,none⟩) fn.blocks.length d3] 55)) (w5.heap.size+1) #[.int .i64 fn.regs,.slice p1 fn.params.length d1,.slice p2 fn.results.length d2,.slice (some ⟨eg,eo,none⟩) fn.blocks.length d3] 55:=by
   have:=Blk.new (w5.alloc (.cells #[.slice (some ⟨mg,mo,none⟩) m.length cm] 24)) #[.int .i64 fn.regs,.slice p1 fn.params.length d1,.slice p2 fn.results.length d2,.slice (some ⟨eg,eo,none⟩) fn.blocks.length d3] 55
   simpa using this
  have HM6:=Qa hM6;have HF6:=Qa hF6;clear b6 b7 b67 hM6 hF6;generalize hnm:m.length=nm at HM6 HF6 HB6 hfi' HOW5;have HNM:=Qa hnm;generalize hnb:fn.blocks.length=nb at v3 HF6 HB6 HM6 hgj';have HNB:=Qa hnb;go_upto_region 8 with fail
  generalize (w5.alloc (.cells #[.slice (some ⟨mg,mo,none⟩) nm cm] 24)).alloc (.cells #[.int .i64 fn.regs,.slice p1 fn.params.length d1,.slice p2 fn.results.length d2,.slice (some ⟨eg,eo,none⟩) nb d3] 55)=w6 at HB6 HM6 HF6 ⊢;obtain⟨M9,hM9⟩:∃ M9,M9=w5.heap.size:=⟨_,rfl⟩
  obtain⟨F10,hF10⟩:∃ F10,F10=M9+1:=⟨_,rfl⟩
  rw[← hM9] at HM6 HF6 ⊢
  rw[← hF10] at HF6 ⊢
  clear hM9 hF10 v0 v1 v2 v3 hmgl;have f0:=Qb HF6.out 0 _ rfl;have f1:=Qb HF6.out 1 _ rfl;have f2:=Qb HF6.out 2 _ rfl;have f3:=Qb HF6.out 3 _ rfl;have m0:=Qb HM6.out 0 _ rfl;have HRG6:=Qa (Za HRG.out HB6.out);generalize hds:(Value.int .i64 g.regs::Value.slice pp g.params.length cp::es)=cs at HRG6 hl12;have HDS:=Qa hds;obtain⟨d1',d2',d3'⟩:=Qlc (w1:=w6) hl12
  have HK7:=Qa d1';have HB7:=Qa d2';have TH:=Qa d3';have TS:Hid ((Tryz.prog.info? 84).map (·.size)=some cs.length):=by show _=_;rw[hl12];exact sizeBk
  have TS2:Hid ((Tryz.prog.info? 84).map (·.size)=some cs.toArray.size):=by show _=_;rw[List.size_toArray];exact TS.out
  have TO:Hid (cs.toArray.all (·.oneCell')=true):=by
   refine all_oneCell_toArray fun v hv=>?_;rw[← hds] at hv
   simp only[List.mem_cons] at hv
   rcases hv with rfl | rfl | hv
   ·rfl
   ·rfl
   ·exact HONE.out v hv
  clear d1' d2' d3' hds hl12;go_upto_region 9 with (first | (refine wpList_load_mid rfl 84 (.tmp 34) rfl eg (eo+j*12) rfl cs _ HRG6.out Tryz.underlying84 rfl TS.out ?_) | (refine wpList_store_mid rfl 84 (.tmp 11) (.tmp 35) rfl w6.heap.size 0 cs.toArray rfl rfl TH.out TS2.out TO.out ?_))
  clear TH TS TS2 TO HRG6;generalize (w6.alloc (.cells #[.int .i64 0,.slice none 0 0,.slice none 0 0,.int .i64 0,.int .i64 0,.int .i64 0,.slice none 0 0,.slice none 0 0,.int .i64 0,.slice none 0 0,.slice none 0 0,.slice none 0 0] 84)).setCells w6.heap.size 0 cs.toArray.toList=w7 at HK7 HB7 ⊢;generalize w6.heap.size=B11 at HK7 ⊢;have HK7':Hid (Blk w7 B11 (Value.int .i64 g.regs::Value.slice pp g.params.length cp::es).toArray 84):=by rw[HDS.out];exact HK7.out
  have y0:=Qb HK7'.out 0 _ rfl;have y1:=Qb HK7'.out 1 _ rfl;have f0:=Qi f0 HB7.out;have f1:=Qi f1 HB7.out;have f2:=Qi f2 HB7.out;have f3:=Qi f3 HB7.out;have m0:=Qi m0 HB7.out;have B57:=Qa (HB6.out.trans (HB7.out.mono HB6.out.size));have BW7:=Qa (HB5.out.trans (B57.out.mono HB5.out.size));have HR7:=Qa (HR5.out.below B57.out);have HPQ:Hid ((Qm 6).In w7 (fun k=>k<w7.heap.size) g.params [.slice pp g.params.length cp]):=Lay.mono (Lay.below HPR.out B57.out) (fun k _ hl=>hl);have HPB:Hid (∀ (i:Nat) (x:TT 6) (cs:List Value) {w:World},g.params[i]?=some x→(Lay.tt 6).In w (fun k=>k<w7.heap.size) x cs→Below w7.heap.size w7 w→(Lay.tt 6).In w7 (fun k=>k<w7.heap.size) x cs):=fun i x cs w _ h hb=>(Lay.tt 6).keep (fun k hk _=>(hb.block k hk).symm) (fun _ h _=>h) h;have hbr:-9223372036854775808≤g.regs∧g.regs≤9223372036854775807:=by have h1:=HGR.out.2.regs;have h2:=HGR.out.1.regs;omega
  have hnp:g.params.length≤5000:=by have:=HGR.out.2.params.1;omega
  clear HK7 HK7' HDS HB6 HB7 HM6 HF6 HONE;refine jn9 m0 f0 f1 f2 f3 y0 y1 hbr (show Hid (g.params.length=g.params.length) from rfl) hnp HPQ HPB _ _ rfl (Nat.le_of_ble_eq_true (by kernel_rfl)) rfl rfl rfl ?_;rintro ops vs w8 hv46 ⟨B,hh,aa,ca,ds,hv6,hB1,hB2,hh1,hh2,ow1,ow2,ow3⟩ b8;show wpList _ ops _ [_] (Q5 _ vs [36,37,38,39,40,41,42,43,44,45,46,6]) w8;simp only[Q5,Act.put,List.setIfInBounds_toArray,List.set_cons_zero,List.set_cons_succ,hv46,hv6]
  have HR8:=Qa (HR7.out.below b8);have BW8:=Qa (BW7.out.trans (b8.mono BW7.out.size));have hRl:=HR7.out.lt;have Z:Hid (∀ w9,Below w7.heap.size w8 w9∨(∀ k,k≠R→w9.heap[k]?=w8.heap[k]?)→True):=fun _ _=>trivial
  have ST:Hid (SAt w8 B (fun k=>w7.heap.size≤k∧k<w8.heap.size) (fun k=>w7.heap.size≤k∧k<w8.heap.size) (JSt.start m fn g)):=by
   have B58:=B57.out.trans (b8.mono B57.out.size);have hs5:=B57.out.size;have hs8:=b8.size;refine⟨some ⟨mg,mo,none⟩,cm,hh,p1,d1,p2,d2,some ⟨eg,eo,none⟩,d3,.slice aa g.params.length ca,?_,?_,?_,⟨hh2,hh1,hh2.lt⟩,?_,⟨hB1,lt_of_block hB2⟩,fun k hk=>hk⟩
   ·rw[hB2]
    show _=some (Obj.cells #[.slice (some ⟨mg,mo,none⟩) m.length cm,_,_,_,_,.slice (some ⟨eg,eo,none⟩) fn.blocks.length d3,_] _ _);rw[HNM.out,HNB.out];rfl
   ·show (Qak 6).In w8 _ m [.slice (some ⟨mg,mo,none⟩) m.length cm];have h0:=HOW5.out;rw[← HNM.out] at h0
    exact(Qak 6).keep (fun k _ hl=>B58.block k hl) (fun k _ hl e=>by omega) h0
   ·exact(Zs 6).keep (fun k _ hl=>B58.block k hl) (fun k _ hl e=>by omega) HFN.out
   ·refine⟨ds,ow1,fun k hk=>⟨ow2 k hk,?_⟩,fun i x hx=>(Lay.tt 6).keep (fun k hk _=>b8.block k hk) (fun k hk _ e=>by omega) (ow3 i x hx)⟩
    obtain⟨-,q⟩:=id ow1
    rcases q with ⟨e,-⟩|⟨g',cap',cur,e,-,hq,-⟩
    ·rw[e] at hk;simp[Value.ownBlock] at hk
    ·rw[e] at hk;simp[Value.ownBlock] at hk;subst hk;exact lt_of_block hq
  have r0:=Qb HR8.out 0 _ rfl;have r1:=Qb HR8.out 1 _ rfl;have z0:=Qp HR8.out 0;have z1:=Qp HR8.out 1;clear hv46 hv6 hB1 hB2 hh1 hh2 ow1 ow2 ow3 b8 f0 f1 f2 f3 y0 y1 m0 Z;go_wp2_with fail
  have D2:Blk ((w8.setCell ⟨R,0,none⟩ (.int .i64 0)).setCell ⟨R,1,none⟩ (.int .i64 0)) R #[.int .i64 0,.int .i64 0] 30:=by
   have:=Qo (Qo HR8.out 0 (.int .i64 0)) 1 (.int .i64 0)
   simpa using this
  have D3:Below w.heap.size w ((w8.setCell ⟨R,0,none⟩ (.int .i64 0)).setCell ⟨R,1,none⟩ (.int .i64 0)):=(BW8.out.setCell (p:=⟨R,0,none⟩) HRE.out _).setCell (p:=⟨R,1,none⟩) HRE.out _
  have D4:SAt ((w8.setCell ⟨R,0,none⟩ (.int .i64 0)).setCell ⟨R,1,none⟩ (.int .i64 0)) B (fun k=>w7.heap.size≤k∧k<w8.heap.size) (fun k=>w7.heap.size≤k∧k<w8.heap.size) (JSt.start m fn g):=by
   have same:∀ k,((w8.setCell ⟨R,0,none⟩ (.int .i64 0)).setCell ⟨R,1,none⟩ (.int .i64 0)).heap[k]?=w8.heap[k]?:=fun k=>by
    by_cases hk:k=R
    ·subst hk;exact D2.trans HR8.out.symm
    ·rw[Below.heap_setCell _ _ _ _ hk,Below.heap_setCell _ _ _ _ hk]
   exact ST.out.keep (fun k _ _=>same k) (fun _ h _=>h) (fun _ h _=>h) (fun _ h=>h)
  have D5:∀ k,(w7.heap.size≤k∧k<w8.heap.size)→w.heap.size≤k∧k<((w8.setCell ⟨R,0,none⟩ (.int .i64 0)).setCell ⟨R,1,none⟩ (.int .i64 0)).heap.size:=fun k hk=>by
   have:=BW7.out.size
   simp
   omega
  clear r0 r1 z0 z1;generalize (w8.setCell ⟨R,0,none⟩ (.int .i64 0)).setCell ⟨R,1,none⟩ (.int .i64 0)=w9 at D2 D3 D4 D5 ⊢;have q0:=Qb D2 0 _ rfl;have q1:=Qb D2 1 _ rfl;exact bodyPost_ret (v:=.tuple #[.pointer (some ⟨B,0,none⟩),.agg #[.int .i64 0,.int .i64 0]]) (by simp[results,Tryz.results20,go_sem,q0,q1]) rfl ⟨D3,.inr (.inr ⟨HZ.out,HHB.out,i,j,fn,g,B,_,_,rfl,rfl,HIJ.out.1,HIJ.out.2,rfl,D4,D5⟩)⟩
def SOk (w:World) (b B0:Nat) (s:JSt):Prop:=∃ O A,SAt w b O A s∧(∀ k,A k→B0≤k∧k<w.heap.size)∧JOk s
section
variable {w w':World}{b B0:Nat}{s:JSt}
theorem SOk.below (h:SOk w b B0 s) (k:Below w.heap.size w w'):SOk w' b B0 s:=by
 obtain⟨O,A,h1,h2,h3⟩:=h
 exact⟨O,A,h1.below k,fun k' hk=>⟨(h2 k' hk).1,Nat.lt_of_lt_of_le (h2 k' hk).2 k.size⟩,h3⟩
theorem SOk.ok (h:SOk w b B0 s):JOk s:=by obtain⟨O,A,h1,h2,h3⟩:=h;exact h3
theorem SOk.lt (h:SOk w b B0 s):b<w.heap.size:=by obtain⟨O,A,h1,h2,h3⟩:=h;exact h1.lt
theorem STo.ok {O A:Nat→Prop}{s':JSt}(h:STo w w' b O A s') (hA:∀ k,A k→B0≤k∧k<w.heap.size) (hO:∀ k,O k→A k) (hB:B0≤w.heap.size) (hJ:JOk s'):SOk w' b B0 s'∧Below B0 w w':=by
 obtain⟨N,h1,h2,h3⟩:=h
 have e:=h3.size;refine⟨⟨_,_,h2,fun k hk=>?_,hJ⟩,⟨h3.os,h3.tape,h3.output,h3.size,fun k hk=>h3.block k (by omega) (fun e=>by have:=hA k (hO k e);omega)⟩⟩
 rcases hk with hk | hk
 ·have:=hA k hk;omega
 ·have:=h1 k hk;omega
theorem SOk.ins (h:SOk w b B0 s) (hB:B0≤w.heap.size){Q:Nat→Prop}{x:Qz}{rg ag:Option Addr}{rc ac:Nat}(hregs:intsL.In w Q x.regs [.slice rg x.regs.length rc]) (hargs:intsL.In w Q x.args [.slice ag x.args.length ac]) (hrc:x.regs.length≤rc) (hrng:Zq x) :
 Calls Tryz.prog 23 #[.pointer (some ⟨b,0,none⟩),Qau x rg ag rc ac] w fun e w'=>e=.returned (.int .i64 (s.code x))∧SOk w' b B0 (s.ins x)∧Below B0 w w':=by
 obtain⟨O,A,h1,h2,h3⟩:=h
 refine(QdE (fun k hk=>(h2 k hk).2) h3 h1 hregs hargs hrc hrng).mono ?_
 rintro e w' ⟨rfl,hS⟩;exact⟨rfl,hS.ok h2 h1.sub hB (h3.ins x)⟩
theorem SOk.end_ (h:SOk w b B0 s){Q:Nat→Prop}{x:MEnd}{e:EP}(hx:QaU w Q x e) (hra:-9223372036854775808≤x.a∧x.a≤9223372036854775807) (hs:x.yes.regs.length<2305843009213693952∧x.yes.args.length<2305843009213693952∧x.no.regs.length<2305843009213693952∧x.no.args.length<2305843009213693952) :
 Calls Tryz.prog 31 #[.pointer (some ⟨b,0,none⟩),.agg (Zz x e)] w fun r w'=>r=.returned (.int .i64 (s.fin x))∧Below w.heap.size w w':=by
 obtain⟨O,A,h1,h2,h3⟩:=h
 exact QiQ (fun k hk=>(h2 k hk).2) h3 h1 hx hra hs
theorem SOk.types (h:SOk w b B0 s):Calls Tryz.prog 26 #[.pointer (some ⟨b,0,none⟩)] w fun e w'=>Qbz w w' s.L e:=by
 obtain⟨O,A,h1,h2,h3⟩:=h
 exact QgX h3.vals (fun x hx=>Nat.le_trans (QZ (h3.types x hx)) (by omega)) h1
theorem SOk.held (h:SOk w b B0 s):∃ hh,w.cell? ⟨b,1,none⟩=some (.pointer (some ⟨hh,0,none⟩))∧Qu w hh s.H:=by
 obtain⟨O,A,h1,h2,h3⟩:=h
 obtain⟨pm,cm,hh,a1,c1,a2,c2,a3,c3,aL,cL,R⟩:=h1.read
 exact⟨hh,R.cells.2.1,R.held⟩
end
def Qh9 (w:World) (b B0 T T2:Nat) (s:JSt):Prop:=∃ O A,SAt w b O A s∧(∀ k,A k→B0≤k∧(k<T∨T2≤k)∧k<w.heap.size)∧T2≤w.heap.size∧JOk s
section
variable {w w':World}{b B0 T T2:Nat}{s:JSt}
theorem Qh9.one (h:Qh9 w b B0 T T2 s):SOk w b B0 s:=by obtain⟨O,A,h1,h2,h3,h4⟩:=h;exact⟨O,A,h1,fun k hk=>⟨(h2 k hk).1,(h2 k hk).2.2⟩,h4⟩
theorem Qh9.below (h:Qh9 w b B0 T T2 s) (k:Below w.heap.size w w'):Qh9 w' b B0 T T2 s:=by
 obtain⟨O,A,h1,h2,h3,h4⟩:=h
 exact⟨O,A,h1.below k,fun j hj=>⟨(h2 j hj).1,(h2 j hj).2.1,Nat.lt_of_lt_of_le (h2 j hj).2.2 k.size⟩,Nat.le_trans h3 k.size,h4⟩
theorem Qh9.more (h:Qh9 w b B0 T w.heap.size s) (k:Below w.heap.size w w'):Qh9 w' b B0 T w'.heap.size s:=by
 obtain⟨O,A,h1,h2,h3,h4⟩:=h
 exact⟨O,A,h1.below k,fun j hj=>⟨(h2 j hj).1,.inl (by have:=h2 j hj;omega),Nat.lt_of_lt_of_le (h2 j hj).2.2 k.size⟩,Nat.le_refl _,h4⟩
structure Ql1 (w w':World) (B0 T T2:Nat):Prop where
 bel:Below B0 w w'
 top:∀ k,T≤k→k<T2→w'.heap[k]?=w.heap[k]?
theorem Qh9.ins (h:Qh9 w b B0 T T2 s) (hB:B0≤w.heap.size){Q:Nat→Prop}{x:Qz}{rg ag:Option Addr}{rc ac:Nat}(hregs:intsL.In w Q x.regs [.slice rg x.regs.length rc]) (hargs:intsL.In w Q x.args [.slice ag x.args.length ac]) (hrc:x.regs.length≤rc) (hrng:Zq x) :
 Calls Tryz.prog 23 #[.pointer (some ⟨b,0,none⟩),Qau x rg ag rc ac] w fun e w'=>e=.returned (.int .i64 (s.code x))∧Qh9 w' b B0 T T2 (s.ins x)∧Ql1 w w' B0 T T2:=by
 obtain⟨O,A,h1,h2,h3,h4⟩:=h
 refine(QdE (fun k hk=>(h2 k hk).2.2) h4 h1 hregs hargs hrc hrng).mono ?_
 rintro e w' ⟨rfl,hS⟩;obtain⟨N,g1,g2,g3⟩:=id hS
 obtain⟨-,q2⟩:=hS.ok (B0:=B0) (fun k hk=>⟨(h2 k hk).1,(h2 k hk).2.2⟩) h1.sub hB (h4.ins x)
 have e:=g3.size;refine⟨rfl,⟨_,_,g2,fun k hk=>?_,Nat.le_trans h3 e,h4.ins x⟩,q2,fun k hk hl=>g3.block k (by omega) (fun e=>by have:=(h2 k (h1.sub k e)).2.1;omega)⟩
 rcases hk with hk | hk
 ·have:=h2 k hk;omega
 ·have:=g1 k hk;omega
end
def T00:MTo:=⟨0,[],[]⟩
def E00:MEnd:=⟨3,0,T00,T00,[]⟩
theorem QfN {α:Type}{A:Lay α}{w:World}{G:Nat}{c:Array Value}{t:TypeId}{x:α}{cs:List Value}(h:Blk w G c t) (hc:c.toList=cs) (hx:A.In w All x cs):A.list.In w All [x] [.slice (some ⟨G,0,none⟩) 1 1]:=by
 refine⟨some ⟨G,0,none⟩,1,rfl,fun i y hy=>?_⟩
 have hi:i=0:=by
  have:=(List.getElem?_eq_some_iff.1 hy).1
  simp at this;exact this
 subst hi;simp at hy
 subst hy;refine⟨G,0,cs,rfl,trivial,h.lt,fun j hj=>?_,hx⟩
 have hl:=A.len hx;have hj':j<c.size:=by rw[← hc] at hl;simp at hl;omega
 rw[Nat.zero_mul,Nat.zero_add,← hc,Array.getElem?_toList]
 exact(Qb h j c[j] (Array.getElem?_eq_getElem hj')).trans (Array.getElem?_eq_getElem hj').symm
theorem Qkz (w:World):EIn w All E00 ⟨none,0,none,0,none,0,none,0,none,0⟩ :=
 ⟨⟨Lay.list_nil _ _ _ _ _,Lay.list_nil _ _ _ _ _,by decide⟩,⟨Lay.list_nil _ _ _ _ _,Lay.list_nil _ _ _ _ _,by decide⟩,Lay.list_nil _ _ _ _ _,by decide,by decide⟩
def Qja (w w':World) (e:Ending):Prop:=∃ G1 G2,e=.returned (.agg #[.slice (some ⟨G2,0,none⟩) 1 1])∧Blk w' G1 #[.int .i64 0,.slice none 0 0,.slice none 0 0,.int .i64 3,.int .i64 0,.int .i64 0,.slice none 0 0,.slice none 0 0,.int .i64 0,.slice none 0 0,.slice none 0 0,.slice none 0 0] 84∧Blk w' G2 #[.int .i64 0,.slice none 0 0,.slice none 0 0,.slice (some ⟨G1,0,none⟩) 1 1] 55∧w.heap.size≤G1∧w.heap.size≤G2∧G1≠G2∧Below w.heap.size w w'
theorem QhX (w:World):Calls Tryz.prog 35 #[] w fun e w'=>Qja w w' e:=by
 refine Qy (n:=7) Tryz.func35 rfl rfl rfl ?_;intro a hF;have hW:=Wd.start w;replace hF:Fr 7 a []:=hF;refine wp_seq_k fun K1 hK1=>?_;refine rg hF fun ops=>?_;clear hF a;refine QfQ hW trivial rfl ?_;clear hW;intro w2 B2 hW2 hN;clear hN;refine St.nil fun a3 h3=>?_;refine hK1 _ _ ?_;refine wp_seq_k fun K4 hK4=>?_;refine rg h3 fun ops=>?_;clear h3 a3;intro a5 h5;refine Q8 (t:=1) (v:=.agg #[.int .i64 3,.int .i64 0,.int .i64 0,.slice none 0 0,.slice none 0 0,.int .i64 0,.slice none 0 0,.slice none 0 0,.slice none 0 0]) (w':=w2) h5 rfl rfl rfl (fun K hK=>?_) ?_
 ·go_simp
  exact hK
 clear h5;intro a6 hF6;refine Q8 (t:=2) (v:=.agg #[.int .i64 0,.slice none 0 0,.slice none 0 0,.int .i64 3,.int .i64 0,.int .i64 0,.slice none 0 0,.slice none 0 0,.int .i64 0,.slice none 0 0,.slice none 0 0,.slice none 0 0]) (w':=w2) hF6 rfl rfl rfl (fun K hK=>?_) ?_
 ·have k0:a6.tmps[1]?.getD undef=.agg #[.int .i64 3,.int .i64 0,.int .i64 0,.slice none 0 0,.slice none 0 0,.int .i64 0,.slice none 0 0,.slice none 0 0,.slice none 0 0]:=hF6.sl2 1 _ rfl
  go_simp;exact hK
 clear hF6;intro a7 hF7;refine Qjo (t:=3) #[.int .i64 0,.slice none 0 0,.slice none 0 0,.int .i64 3,.int .i64 0,.int .i64 0,.slice none 0 0,.slice none 0 0,.int .i64 0,.slice none 0 0,.slice none 0 0,.slice none 0 0] 84 1 hF7 hW2 rfl rfl rfl (fun K hK=>?_) ?_
 ·have k0:a7.tmps[2]?.getD undef=.agg #[.int .i64 0,.slice none 0 0,.slice none 0 0,.int .i64 3,.int .i64 0,.int .i64 0,.slice none 0 0,.slice none 0 0,.int .i64 0,.slice none 0 0,.slice none 0 0,.slice none 0 0]:=hF7.sl2 2 _ rfl
  go_simp;exact hK
 clear hF7 hW2;intro a8 w9 B9 hW9 hN hF8;clear hN;refine Q8 (t:=4) (v:=.agg #[.int .i64 0,.slice none 0 0,.slice none 0 0,.slice (some ⟨B9,0,none⟩) 1 1]) (w':=w9) hF8 rfl rfl rfl (fun K hK=>?_) ?_
 ·have k0:a8.tmps[3]?.getD undef=.slice (some ⟨B9,0,none⟩) 1 1:=hF8.sl2 3 _ rfl
  go_simp;exact hK
 clear hF8;intro a10 hF10;refine Qjo (t:=5) #[.int .i64 0,.slice none 0 0,.slice none 0 0,.slice (some ⟨B9,0,none⟩) 1 1] 55 1 hF10 hW9 rfl rfl rfl (fun K hK=>?_) ?_
 ·have k0:a10.tmps[4]?.getD undef=.agg #[.int .i64 0,.slice none 0 0,.slice none 0 0,.slice (some ⟨B9,0,none⟩) 1 1]:=hF10.sl2 4 _ rfl
  go_simp;exact hK
 clear hF10 hW9;intro a11 w12 B12 hW12 hN hF11;clear hN;refine Q8 (t:=6) (v:=.agg #[.slice (some ⟨B12,0,none⟩) 1 1]) (w':=w12) hF11 rfl rfl rfl (fun K hK=>?_) ?_
 ·have k0:a11.tmps[5]?.getD undef=.slice (some ⟨B12,0,none⟩) 1 1:=hF11.sl2 5 _ rfl
  go_simp;exact hK
 clear hF11;intro a13 hF13;refine St.go hF13 ?_;clear hF13 a13;refine sT 2 hW12 rfl rfl infModule rfl rfl rfl ?_;clear hW12;intro w14 hW14;refine St.nil fun a15 h15=>?_;refine hK4 _ _ ?_;refine wp_ret ?_;with_reducible repeat first | refine Qd ?_ | refine Qc ?_
 exact QS 2 h15 hW14 rfl rfl rfl Tryz.underlying24 rfl infModule ⟨B9,B12,rfl,hW14.get 1 rfl,hW14.get 0 rfl,hW14.new 1 _ rfl,hW14.new 0 _ rfl,fun e=>absurd (hW14.nd 1 0 _ _ rfl rfl e) (by decide),hW14.bel⟩
def g06:Qh 6:=⟨0,[],[],E00⟩
def f06:Qg 6:=⟨0,[],[],[g06]⟩
def L06:List (Qg 6):=[f06]
theorem Qii {w:World}{G1 G2:Nat}(h1:Blk w G1 #[.int .i64 0,.slice none 0 0,.slice none 0 0,.int .i64 3,.int .i64 0,.int .i64 0,.slice none 0 0,.slice none 0 0,.int .i64 0,.slice none 0 0,.slice none 0 0,.slice none 0 0] 84) (h2:Blk w G2 #[.int .i64 0,.slice none 0 0,.slice none 0 0,.slice (some ⟨G1,0,none⟩) 1 1] 55):(Qak 6).In w All L06 [.slice (some ⟨G2,0,none⟩) 1 1] :=
 QfN h2 rfl (Qec (f:=⟨none,0,none,0,some ⟨G1,0,none⟩,1⟩) ⟨Lay.list_nil _ _ _ _ _,Lay.list_nil _ _ _ _ _,QfN h1 rfl (Qds (x:=g06) (b:=⟨none,0,none,0,_⟩) ⟨Lay.list_nil _ _ _ _ _,Lay.list_nil _ _ _ _ _,Qkz w,by decide⟩),by decide⟩)
theorem L06_fault:modFault L06=(0,0):=by decide +kernel
theorem L06_not:¬ QX L06:=by
 rintro (h | ⟨x,hx,h⟩)
 ·exact absurd h (by decide)
 ·simp only[L06,List.mem_singleton] at hx
  subst hx;rcases h with h | h | h | ⟨y,hy,h⟩
  ·exact absurd h (by decide)
  ·rcases h with h | ⟨t,ht,_⟩
   ·exact absurd h (by decide)
   ·cases ht
  ·rcases h with h | ⟨t,ht,_⟩
   ·exact absurd h (by decide)
   ·cases ht
  ·simp only[f06,List.mem_singleton] at hy
   subst hy;rcases h with h | h | h | h | h | h | h | ⟨z,hz,h⟩
   ·exact absurd h (by decide)
   ·rcases h with h | ⟨t,ht,_⟩
    ·exact absurd h (by decide)
    ·cases ht
   ·exact absurd h (by decide)
   ·exact absurd h (by decide)
   ·exact absurd h (by decide)
   ·exact absurd h (by decide)
   ·exact absurd h (by decide)
   ·cases hz
def bI (k:Int):Qz:=⟨k,0,0,0,0,0,[],[]⟩
def bS0:JSt:=JSt.start L06 f06 g06
def bS1:JSt:=⟨L06,f06,[true],[mkT 2 0 []]⟩
def bS2:JSt:=⟨L06,f06,[false],[mkT 2 0 []]⟩
theorem bw1:bS1.want 0 2 true=0:=by decide
theorem bw2:bS2.want 0 2 true=10:=by decide
theorem bw4:bS1.want 0 4 true=9:=by decide
theorem b_new:bS0.code (bI 3)=0∧bS0.ins (bI 3)=bS1:=by
 have hm:bS0.makes (bI 3)=(0,[mkT 2 0 []]):=by rw[Qaz rfl];rfl
 have hc:bS0.code (bI 3)=0:=by
  rw[Qc6 (by decide)]
  unfold JSt.goC;rw[hm]
  decide
 refine⟨hc,?_⟩
 unfold JSt.ins;rw[if_pos hc]
 unfold JSt.next
 rw[hm]
 rfl
theorem b_len:bS1.code (bI 11)=9∧bS1.ins (bI 11)=bS1:=by
 have hm:bS1.makes (bI 11)=(9,[tInt]):=by rw[Qa0 rfl];show (bS1.want 0 4 true,_)=_;rw[bw4]
 have hc:bS1.code (bI 11)=9:=by
  rw[Qc6 (by decide)]
  unfold JSt.goC;rw[hm]
  rfl
 refine⟨hc,?_⟩
 unfold JSt.ins;rw[if_neg (by rw[hc];decide)]
theorem b_free:bS1.code (bI 4)=0∧bS1.ins (bI 4)=bS2:=by
 have hm:bS1.makes (bI 4)=(0,[]):=by rw[ZQ rfl];show (code2 (bS1.want 0 2 true) _,_)=_;rw[bw1];rfl
 have hc:bS1.code (bI 4)=0:=by
  rw[Qc6 (by decide)]
  unfold JSt.goC;rw[hm]
  decide
 refine⟨hc,?_⟩
 unfold JSt.ins;rw[if_pos hc]
 unfold JSt.next
 rw[hm]
 rfl
theorem b_free2:bS2.code (bI 4)=10∧bS2.ins (bI 4)=bS2:=by
 have hm:bS2.makes (bI 4)=(10,[]):=by rw[ZQ rfl];show (code2 (bS2.want 0 2 true) _,_)=_;rw[bw2];rfl
 have hc:bS2.code (bI 4)=10:=by
  rw[Qc6 (by decide)]
  unfold JSt.goC;rw[hm]
  rfl
 refine⟨hc,?_⟩
 unfold JSt.ins;rw[if_neg (by rw[hc];decide)]
theorem b_fin:bS2.fin E00=0:=by
 unfold JSt.fin;rw[if_neg (by decide),if_neg (by decide),if_neg (by decide)]
 show code2 (bS2.args [] [] _) _=0
 have:bS2.args [] [] (QaV bS2.f.regs.toNat)=0:=by unfold JSt.args;simp[QB]
 rw[this]
 decide
theorem QaJ (w:World):intsL.In w All ([]:List Int) [.slice none 0 0]:=Lay.list_nil _ _ _ _ _
theorem QkS (k:Int):Zq (bI k):=by simp[Zq,bI]
def eP0:EP:=⟨none,0,none,0,none,0,none,0,none,0⟩
theorem Qld (w:World):QaU w All E00 eP0:=⟨QaJ w,QaJ w,QaJ w,QaJ w,QaJ w⟩
theorem Qap (w:World):Calls Tryz.prog 19 #[] w fun e w'=>e=.returned (.bool true)∧Below w.heap.size w w':=by
 go_enter Tryz.func19,Tryz.ntmps19
 go_wp2_with fail
 refine(QhX w).mono ?_
 rintro e1 w1 ⟨G1,G2,rfl,k1,k2,-,-,-,b1⟩;have HM:=Qa (Qii k1 k2);have HB1:=Qa b1;clear k1 k2 b1;have CN:=Qa (QdU (c:=1) 0 0 L06_not HM.out);go_wp2_with fail
 refine CN.out.mono ?_;rintro e2 w2 ⟨b2,hN⟩;have HB2:=Qa (HB1.out.trans (b2.mono HB1.out.size));rcases hN with ⟨h,-⟩|⟨-,h,-⟩|⟨-,-,i,j,fn,g,B,O,A,hi,hj,hfn,hg,rfl,hS,hA⟩
 ·exact absurd (by rw[L06_fault]) h
 ·exact absurd h (by decide)
 have hi0:i=0:=by omega
 have hj0:j=0:=by omega
 subst hi0;subst hj0
 have hfe:fn=f06:=by
  have:L06[0]?=some f06:=rfl
  rw[this] at hfn
  injection hfn with hfn
  exact hfn.symm
 subst hfe
 have hge:g=g06:=by
  have:f06.blocks[0]?=some g06:=rfl
  rw[this] at hg
  injection hg with hg
  exact hg.symm
 subst hge;have S0:Hid (SOk w2 B w1.heap.size bS0):=⟨O,A,hS,hA,JOk.start (by rw[L06_fault]) L06_not (List.mem_singleton.2 rfl) (List.mem_singleton.2 rfl)⟩;have hs2:=b2.size;clear HM CN hS hA b2 hfn hg hi hj
 have INS:Hid (∀ (k:Int) (s:JSt) (wx:World),SOk wx B w1.heap.size s→w1.heap.size≤wx.heap.size→Calls Tryz.prog 23 #[.pointer (some ⟨B,0,none⟩),.agg #[.int .i64 k,.int .i64 0,.int .i64 0,.int .i64 0,.int .i64 0,.int .i64 0,.slice none 0 0,.slice none 0 0]] wx fun e w'=>e=.returned (.int .i64 (s.code (bI k)))∧SOk w' B w1.heap.size (s.ins (bI k))∧Below w1.heap.size wx w'):=fun k s wx hs hb =>
  hs.ins (x:=bI k) (rg:=none) (ag:=none) (rc:=0) (ac:=0) hb (QaJ wx) (QaJ wx) (Nat.le_refl _) (QkS k)
 have b3:=QO w2 (.cells #[.int .i64 0,.int .i64 0] 30);have S3:=Qa (S0.out.below b3);have HB3:=Qa (HB2.out.trans (b3.mono HB2.out.size));have hs3:=Nat.le_trans hs2 b3.size;clear S0 HB2 b3;go_upto_region 2 with fail
 generalize hw3:w2.alloc (.cells #[.int .i64 0,.int .i64 0] 30)=w3 at S3 HB3 hs3 ⊢;have y0:w3.cell? ⟨w2.heap.size,0,none⟩=some (.int .i64 0):=by rw[← hw3];exact Qb (Qe _ _ _) 0 _ rfl
 clear hw3;have HHS:=Qa hs3;clear hs2 hs3;go_wp2_with fail
 refine(INS.out 3 bS0 w3 S3.out HHS.out).mono ?_
 rintro e4 w4 ⟨rfl,h4,b4⟩;rw[b_new.2] at h4
 rw[b_new.1]
 have S4:=Qa h4;have HB4:Hid (Below w.heap.size w w4):=HB3.out.trans (b4.mono HB1.out.size);have HS4:=Qa (Nat.le_trans HHS.out b4.size);clear h4 b4 S3 HB3 HHS y0;go_wp2_with fail
 refine(INS.out 11 bS1 w4 S4.out HS4.out).mono ?_
 rintro e5 w5 ⟨rfl,h5,b5⟩;rw[b_len.2] at h5
 rw[b_len.1]
 have S5:=Qa h5;have HB5:Hid (Below w.heap.size w w5):=HB4.out.trans (b5.mono HB1.out.size);have HS5:=Qa (Nat.le_trans HS4.out b5.size);clear h5 b5 S4 HB4 HS4;go_wp2_with fail
 refine(INS.out 4 bS1 w5 S5.out HS5.out).mono ?_
 rintro e6 w6 ⟨rfl,h6,b6⟩;rw[b_free.2] at h6
 rw[b_free.1]
 have S6:=Qa h6;have HB6:Hid (Below w.heap.size w w6):=HB5.out.trans (b6.mono HB1.out.size);have HS6:=Qa (Nat.le_trans HS5.out b6.size);clear h6 b6 S5 HB5 HS5;go_wp2_with fail
 refine(INS.out 4 bS2 w6 S6.out HS6.out).mono ?_
 rintro e7 w7 ⟨rfl,h7,b7⟩;rw[b_free2.2] at h7
 rw[b_free2.1]
 have S7:=Qa h7;have HB7:Hid (Below w.heap.size w w7):=HB6.out.trans (b7.mono HB1.out.size);have HS7:=Qa (Nat.le_trans HS6.out b7.size);clear h7 b7 S6 HB6 HS6 INS;go_wp2_with fail
 refine(S7.out.types).mono ?_
 rintro e8 w8 ⟨a8,c8,rfl,-,-,b8⟩;rw[show bS2.L.length=1 from rfl]
 have S8:=Qa (S7.out.below b8);have HB8:Hid (Below w.heap.size w w8):=HB7.out.trans (b8.mono HB7.out.size);clear b8 S7 HB7 HS7
 have CE:Hid (Calls Tryz.prog 31 #[.pointer (some ⟨B,0,none⟩),.agg #[.int .i64 3,.int .i64 0,.int .i64 0,.slice none 0 0,.slice none 0 0,.int .i64 0,.slice none 0 0,.slice none 0 0,.slice none 0 0]] w8 fun r w'=>r=.returned (.int .i64 0)∧Below w8.heap.size w8 w'):=by
  have:=S8.out.end_ (x:=E00) (e:=eP0) (Qld w8) (by decide) (by decide)
  rw[b_fin] at this
  exact this
 go_wp2_with fail
 refine CE.out.mono ?_;rintro e9 w9 ⟨rfl,b9⟩;have HB9:Hid (Below w.heap.size w w9):=HB8.out.trans (b9.mono HB8.out.size);clear b9 CE;go_wp2
 go_ret;exact⟨rfl,HB9.out⟩
theorem QgB {n:Nat}{w:World}{m:List (Qg n)}{p:Option Addr}{c:Nat}(f b:Int) (hng:¬ QX m) (hbad:(modFault m).1≠0) (hm:(Qak n).In w All m [.slice p m.length c]) :
 Calls Tryz.prog 20 #[.agg #[.slice p m.length c],.int .i64 f,.int .i64 b] w fun e w'=>e=.returned (.tuple #[.pointer none,QY (modFault m)])∧Below w.heap.size w w':=by
 have hms:QcS m:=Qa8 hng;have HMS:=Qa hms;have HBAD:=Qa hbad;clear hbad;have b1:=QO w (.cells #[.slice p m.length c] 24);have b2:=QO (w.alloc (.cells #[.slice p m.length c] 24)) (.cells #[.int .i64 0,.int .i64 0] 30);have bb:=b1.trans (b2.mono b1.size);have HB:=Qa bb;have hX:Blk ((w.alloc (.cells #[.slice p m.length c] 24)).alloc (.cells #[.int .i64 0,.int .i64 0] 30)) w.heap.size #[.slice p m.length c] 24:=(Blk.new _ _ _:Blk (w.alloc (.cells #[.slice p m.length c] 24)) w.heap.size _ _).below b2
 have hR:Blk ((w.alloc (.cells #[.slice p m.length c] 24)).alloc (.cells #[.int .i64 0,.int .i64 0] 30)) (w.heap.size+1) #[.int .i64 0,.int .i64 0] 30:=by
  have:=Blk.new (w.alloc (.cells #[.slice p m.length c] 24)) #[.int .i64 0,.int .i64 0] 30
  simpa using this
 have HX:=Qa hX;have HR:=Qa hR;have HM:=Qa hm;have HM1:Hid ((Qak n).In _ All m [.slice p m.length c]):=Lay.below hm bb;have hm8:m.length≤100000:=hms.1;clear hX hR b1 b2 bb hm hms hng;go_enter Tryz.func20,Tryz.ntmps20
 go_upto_region 1 with fail
 generalize (w.alloc (.cells #[.slice p m.length c] 24)).alloc (.cells #[.int .i64 0,.int .i64 0] 30)=w1 at HB HX HR HM1 ⊢;obtain⟨X,hX⟩:∃ X,X=w.heap.size:=⟨_,rfl⟩
 obtain⟨R,hR⟩:∃ R,R=X+1:=⟨_,rfl⟩
 rw[← hX] at HX HR ⊢
 rw[← hR] at HR ⊢
 have HXE:=Qa hX;have HRE:Hid (w.heap.size≤R):=by show _≤_;omega
 have HXR:¬ X=R:=by omega
 clear hX hR;have x0:=Qb HX.out 0 _ rfl;have CC:=Qa (Qdl HM1.out HMS.out);unfold Rd at CC;go_wp2_with fail
 refine CC.out.mono ?_;rintro e2 w2 ⟨rfl,b2⟩;have HB2:=Qa (HB.out.trans (b2.mono HB.out.size));have HX2:=Qa (HX.out.below b2);have HR2:=Qa (HR.out.below b2);clear b2 CC x0 HX HR HB HM1;have b3:=QO w2 (.cells #[.int .i64 (modFault m).1,.int .i64 (modFault m).2] 30);have HB3:=Qa (HB2.out.trans (b3.mono HB2.out.size));have HX3:=Qa (HX2.out.below b3);have HR3:=Qa (HR2.out.below b3);have hF3:=Blk.new w2 #[.int .i64 (modFault m).1,.int .i64 (modFault m).2] 30;have HF3:=Qa hF3;have hRF:¬ w2.heap.size=R:=by have:=HR2.out.lt;omega
 clear b3 hF3 HB2 HX2 HR2;go_upto_region 2 with fail
 generalize w2.alloc (.cells #[.int .i64 (modFault m).1,.int .i64 (modFault m).2] 30)=w3 at HB3 HX3 HR3 HF3 ⊢;generalize w2.heap.size=F8 at HF3 hRF ⊢;obtain⟨c0,a0,hcf⟩:∃ c0 a0,modFault m=(c0,a0):=⟨_,_,rfl⟩
 rw[hcf] at HF3 ⊢
 have HCF:=Qa hcf;clear hcf;simp only at HF3 ⊢
 have y0:=Qb HF3.out 0 _ rfl;have y1:=Qb HF3.out 1 _ rfl;by_cases hc0:c0=0
 rotate_left
 ·have hc0':(c0!=0)=true:=by simpa using hc0
  have r0:=Qb HR3.out 0 _ rfl;have r1:=Qb HR3.out 1 _ rfl;have z0:=Qp HR3.out 0;have z1:=Qp HR3.out 1;have HC0:=Qa hc0;clear hc0;go_upto_region 3 with fail
  go_region
  all_goals
   have D2:Blk ((w3.setCell ⟨R,0,none⟩ (.int .i64 c0)).setCell ⟨R,1,none⟩ (.int .i64 a0)).drew R #[.int .i64 c0,.int .i64 a0] 30:=by
    have h9:Blk ((w3.setCell ⟨R,0,none⟩ (.int .i64 c0)).setCell ⟨R,1,none⟩ (.int .i64 a0)) R #[.int .i64 c0,.int .i64 a0] 30:=by
     have:=Qo (Qo HR3.out 0 (.int .i64 c0)) 1 (.int .i64 a0)
     simpa using this
    exact h9
   have D3:Below w.heap.size w ((w3.setCell ⟨R,0,none⟩ (.int .i64 c0)).setCell ⟨R,1,none⟩ (.int .i64 a0)).drew:=Qbq ((HB3.out.setCell (p:=⟨R,0,none⟩) HRE.out _).setCell (p:=⟨R,1,none⟩) HRE.out _);clear y0 y1 r0 r1 z0 z1;generalize ((w3.setCell ⟨R,0,none⟩ (.int .i64 c0)).setCell ⟨R,1,none⟩ (.int .i64 a0)).drew=w9 at D2 D3 ⊢;have q0:=Qb D2 0 _ rfl;have q1:=Qb D2 1 _ rfl;go_wp2
   exact bodyPost_ret (v:=.tuple #[.pointer none,.agg #[.int .i64 c0,.int .i64 a0]]) (by simp[results,Tryz.results20,go_sem,q0,q1]) rfl ⟨by rw[HCF.out],D3⟩
 exact absurd (by rw[HCF.out];exact hc0) HBAD.out
end Go.Proofs.YtacjnejckfhpoadGreat
namespace Go.Proofs.YtacjnejckfhpoadGreat
open Go.ChangeShapes Go.WideShapes Go.ChangeAt Go.RowKit
set_option linter.unusedVariables false
theorem size_any:∀ (n:Nat) (t:TT n) (a:Option Addr) (c:Nat) (w:World) (left:Int),TIn w All t a→0≤left→left≤2000 →
 Calls Tryz.prog 136 #[Tv t a c,.int .i64 left] w fun e w'=>e=.returned (.int .i64 (max (-1) (left - t.count)))∧Below w.heap.size w w':=by
 intro n
 induction n with
 | zero=>intro t;exact Empty.elim t
 | succ n ih =>
  intro t a c w left ht h0 h1
  have IH:Hid (∀ (t:TT n) (a:Option Addr) (c:Nat) (w:World) (left:Int),TIn w All t a→0≤left→left≤2000 →
   Calls Tryz.prog 136 #[Tv t a c,.int .i64 left] w fun e w'=>e=.returned (.int .i64 (max (-1) (left - t.count)))∧Below w.heap.size w w'):=ih
  clear ih;have hT:Hid (LIn w All t.2.2 a):=ht.list;have hc:t.count=1+(t.2.2.map TT.count).sum:=rfl;rw[hc]
  clear hc;simp only[Tv,TT.len_eq]
  generalize t.2.2=l at hT ⊢;generalize t.kind=k;generalize t.r=r;clear ht t;go_enter Tryz.func136,Tryz.ntmps136
  go_wp2_with fail
  have X0:Hid (Bx w (w.alloc (.cells #[.int .i64 k,.int .i64 r,.slice a l.length c] 79)) k r a l.length c):=Bx.start w k r a l.length c;generalize w.alloc (.cells #[.int .i64 k,.int .i64 r,.slice a l.length c] 79)=w1 at X0 ⊢;go_loopw [1,5] (fun lf i wr=>∃ q:Nat,q≤l.length∧i=.int .i64 q∧lf=.int .i64 (max (-1) (left - 1 - (((l.map TT.count).take q).sum:Nat)))∧Bx w wr k r a l.length c) (fun _ i _=>l.length - (intOf i).toNat)
  case atStart=>exact⟨0,Nat.zero_le _,rfl,by simp;omega,X0.out⟩
  case round =>
   clear X0;obtain⟨q,hq,rfl,rfl,hX⟩:=hrel
   generalize hs:(((l.map TT.count).take q).sum:Nat)=s;have e2:wr.cell? ⟨w.heap.size,2,none⟩=some (.slice a l.length c):=Qb hX.box 2 _ rfl;have X1:Hid (Bx w wr k r a l.length c):=hX;by_cases hlt:q<l.length
   ·by_cases hge:0≤max (-1) (left - 1 - (s:Int))
    ·have hx:l[q]?=some l[q]:=List.getElem?_eq_getElem hlt;generalize l[q]=x at hx;obtain⟨g,o,a',c',rfl,_,d0,d1,d2,hk⟩:=LIn.at (hT.out.below hX.bel) hx
     have H:Hid (TIn wr All x a'):=hk;have hS:=QdN TT.count l q x hx;rw[hs] at hS
     have HS:Hid (((l.map TT.count).take (q+1)).sum=s+x.count):=hS;have S:Hid (max (-1) (left - 1 - (s:Int))≤2000):=by show _≤_;omega
     clear hX hk hx hS;generalize hm:max (-1) (left - 1 - (s:Int))=m at hge S;have M:Hid (max (-1) (left - 1 - (s:Int))=m):=hm;clear hm;have hk0:(0:Int)≤q:=by omega
     have hk1:(q:Int)<l.length:=by omega
     have hk2:(q:Int)<2000:=by
      have h3:=length_le_sum ((l.map TT.count).take q) (fun y hy=>by obtain⟨z,_,rfl⟩:=List.mem_map.1 (List.mem_of_mem_take hy);exact z.count_pos);have h4:=M.out;rw[List.length_take,List.length_map] at h3
      omega
     clear hs;go_wp2_with fail
     refine(IH.out x a' c' _ m H.out hge S.out).mono ?_
     rintro e w2 ⟨rfl,b2⟩;have X2:Hid (Bx w w2 k r (some ⟨g,o,none⟩) l.length c):=X1.out.below b2;clear X1;go_wp2
     go_roundw
     case rel=>exact⟨q+1,by omega,by go_num,by rw[HS.out];have:=M.out;have:=x.count_pos;congr 1;omega,X2.out⟩
     case measure=>simp[intOf];omega
    ·have F:Hid (max (-1) (left - 1 - (s:Int))=max (-1) (left - ((1+(l.map TT.count).sum:Nat):Int))):=by
      have:=Qfv (l.map TT.count) q
      show _=_;omega
     have hge':max (-1) (left - 1 - (s:Int))<0:=by omega
     generalize max (-1) (left - 1 - (s:Int))=m at F hge' ⊢;clear hge hs;have hk1:(q:Int)<l.length:=by omega
     go_wp2
     go_ret;exact⟨by show Ending.returned (.int .i64 m)=_;have:=F.out;congr 2,X1.out.bel⟩
   ·have F:Hid (max (-1) (left - 1 - (s:Int))=max (-1) (left - ((1+(l.map TT.count).sum:Nat):Int))):=by
     rw[List.take_of_length_le (by simp;omega)] at hs
     show _=_;omega
    generalize max (-1) (left - 1 - (s:Int))=m at F ⊢;clear hs;have hk1:¬ (q:Int)<l.length:=by omega
    go_wp2
    go_ret;exact⟨by show Ending.returned (.int .i64 m)=_;have:=F.out;congr 2,X1.out.bel⟩
theorem Qhh (n:Nat) (t:TT n) (a:Option Addr) (c:Nat) (w:World) (ht:TIn w All t a) :
 Calls Tryz.prog 83 #[Tv t a c] w fun e w'=>e=.returned (.bool (decide (2000<t.count)))∧Below w.heap.size w w':=by
 have C:Hid (∀ wx,Below w.heap.size w wx→Calls Tryz.prog 136 #[Tv t a c,.int .i64 2000] wx fun e w'=>e=.returned (.int .i64 (max (-1) (2000 - (t.count:Int))))∧Below wx.heap.size wx w') :=
  fun wx hb=>size_any n t a c wx 2000 (ht.below hb) (by omega) (by omega)
 clear ht;simp only[Tv] at C ⊢
 generalize t.kind=k at C ⊢;generalize t.r=r at C ⊢;generalize t.len=len at C ⊢;generalize t.count=q at C ⊢;go_enter Tryz.func83,Tryz.ntmps83
 go_wp2_with fail
 refine(C.out _ ((Below.refl _ w).alloc (Nat.le_refl _) _)).mono ?_
 rintro e w2 ⟨rfl,b2⟩;have B:Hid (Below w.heap.size w w2):=((Below.refl _ w).alloc (Nat.le_refl _) _).trans (b2.mono (by simp));have F:Hid (max (-1) (2000 - (q:Int))<0↔2000<q):=by show _↔_;omega
 generalize max (-1) (2000 - (q:Int))=m at F ⊢;clear b2 C;go_wp2
 go_ret;exact⟨by show Ending.returned (.bool (decide (m<0)))=_;rw[decide_eq_decide.2 F.out],B.out⟩
end Go.Proofs.YtacjnejckfhpoadGreat
namespace Go.Proofs.YtacjnejckfhpoadGreat
open Go.ChangeShapes Go.WideShapes Go.ChangeAt Go.RowKit
set_option linter.unusedSimpArgs false
set_option linter.unusedVariables false
structure GbS (w wx:World) (l:List (Nat × Array Value × TypeId)):Prop where
 bel:Below w.heap.size w wx
 box:∀ (i:Nat) b,l[i]?=some b→Blk wx b.1 b.2.1 b.2.2
theorem GbS.below {w wx w':World}{l:List (Nat × Array Value × TypeId)}(h:GbS w wx l) (k:Below wx.heap.size wx w'):GbS w w' l:=⟨h.bel.trans (k.mono h.bel.size),fun i b hb=>(h.box i b hb).below k⟩
theorem GbS.add {w wx:World}{l:List (Nat × Array Value × TypeId)}(h:GbS w wx l){B:Nat}{c:Array Value}{t:TypeId}(hb:Blk wx B c t):GbS w wx ((B,c,t)::l) :=
 ⟨h.bel,fun i b hi=>by
  cases i with
  | zero=>cases hi;exact hb
  | succ i=>exact h.box i b hi⟩
theorem GbS.drop {w wx:World}{l:List (Nat × Array Value × TypeId)}{e:Nat × Array Value × TypeId}(h:GbS w wx (e::l)):GbS w wx l:=⟨h.bel,fun i b hb=>h.box (i+1) b hb⟩
theorem GbS.new {w wx:World}{l:List (Nat × Array Value × TypeId)}(h:GbS w wx l) (c:Array Value) (t:TypeId):GbS w (wx.alloc (.cells c t)) ((wx.heap.size,c,t)::l):=(h.below (QO _ _)).add (Blk.new _ _ _)
theorem Qar (n:Nat) (l:List (TT n)) (p:Option Addr) (c:Nat) (w:World) (hl0:LIn w All l p) :
 Rd Tryz.prog 36 #[.slice p l.length c] w (.bool (bdec (Zu l))):=by
 have HL:=QJ hl0;clear hl0;unfold Rd;go_enter Tryz.func36,Tryz.ntmps36
 by_cases h2:200<l.length
 ·have d:(200:Int)<l.length:=by omega
  have E:=QH (A:=Zu l) (.inl h2);go_wp2_with fail
  go_ret;exact⟨by first | rfl | (rw[E];done) | (rw[E];rfl),Below.refl _ _⟩
 have d:¬ (200:Int)<l.length:=by omega
 go_wp2_with fail
 go_loopw [3] (fun i wr=>∃ k:Nat,k≤l.length∧i=.int .i64 k∧Below w.heap.size w wr∧∀ (j:Nat) t,j<k→l[j]?=some t→¬ 2000<t.count) (fun i _=>l.length - (intOf i).toNat)
 case atStart=>exact⟨0,Nat.zero_le _,rfl,Below.refl _ _,fun j z hj=>absurd hj (Nat.not_lt_zero _)⟩
 case round =>
  obtain⟨k,hk,rfl,hb,hall⟩:=hrel
  have HB:=QJ hb;have HAQ:=QJ hall;clear hb hall;by_cases hkt:k<l.length
  rotate_left
  ·have hkt':¬ (k:Int)<l.length:=by omega
   have E:bdec (Zu l)=false:=QF (by
    rintro (h | ⟨t,ht,h⟩)
    ·exact h2 h
    ·obtain⟨j,hj⟩:=List.mem_iff_getElem?.1 ht
     exact HAQ.out j t (by have:=(List.getElem?_eq_some_iff.1 hj).1;omega) hj h)
   go_wp2_with fail
   go_ret;exact⟨by first | rfl | (rw[E];done) | (rw[E];rfl),HB.out⟩
  have hkt':(k:Int)<l.length:=by omega
  have ht:l[k]?=some l[k]:=List.getElem?_eq_getElem hkt;generalize l[k]=t at ht;have HT:=QJ ht;obtain⟨gt,ot,ta,tc,rfl,-,v0,v1,v2,hti⟩:=(show LIn wr All l p from HL.out.below HB.out).at ht
  have CG:=QJ (Qhh n t ta tc wr hti);clear ht hti;go_wp2_with fail
  refine CG.out.mono ?_;rintro _ w2 ⟨rfl,b2⟩;have HB2:=QJ (HB.out.trans (b2.mono HB.out.size));clear b2 CG v0 v1 v2 HB;by_cases h9:2000<t.count
  ·rw[decide_eq_true h9]
   have E:=QH (A:=Zu l) (.inr ⟨t,List.mem_of_getElem? HT.out,h9⟩);go_wp2_with fail
   go_ret;exact⟨by first | rfl | (rw[E];done) | (rw[E];rfl),HB2.out⟩
  ·rw[decide_eq_false h9]
   go_wp2_with fail
   go_roundw
   case rel =>
    refine⟨k+1,by omega,by go_num,HB2.out,fun j u hj hu=>?_⟩
    by_cases hjk:j<k
    ·exact HAQ.out j u hjk hu
    ·have:j=k:=by omega
     subst this;rw[HT.out] at hu
     cases hu
     exact h9
   case measure=>simp[intOf];omega
def Qg.much {n:Nat}(x:Qg n):Prop:=30<x.blocks.length∨Zu x.params∨Zu x.results
def Qh.much {n:Nat}(x:Qh n):Prop:=200<x.code.length∨Zu x.params∨300<x.fin.args.length∨300<x.fin.yes.regs.length∨300<x.fin.yes.args.length∨300<x.fin.no.regs.length∨300<x.fin.no.args.length
theorem Qai (n:Nat) (m:List (Qg n)) (p:Option Addr) (c:Nat) (w:World) (hm0:(Qak n).In w All m [.slice p m.length c]) :
 Rd Tryz.prog 9 #[.agg #[.slice p m.length c]] w (.bool (bdec (QX m))):=by
 have HM:=QJ hm0;have S:Hid (GbS w (w.alloc (.cells #[.slice p m.length c] 24)) [(w.heap.size,#[.slice p m.length c],24)]):=GbS.new ⟨Below.refl _ _,fun i b hb=>by simp at hb⟩ _ _;clear hm0;unfold Rd;go_enter Tryz.func9,Tryz.ntmps9
 go_upto_region 1 with fail
 generalize w.alloc (.cells #[.slice p m.length c] 24)=w1 at S ⊢;generalize w.heap.size=X at S ⊢;have x0:=Qb (S.out.box 0 _ rfl) 0 _ rfl;by_cases c1:20<m.length
 ·have d:(20:Int)<m.length:=by omega
  have E:=QH (A:=QX m) (.inl c1);have HB:=QJ S.out.bel;clear S;go_wp2_with fail
  go_ret;exact⟨by first | rfl | (rw[E];done) | (rw[E];rfl),HB.out⟩
 have d:¬ (20:Int)<m.length:=by omega
 go_wp2_with fail
 clear x0;go_loopw [3] (fun i wr=>∃ k:Nat,k≤m.length∧i=.int .i64 k∧GbS w wr [(X,#[.slice p m.length c],24)]∧∀ (j:Nat) f,j<k→m[j]?=some f→¬ f.great) (fun i _=>m.length - (intOf i).toNat)
 case atStart=>exact⟨0,Nat.zero_le _,rfl,S.out,fun j z hj=>absurd hj (Nat.not_lt_zero _)⟩
 case round =>
  obtain⟨k,hk,rfl,hs,hall⟩:=hrel
  have SR:=QJ hs;have HAQ:=QJ hall;clear hs hall S;obtain⟨wf,hwf⟩:∃ wf,wf=wr:=⟨_,rfl⟩
  subst hwf;have x0:=Qb (SR.out.box 0 _ rfl) 0 _ rfl;by_cases hkt:k<m.length
  rotate_left
  ·have hkt':¬ (k:Int)<m.length:=by omega
   have E:bdec (QX m)=false:=QF (by
    rintro (h | ⟨t,ht,h⟩)
    ·exact c1 h
    ·obtain⟨j,hj⟩:=List.mem_iff_getElem?.1 ht
     exact HAQ.out j t (by have:=(List.getElem?_eq_some_iff.1 hj).1;omega) hj h)
   have HB:=QJ SR.out.bel;clear SR;go_wp2_with fail
   go_ret;exact⟨by first | rfl | (rw[E];done) | (rw[E];rfl),HB.out⟩
  have hkt':(k:Int)<m.length:=by omega
  have hxk:m[k]?=some m[k]:=List.getElem?_eq_getElem hkt;generalize m[k]=x at hxk;have HXK:=QJ hxk;have YES:Hid (x.great→bdec (QX m)=true):=fun h=>QH (.inr ⟨x,List.mem_of_getElem? HXK.out,h⟩);obtain⟨g1,o1,f1,rfl,E1,In1⟩:=QcW HM.out hxk
  have HI1:=QJ In1;have R1:Hid (wf.rangeAt g1 (o1+k*4) [.int .i64 x.regs,.slice f1.pP x.params.length f1.cP,.slice f1.pR x.results.length f1.cR,.slice f1.pB x.blocks.length f1.cB]):=fun j v hj=>Qi (E1 j v hj) SR.out.bel;have v0:wf.cell? ⟨g1,o1+k*4,none⟩=some (.int .i64 x.regs):=R1.out 0 _ rfl;have v1:=R1.out 1 _ rfl;have v2:=R1.out 2 _ rfl;have v3:=R1.out 3 _ rfl;have S6:=QJ (SR.out.new #[.int .i64 x.regs,.slice f1.pP x.params.length f1.cP,.slice f1.pR x.results.length f1.cR,.slice f1.pB x.blocks.length f1.cB] 55);clear hxk E1 In1 R1 SR;go_upto_region 7 with fail
  generalize wf.alloc (.cells #[.int .i64 x.regs,.slice f1.pP x.params.length f1.cP,.slice f1.pR x.results.length f1.cR,.slice f1.pB x.blocks.length f1.cB] 55)=w6 at S6 ⊢;generalize wf.heap.size=Y at S6 ⊢;clear v0 v1 v2 v3 x0;generalize hL:([(Y,#[.int .i64 x.regs,.slice f1.pP x.params.length f1.cP,.slice f1.pR x.results.length f1.cR,.slice f1.pB x.blocks.length f1.cB],55),(X,#[.slice (some ⟨g1,o1,none⟩) m.length c],24)]:List (Nat × Array Value × TypeId))=L at S6;have BX:Hid (∀ wx,GbS w wx L→Blk wx Y #[.int .i64 x.regs,.slice f1.pP x.params.length f1.cP,.slice f1.pR x.results.length f1.cR,.slice f1.pB x.blocks.length f1.cB] 55∧GbS w wx [(X,#[.slice (some ⟨g1,o1,none⟩) m.length c],24)]):=by subst hL;exact fun wx h=>⟨h.box 0 _ rfl,h.drop⟩
  clear hL;have q1:=Qb (BX.out _ S6.out).1 1 _ rfl;have q2:=Qb (BX.out _ S6.out).1 2 _ rfl;have q3:=Qb (BX.out _ S6.out).1 3 _ rfl;go_cut [37] (fun v wx=>v=.bool (bdec x.much)∧GbS w wx L)
  case first =>
   by_cases h:30<x.blocks.length
   ·have d1:decide ((x.blocks.length:Int)>30)=true:=decide_eq_true (by omega);have E:=QH (A:=x.much) (.inl h);go_wp2
    go_meet;exact⟨by first | rfl | (rw[E];done) | (rw[E];rfl),S6.out⟩
   have d1:decide ((x.blocks.length:Int)>30)=false:=decide_eq_false (by omega);have CP:=QJ (Qar n x.params f1.pP f1.cP w6 (QI (Lay.below HI1.out.params S6.out.bel)).1);unfold Rd at CP;by_cases hp:Zu x.params
   ·have E:=QH (A:=x.much) (.inr (.inl hp));rw[QH hp] at CP
    go_wp2_with fail
    refine CP.out.mono ?_;rintro _ wa ⟨rfl,ba⟩;have SA:=QJ (S6.out.below ba);clear ba CP;go_wp2
    go_meet;exact⟨by first | rfl | (rw[E];done) | (rw[E];rfl),SA.out⟩
   rw[QF hp] at CP
   go_wp2_with fail
   refine CP.out.mono ?_;rintro _ wa ⟨rfl,ba⟩;have SA:=QJ (S6.out.below ba);clear ba CP q1 q2 q3;have q2:=Qb (BX.out _ SA.out).1 2 _ rfl;have CR:=QJ (Qar n x.results f1.pR f1.cR wa (QI (Lay.below HI1.out.results SA.out.bel)).1);unfold Rd at CR
   have E:bdec x.much=bdec (Zu x.results):=by
    by_cases hr:Zu x.results
    ·rw[QH hr];exact QH (.inr (.inr hr))
    ·rw[QF hr];exact QF (fun e=>by rcases e with e | e | e;exact h e;exact hp e;exact hr e)
   go_wp2_with fail
   refine CR.out.mono ?_;rintro _ wb ⟨rfl,bb⟩;have SB:=QJ (SA.out.below bb);clear bb CR q2;go_wp2
   all_goals
    go_meet;exact⟨by first | rfl | (rw[E];done) | (rw[E];rfl),SB.out⟩
  case rest =>
   obtain⟨rfl,hc⟩:=hcut
   have S7:=QJ hc;clear hc S6 q1 q2 q3;by_cases c2:x.much
   ·rw[QH c2]
    have E:=YES.out (by rcases c2 with h | h | h;exact .inl h;exact .inr (.inl h);exact .inr (.inr (.inl h)));have HB:=QJ S7.out.bel;clear S7 c2;go_wp2_with fail
    go_ret;exact⟨by first | rfl | (rw[E];done) | (rw[E];rfl),HB.out⟩
   rw[QF c2]
   have hbl:x.blocks.length≤30:=Nat.le_of_not_lt fun h=>c2 (.inl h);go_wp2_with fail
   go_loopw [5] (fun i wr=>∃ q:Nat,q≤x.blocks.length∧i=.int .i64 q∧GbS w wr L∧∀ (j:Nat) y,j<q→x.blocks[j]?=some y→¬ y.great) (fun i _=>x.blocks.length - (intOf i).toNat)
   case atStart=>exact⟨0,Nat.zero_le _,rfl,S7.out,fun j z hj=>absurd hj (Nat.not_lt_zero _)⟩
   case round =>
    obtain⟨q,hq,rfl,hs,hall⟩:=hrel
    have SQ:=QJ hs;have HBQ:=QJ hall;clear hs hall S7;obtain⟨wb,hwb⟩:∃ wb,wb=wr:=⟨_,rfl⟩
    subst hwb;have q3:=Qb (BX.out _ SQ.out).1 3 _ rfl;by_cases hqt:q<x.blocks.length
    rotate_left
    ·have hqt':¬ (q:Int)<x.blocks.length:=by omega
     go_wp2_with fail
     go_roundw
     case rel =>
      refine⟨k+1,by omega,by go_num,(BX.out _ SQ.out).2,fun j f hj hf=>?_⟩
      by_cases hjk:j<k
      ·exact HAQ.out j f hjk hf
      ·have:j=k:=by omega
       subst this;rw[HXK.out] at hf
       cases hf
       rintro (h | h | h | ⟨y,hy,h⟩)
       ·exact c2 (.inl h)
       ·exact c2 (.inr (.inl h))
       ·exact c2 (.inr (.inr h))
       ·obtain⟨i,hi⟩:=List.mem_iff_getElem?.1 hy
        exact HBQ.out i y (by have:=(List.getElem?_eq_some_iff.1 hi).1;omega) hi h
     case measure=>simp[intOf];omega
    have hqt':(q:Int)<x.blocks.length:=by omega
    have hyq:x.blocks[q]?=some x.blocks[q]:=List.getElem?_eq_getElem hqt;generalize x.blocks[q]=y at hyq;have HYQ:=QJ hyq;have YEB:Hid (y.great→bdec (QX m)=true):=fun h=>YES.out (.inr (.inr (.inr ⟨y,List.mem_of_getElem? HYQ.out,h⟩)));obtain⟨g2,o2,b2,e2,E2,In2⟩:=Qct HI1.out.blocks hyq
    have HI2:=QJ In2;rw[e2] at q3
    generalize hcs:([.int .i64 y.regs,.slice b2.pP y.params.length b2.cP,.slice b2.pC y.code.length b2.cC,.int .i64 y.fin.op,.int .i64 y.fin.a,.int .i64 y.fin.yes.block,.slice b2.e.pYR y.fin.yes.regs.length b2.e.cYR,.slice b2.e.pYA y.fin.yes.args.length b2.e.cYA,.int .i64 y.fin.no.block,.slice b2.e.pNR y.fin.no.regs.length b2.e.cNR,.slice b2.e.pNA y.fin.no.args.length b2.e.cNA,.slice b2.e.pA y.fin.args.length b2.e.cA]:List Value)=cs at E2;have hl:cs.length=12:=by rw[← hcs];rfl
    have MB:=QJ (Qk4.of wb hl);have TO:Hid (cs.toArray.all (·.oneCell')=true):=by show _=_;rw[← hcs];exact all_oneCell_toArray (List.all_eq_true.1 rfl)
    have RG:Hid (wb.rangeAt g2 (o2+q*12) cs):=fun j v hj=>Qi (E2 j v hj) SQ.out.bel;clear hyq E2 In2 hl e2;go_upto_region 13 with (first | (refine wpList_load_mid rfl 84 (.tmp 48) rfl g2 (o2+q*12) rfl cs _ RG.out Tryz.underlying84 rfl MB.out.size ?_) | (refine wpList_store_mid rfl 84 (.tmp 6) (.tmp 49) rfl wb.heap.size 0 cs.toArray rfl rfl MB.out.there MB.out.size2 TO.out ?_))
    have S3:=QJ ((SQ.out.below MB.out.bel).add MB.out.blk);clear SQ q3 RG TO MB;generalize (wb.alloc (.cells #[.int .i64 0,.slice none 0 0,.slice none 0 0,.int .i64 0,.int .i64 0,.int .i64 0,.slice none 0 0,.slice none 0 0,.int .i64 0,.slice none 0 0,.slice none 0 0,.slice none 0 0] 84)).setCells wb.heap.size 0 cs=w3 at S3 ⊢;generalize wb.heap.size=Z at S3 ⊢;subst hcs;simp only[Act.put]
    generalize hL2:((Z,#[.int .i64 y.regs,.slice b2.pP y.params.length b2.cP,.slice b2.pC y.code.length b2.cC,.int .i64 y.fin.op,.int .i64 y.fin.a,.int .i64 y.fin.yes.block,.slice b2.e.pYR y.fin.yes.regs.length b2.e.cYR,.slice b2.e.pYA y.fin.yes.args.length b2.e.cYA,.int .i64 y.fin.no.block,.slice b2.e.pNR y.fin.no.regs.length b2.e.cNR,.slice b2.e.pNA y.fin.no.args.length b2.e.cNA,.slice b2.e.pA y.fin.args.length b2.e.cA],84)::L:List (Nat × Array Value × TypeId))=L2 at S3;have BZ:Hid (∀ wx,GbS w wx L2→Blk wx Z #[.int .i64 y.regs,.slice b2.pP y.params.length b2.cP,.slice b2.pC y.code.length b2.cC,.int .i64 y.fin.op,.int .i64 y.fin.a,.int .i64 y.fin.yes.block,.slice b2.e.pYR y.fin.yes.regs.length b2.e.cYR,.slice b2.e.pYA y.fin.yes.args.length b2.e.cYA,.int .i64 y.fin.no.block,.slice b2.e.pNR y.fin.no.regs.length b2.e.cNR,.slice b2.e.pNA y.fin.no.args.length b2.e.cNA,.slice b2.e.pA y.fin.args.length b2.e.cA] 84∧GbS w wx L):=by subst hL2;exact fun wx h=>⟨h.box 0 _ rfl,h.drop⟩
    clear hL2;have z1:=Qb (BZ.out _ S3.out).1 1 _ rfl;have z2:=Qb (BZ.out _ S3.out).1 2 _ rfl;go_cut [97] (fun v wx=>v=.bool (bdec y.much)∧GbS w wx L2)
    case first =>
     by_cases h:200<y.code.length
     ·have d1:decide ((y.code.length:Int)>200)=true:=decide_eq_true (by omega);have E:=QH (A:=y.much) (.inl h);go_wp2
      go_meet;exact⟨by first | rfl | (rw[E];done) | (rw[E];rfl),S3.out⟩
     have d1:decide ((y.code.length:Int)>200)=false:=decide_eq_false (by omega);have CP:=QJ (Qar n y.params b2.pP b2.cP w3 (QI (Lay.below HI2.out.params S3.out.bel)).1);unfold Rd at CP;by_cases hp:Zu y.params
     ·have E:=QH (A:=y.much) (.inr (.inl hp));rw[QH hp] at CP
      go_wp2_with fail
      refine CP.out.mono ?_;rintro _ wa ⟨rfl,ba⟩;have SA:=QJ (S3.out.below ba);clear ba CP;go_wp2
      go_meet;exact⟨by first | rfl | (rw[E];done) | (rw[E];rfl),SA.out⟩
     rw[QF hp] at CP
     go_wp2_with fail
     refine CP.out.mono ?_;rintro _ wa ⟨rfl,ba⟩;have SA:=QJ (S3.out.below ba);clear ba CP z1 z2;have z6:=Qb (BZ.out _ SA.out).1 6 _ rfl;have z7:=Qb (BZ.out _ SA.out).1 7 _ rfl;have z9:=Qb (BZ.out _ SA.out).1 9 _ rfl;have z10:=Qb (BZ.out _ SA.out).1 10 _ rfl;have z11:=Qb (BZ.out _ SA.out).1 11 _ rfl
     have E0:Hid (bdec y.much=(decide ((y.fin.args.length:Int)>300)||(decide ((y.fin.yes.regs.length:Int)>300)||(decide ((y.fin.yes.args.length:Int)>300)||(decide ((y.fin.no.regs.length:Int)>300)||decide ((y.fin.no.args.length:Int)>300)))))):=by
      show _=_
      have e9:y.much↔((y.fin.args.length:Int)>300∨(y.fin.yes.regs.length:Int)>300∨(y.fin.yes.args.length:Int)>300∨(y.fin.no.regs.length:Int)>300∨(y.fin.no.args.length:Int)>300):=by
       unfold Qh.much;constructor
       ·rintro (e | e | e)
        ·exact absurd e h
        ·exact absurd e hp
        ·omega
       ·intro e;right;right;omega
      by_cases hy:y.much
      ·rw[QH hy];have:=e9.1 hy;simp only[← Bool.decide_or];exact(decide_eq_true this).symm
      ·rw[QF hy];have:=fun e=>hy (e9.2 e);simp only[← Bool.decide_or];exact(decide_eq_false this).symm
     generalize y.fin.args.length=n1 at E0 z11 ⊢;generalize y.fin.yes.regs.length=n2 at E0 z6 ⊢;generalize y.fin.yes.args.length=n3 at E0 z7 ⊢;generalize y.fin.no.regs.length=n4 at E0 z9 ⊢;generalize y.fin.no.args.length=n5 at E0 z10 ⊢;by_cases k1:(n1:Int)>300
     ·have d9:decide ((n1:Int)>300)=true:=decide_eq_true k1;rw[d9] at E0
      go_wp2
      go_meet;exact⟨by rw[E0.out];first | done | rfl,SA.out⟩
     have e1:decide ((n1:Int)>300)=false:=decide_eq_false k1;rw[e1] at E0
     by_cases k2:(n2:Int)>300
     ·have d9:decide ((n2:Int)>300)=true:=decide_eq_true k2;rw[d9] at E0
      go_wp2
      go_meet;exact⟨by rw[E0.out];first | done | rfl,SA.out⟩
     have e2:decide ((n2:Int)>300)=false:=decide_eq_false k2;rw[e2] at E0
     by_cases k3:(n3:Int)>300
     ·have d9:decide ((n3:Int)>300)=true:=decide_eq_true k3;rw[d9] at E0
      go_wp2
      go_meet;exact⟨by rw[E0.out];first | done | rfl,SA.out⟩
     have e3:decide ((n3:Int)>300)=false:=decide_eq_false k3;rw[e3] at E0
     by_cases k4:(n4:Int)>300
     ·have d9:decide ((n4:Int)>300)=true:=decide_eq_true k4;rw[d9] at E0
      go_wp2
      go_meet;exact⟨by rw[E0.out];first | done | rfl,SA.out⟩
     have e4:decide ((n4:Int)>300)=false:=decide_eq_false k4;rw[e4] at E0
     go_wp2
     all_goals
      go_meet;exact⟨by rw[E0.out];first | done | rfl,SA.out⟩
    case rest =>
     obtain⟨rfl,hc⟩:=hcut
     have S4:=QJ hc;clear hc S3 z1 z2;by_cases c3:y.much
     ·rw[QH c3]
      have E:=YEB.out (by rcases c3 with h | h | h | h | h | h | h;exact .inl h;exact .inr (.inl h);exact .inr (.inr (.inl h));exact .inr (.inr (.inr (.inl h)));exact .inr (.inr (.inr (.inr (.inl h))));exact .inr (.inr (.inr (.inr (.inr (.inl h)))));exact .inr (.inr (.inr (.inr (.inr (.inr (.inl h)))))));have HB:=QJ S4.out.bel;clear S4 c3;go_wp2_with fail
      go_ret;exact⟨by first | rfl | (rw[E];done) | (rw[E];rfl),HB.out⟩
     rw[QF c3]
     have hcl:y.code.length≤200:=Nat.le_of_not_lt fun h=>c3 (.inl h);go_wp2_with fail
     go_loopw [7] (fun i wr=>∃ t:Nat,t≤y.code.length∧i=.int .i64 t∧GbS w wr L2∧∀ (j:Nat) z,j<t→y.code[j]?=some z→¬ (300<z.regs.length∨300<z.args.length)) (fun i _=>y.code.length - (intOf i).toNat)
     case atStart=>exact⟨0,Nat.zero_le _,rfl,S4.out,fun j z hj=>absurd hj (Nat.not_lt_zero _)⟩
     case round =>
      obtain⟨t,ht,rfl,hs,hall⟩:=hrel
      have ST:=QJ hs;have HTQ:=QJ hall;clear hs hall S4;have z2:=Qb (BZ.out _ ST.out).1 2 _ rfl;by_cases htt:t<y.code.length
      rotate_left
      ·have htt':¬ (t:Int)<y.code.length:=by omega
       go_wp2_with fail
       go_roundw
       case rel =>
        refine⟨q+1,by omega,by go_num,(BZ.out _ ST.out).2,fun j u hj hu=>?_⟩
        by_cases hjq:j<q
        ·exact HBQ.out j u hjq hu
        ·have:j=q:=by omega
         subst this;rw[HYQ.out] at hu
         cases hu
         rintro (h | h | h | h | h | h | h | ⟨z,hz,h⟩)
         ·exact c3 (.inl h)
         ·exact c3 (.inr (.inl h))
         ·exact c3 (.inr (.inr (.inl h)))
         ·exact c3 (.inr (.inr (.inr (.inl h))))
         ·exact c3 (.inr (.inr (.inr (.inr (.inl h)))))
         ·exact c3 (.inr (.inr (.inr (.inr (.inr (.inl h))))))
         ·exact c3 (.inr (.inr (.inr (.inr (.inr (.inr h))))))
         ·obtain⟨i,hi⟩:=List.mem_iff_getElem?.1 hz
          exact HTQ.out i z (by have:=(List.getElem?_eq_some_iff.1 hi).1;omega) hi h
       case measure=>simp[intOf];omega
      have htt':(t:Int)<y.code.length:=by omega
      have hz:y.code[t]?=some y.code[t]:=List.getElem?_eq_getElem htt;generalize y.code[t]=z at hz;have HZ:=QJ hz;obtain⟨g3,o3,i3,e3,E3,-⟩:=Qf1 HI2.out.code hz
      rw[e3] at z2
      have w6':=Qi (show w.cell? ⟨g3,o3+t*8+6,none⟩=_ from E3 6 _ rfl) ST.out.bel;have w7':=Qi (show w.cell? ⟨g3,o3+t*8+7,none⟩=_ from E3 7 _ rfl) ST.out.bel;clear hz E3 e3;go_upto_region 18 with fail
      go_cut [122] (fun v wx=>v=.bool (decide (300<z.regs.length∨300<z.args.length))∧GbS w wx L2)
      case first =>
       by_cases h:(z.regs.length:Int)>300
       ·have d1:decide ((z.regs.length:Int)>300)=true:=decide_eq_true h;have E:decide (300<z.regs.length∨300<z.args.length)=true:=decide_eq_true (by omega);go_wp2
        go_meet;exact⟨by first | rfl | (rw[E];done) | (rw[E];rfl),ST.out⟩
       ·have d1:decide ((z.regs.length:Int)>300)=false:=decide_eq_false h;have E:decide (300<z.regs.length∨300<z.args.length)=decide ((z.args.length:Int)>300):=by rw[decide_eq_decide];omega
        go_wp2
        all_goals
         go_meet;exact⟨by first | rfl | (rw[E];done) | (rw[E];rfl),ST.out⟩
      case rest =>
       obtain⟨rfl,hc⟩:=hcut
       have SU:=QJ hc;clear hc ST z2 w6' w7';by_cases c4:300<z.regs.length∨300<z.args.length
       ·rw[decide_eq_true c4]
        have E:=YEB.out (.inr (.inr (.inr (.inr (.inr (.inr (.inr ⟨z,List.mem_of_getElem? HZ.out,c4⟩)))))));have HB:=QJ SU.out.bel;clear SU c4;go_wp2_with fail
        go_ret;exact⟨by first | rfl | (rw[E];done) | (rw[E];rfl),HB.out⟩
       ·rw[decide_eq_false c4]
        go_wp2_with fail
        go_roundw
        case rel =>
         refine⟨t+1,by omega,by go_num,SU.out,fun j u hj hu=>?_⟩
         by_cases hjt:j<t
         ·exact HTQ.out j u hjt hu
         ·have:j=t:=by omega
          subst this;rw[HZ.out] at hu
          cases hu
          exact c4
        case measure=>simp[intOf];omega
theorem QeS {op:Int}{fa fb fc fk fn fr fs:Bool}(hop:QD op=some (fa,fb,fc,fk,fn,fr,fs)) (w:World):Rd Tryz.prog 92 #[.int .i64 op] w (.tuple #[.agg #[.bool fa,.bool fb,.bool fc,.bool fk,.bool fn,.bool fr,.bool fs],.bool true]):=by
 have:=Qce op w
 rwa [show Zg op=.tuple #[.agg #[.bool fa,.bool fb,.bool fc,.bool fk,.bool fn,.bool fr,.bool fs],.bool true] from by unfold Zg;rw[hop]] at this
theorem QgU {op:Int}(hop:QD op=none) (w:World):Rd Tryz.prog 92 #[.int .i64 op] w (.tuple #[.agg #[.bool false,.bool false,.bool false,.bool false,.bool false,.bool false,.bool false],.bool false]):=by
 have:=Qce op w
 rwa [show Zg op=.tuple #[.agg #[.bool false,.bool false,.bool false,.bool false,.bool false,.bool false,.bool false],.bool false] from by unfold Zg;rw[hop]] at this
theorem QU {lm:Nat}{op a b c k n:Int}{rl al:Nat}{fa fb fc fk fn fr fs d1 d2 d3 d4 d5 d6 d7:Bool}(e:QD op=some (fa,fb,fc,fk,fn,fr,fs))
 (h1:d1=(!fa&&a!=0)) (h2:d2=(d1||(!fb&&b!=0))) (h3:d3=(d2||(!fc&&c!=0))) (h4:d4=(d3||(!fk&&k!=0))) (h5:d5=(d4||(!fn&&n!=0))) (h6:d6=(d5||(!fr&&decide ((0:Int)<(rl:Int))))) (h7:d7=(d6||(!fs&&decide ((0:Int)<(al:Int))))) :
 QN lm op a b c k n rl al=if d7 then 4
 else if op=2∧(k<1∨9<k) then 1
 else if op=5∧8<al then 2
 else if (op=6∨op=7)∧(k<0∨7<k) then 1
 else if op=14∧(k<0∨(lm:Int)≤k) then 1
 else if op=14∧(6<rl∨8<al) then 2
 else 0:=by
 subst h1 h2 h3 h4 h5 h6 h7;simp only[QN,e]
 have e1:decide ((0:Int)<(rl:Int))=decide (0<rl):=by simp
 have e2:decide ((0:Int)<(al:Int))=decide (0<al):=by simp
 rw[e1,e2]
theorem Qjf {xop:Int}{fa fb fc fk fn fr fs:Bool}(hop:QD xop=some (fa,fb,fc,fk,fn,fr,fs)) (xa xb xc xk xn:Int) (am ra aa:Option Addr) (lm cm rl rc al ac:Nat) (w:World) :
 Rd Tryz.prog 72 #[.agg #[.slice am lm cm],.agg #[.int .i64 xop,.int .i64 xa,.int .i64 xb,.int .i64 xc,.int .i64 xk,.int .i64 xn,.slice ra rl rc,.slice aa al ac]] w (.int .i64 (QN lm xop xa xb xc xk xn rl al)):=by
 refine Qy (n:=137) Tryz.func72 rfl rfl rfl ?_;intro a hF;have hW:=Wd.start w;replace hF:Fr 137 a [(0,.agg #[.slice am lm cm]),(1,.agg #[.int .i64 xop,.int .i64 xa,.int .i64 xb,.int .i64 xc,.int .i64 xk,.int .i64 xn,.slice ra rl rc,.slice aa al ac])]:=hF;refine wp_seq_k fun K1 hK1=>?_;refine rg hF fun ops=>?_;clear hF a;refine sB hW trivial rfl rfl ?_;clear hW;intro w2 B2 hW2 hN;clear hN;refine sB hW2 trivial rfl rfl ?_;clear hW2;intro w3 B3 hW3 hN;clear hN;refine sa trivial rfl rfl ?_;refine St.nil fun a4 h4=>?_;refine hK1 _ _ ?_;refine wp_seq_k fun K5 hK5=>?_;refine rg h4 fun ops=>?_;clear h4 a4;refine Qhq trivial rfl rfl ?_;refine Zr 0 hW3 trivial rfl rfl rfl rfl ?_;refine QiF cf92 hW3 (QeS hop w3) trivial rfl rfl ?_;clear hW3;intro w6 hW6;refine sm trivial rfl rfl ?_;intro a7 h7;refine Q8 (t:=11) (v:=.agg #[.bool fa,.bool fb,.bool fc,.bool fk,.bool fn,.bool fr,.bool fs]) (w':=w6) h7 rfl rfl rfl (fun K hK=>?_) ?_
 ·have k0:a7.tmps.getD 7 undef=.tuple #[.agg #[.bool fa,.bool fb,.bool fc,.bool fk,.bool fn,.bool fr,.bool fs],.bool true]:=h7.sl 7 _ rfl
  go_simp;exact hK
 clear h7;intro a8 hF8;refine Q8 (t:=12) (v:=.bool true) (w':=w6) hF8 rfl rfl rfl (fun K hK=>?_) ?_
 ·have k0:a8.tmps.getD 7 undef=.tuple #[.agg #[.bool fa,.bool fb,.bool fc,.bool fk,.bool fn,.bool fr,.bool fs],.bool true]:=hF8.sl 7 _ rfl
  go_simp;exact hK
 clear hF8;intro a9 hF9;refine St.go hF9 ?_;clear hF9 a9;refine Qf6 hW6 trivial rfl ?_;clear hW6;intro w10 B10 hW10 hN;clear hN;refine sT 0 hW10 rfl rfl infFields rfl rfl rfl ?_;clear hW10;intro w11 hW11;refine sa trivial rfl rfl ?_;refine St.nil fun a12 h12=>?_;refine hK5 _ _ ?_;refine wp_seq_k fun K13 hK13=>?_;refine wp_seq_k fun K14 hK14=>?_;refine rg h12 fun ops=>?_;clear h12 a12;refine sm trivial rfl rfl ?_;refine sn trivial rfl rfl ?_;refine St.nil fun a15 h15=>?_;refine hK14 _ _ ?_;refine Qd8 (t:=14) h15 rfl ?_;refine wp_skip ?_;refine hK13 _ _ ?_;refine wp_seq_k fun K16 hK16=>?_;refine wp_seq_k fun K17 hK17=>?_;refine Zb ?_;intro ops hops;have hg3:(ops[3]?).bind (fun o:Oper=>o.dst)=some 18:=hops 3;have hg8:(ops[8]?).bind (fun o:Oper=>o.dst)=some 23:=hops 8;have hg12:(ops[12]?).bind (fun o:Oper=>o.dst)=some 27:=hops 12;have hg18:(ops[18]?).bind (fun o:Oper=>o.dst)=some 33:=hops 18;have hg22:(ops[22]?).bind (fun o:Oper=>o.dst)=some 37:=hops 22;have hg28:(ops[28]?).bind (fun o:Oper=>o.dst)=some 43:=hops 28;have hg32:(ops[32]?).bind (fun o:Oper=>o.dst)=some 47:=hops 32;have hg38:(ops[38]?).bind (fun o:Oper=>o.dst)=some 53:=hops 38;have hg42:(ops[42]?).bind (fun o:Oper=>o.dst)=some 57:=hops 42;have hg48:(ops[48]?).bind (fun o:Oper=>o.dst)=some 63:=hops 48;have hg52:(ops[52]?).bind (fun o:Oper=>o.dst)=some 67:=hops 52;have hg59:(ops[59]?).bind (fun o:Oper=>o.dst)=some 74:=hops 59;have hg63:(ops[63]?).bind (fun o:Oper=>o.dst)=some 78:=hops 63;clear hops;refine Qfc 9 (fun a' w'=>(∃ d1:Bool,d1=(!fa&&xa!=0)∧Fr 137 a' [(23,.bool d1),(1,.agg #[.int .i64 xop,.int .i64 xa,.int .i64 xb,.int .i64 xc,.int .i64 xk,.int .i64 xn,.slice ra rl rc,.slice aa al ac]),(0,.agg #[.slice am lm cm]),(2,.pointer (some ⟨B2,0,none⟩)),(3,.pointer (some ⟨B3,0,none⟩)),(4,.int .i64 0),(5,.pointer (some ⟨B10,0,none⟩)),(6,.bool true)])∧w11=w') (fun KC hKC=>?_) ?_
 ·refine St.go h15 ?_;clear h15 a15
  refine Qh6 trivial rfl rfl ?_;refine QcR 0 hW11 trivial rfl rfl rfl rfl ?_;refine sn trivial rfl rfl ?_;refine sm trivial rfl rfl ?_;intro a18 h18;rcases Bool.eq_false_or_eq_true (!fa) with hb | hb
  ·rw[hb] at h18
   have hc19:fa=false:=by simpa using hb
   clear hb;refine St.go h18 ?_;clear h18 a18;refine QkV ⟨_,hg3,rfl,rfl⟩ rfl rfl ?_;refine Zr 1 hW11 ⟨_,hg3,rfl,rfl⟩ rfl rfl rfl rfl ?_;refine sne ⟨_,hg3,rfl,rfl⟩ rfl rfl rfl ?_;refine sp trivial rfl rfl rfl ?_;refine sm trivial rfl rfl ?_;refine St.nil fun a20 h20=>?_;exact hKC _ _ ⟨⟨xa!=0,by simp[hc19],(h20.keep (h20.keep (h20.keep (h20.keep (h20.keep (h20.keep (h20.keep (h20.keep h20.nil (t:=6) rfl) (t:=5) rfl) (t:=4) rfl) (t:=3) rfl) (t:=2) rfl) (t:=0) rfl) (t:=1) rfl) (t:=23) rfl)⟩,rfl⟩
  rw[hb] at h18
  have hc21:fa=true:=by simpa using hb
  clear hb;refine St.go h18 ?_;clear h18 a18;refine so hg3 rfl rfl rfl rfl ?_;refine so hg3 rfl rfl rfl rfl ?_;refine so hg3 rfl rfl rfl rfl ?_;refine spf trivial rfl rfl rfl ?_;refine sm trivial rfl rfl ?_;refine St.nil fun a22 h22=>?_;exact hKC _ _ ⟨⟨false,by simp[hc21],(h22.keep (h22.keep (h22.keep (h22.keep (h22.keep (h22.keep (h22.keep (h22.keep h22.nil (t:=6) rfl) (t:=5) rfl) (t:=4) rfl) (t:=3) rfl) (t:=2) rfl) (t:=0) rfl) (t:=1) rfl) (t:=23) rfl)⟩,rfl⟩
 ·clear h15;rintro a23 _ ⟨⟨d1,hdd1,h23⟩,rfl⟩;replace hdd1:Hid _:=hdd1
  refine Qfc 10 (fun a' w'=>(∃ d2:Bool,d2=(d1||(!fb&&xb!=0))∧Fr 137 a' [(33,.bool d2),(1,.agg #[.int .i64 xop,.int .i64 xa,.int .i64 xb,.int .i64 xc,.int .i64 xk,.int .i64 xn,.slice ra rl rc,.slice aa al ac]),(0,.agg #[.slice am lm cm]),(2,.pointer (some ⟨B2,0,none⟩)),(3,.pointer (some ⟨B3,0,none⟩)),(4,.int .i64 0),(5,.pointer (some ⟨B10,0,none⟩)),(6,.bool true)])∧w11=w') (fun KC hKC=>?_) ?_
  ·rcases Bool.eq_false_or_eq_true d1 with hb | hb
   ·rw[hb] at h23
    have hc24:=hb;clear hb;refine St.go h23 ?_;clear h23 a23;refine so hg8 rfl rfl rfl rfl ?_;refine so hg8 rfl rfl rfl rfl ?_;refine so hg8 rfl rfl rfl rfl ?_;refine so hg8 rfl rfl rfl rfl ?_;refine so hg12 rfl rfl rfl rfl ?_;refine so hg12 rfl rfl rfl rfl ?_;refine so hg12 rfl rfl rfl rfl ?_;refine so hg8 rfl rfl rfl rfl ?_;refine sp trivial rfl rfl rfl ?_;refine sm trivial rfl rfl ?_;refine St.nil fun a25 h25=>?_;exact hKC _ _ ⟨⟨true,by simp[hc24],(h25.keep (h25.keep (h25.keep (h25.keep (h25.keep (h25.keep (h25.keep (h25.keep h25.nil (t:=6) rfl) (t:=5) rfl) (t:=4) rfl) (t:=3) rfl) (t:=2) rfl) (t:=0) rfl) (t:=1) rfl) (t:=33) rfl)⟩,rfl⟩
   rw[hb] at h23
   have hc26:=hb;clear hb;refine St.go h23 ?_;clear h23 a23;refine Qij ⟨_,hg8,rfl,rfl⟩ rfl rfl ?_;refine QcR 0 hW11 ⟨_,hg8,rfl,rfl⟩ rfl rfl rfl rfl ?_;refine sn ⟨_,hg8,rfl,rfl⟩ rfl rfl ?_;refine sm ⟨_,hg8,rfl,rfl⟩ rfl rfl ?_;intro a27 h27;rcases Bool.eq_false_or_eq_true (!fb) with hb | hb
   ·rw[hb] at h27
    have hc28:fb=false:=by simpa using hb
    clear hb;refine St.go h27 ?_;clear h27 a27;refine QkM ⟨_,hg12,rfl,rfl⟩ rfl rfl ?_;refine Zr 1 hW11 ⟨_,hg12,rfl,rfl⟩ rfl rfl rfl rfl ?_;refine sne ⟨_,hg12,rfl,rfl⟩ rfl rfl rfl ?_;refine sp ⟨_,hg8,rfl,rfl⟩ rfl rfl rfl ?_;refine spf trivial rfl rfl rfl ?_;refine sm trivial rfl rfl ?_;refine St.nil fun a29 h29=>?_;exact hKC _ _ ⟨⟨xb!=0,by simp[hc26,hc28],(h29.keep (h29.keep (h29.keep (h29.keep (h29.keep (h29.keep (h29.keep (h29.keep h29.nil (t:=6) rfl) (t:=5) rfl) (t:=4) rfl) (t:=3) rfl) (t:=2) rfl) (t:=0) rfl) (t:=1) rfl) (t:=33) rfl)⟩,rfl⟩
   rw[hb] at h27
   have hc30:fb=true:=by simpa using hb
   clear hb;refine St.go h27 ?_;clear h27 a27;refine so hg12 rfl rfl rfl rfl ?_;refine so hg12 rfl rfl rfl rfl ?_;refine so hg12 rfl rfl rfl rfl ?_;refine spf ⟨_,hg8,rfl,rfl⟩ rfl rfl rfl ?_;refine spf trivial rfl rfl rfl ?_;refine sm trivial rfl rfl ?_;refine St.nil fun a31 h31=>?_;exact hKC _ _ ⟨⟨false,by simp[hc26,hc30],(h31.keep (h31.keep (h31.keep (h31.keep (h31.keep (h31.keep (h31.keep (h31.keep h31.nil (t:=6) rfl) (t:=5) rfl) (t:=4) rfl) (t:=3) rfl) (t:=2) rfl) (t:=0) rfl) (t:=1) rfl) (t:=33) rfl)⟩,rfl⟩
  ·clear h23;rintro a32 _ ⟨⟨d2,hdd2,h32⟩,rfl⟩;replace hdd2:Hid _:=hdd2
   refine Qfc 10 (fun a' w'=>(∃ d3:Bool,d3=(d2||(!fc&&xc!=0))∧Fr 137 a' [(43,.bool d3),(1,.agg #[.int .i64 xop,.int .i64 xa,.int .i64 xb,.int .i64 xc,.int .i64 xk,.int .i64 xn,.slice ra rl rc,.slice aa al ac]),(0,.agg #[.slice am lm cm]),(2,.pointer (some ⟨B2,0,none⟩)),(3,.pointer (some ⟨B3,0,none⟩)),(4,.int .i64 0),(5,.pointer (some ⟨B10,0,none⟩)),(6,.bool true)])∧w11=w') (fun KC hKC=>?_) ?_
   ·rcases Bool.eq_false_or_eq_true d2 with hb | hb
    ·rw[hb] at h32
     have hc33:=hb;clear hb;refine St.go h32 ?_;clear h32 a32;refine so hg18 rfl rfl rfl rfl ?_;refine so hg18 rfl rfl rfl rfl ?_;refine so hg18 rfl rfl rfl rfl ?_;refine so hg18 rfl rfl rfl rfl ?_;refine so hg22 rfl rfl rfl rfl ?_;refine so hg22 rfl rfl rfl rfl ?_;refine so hg22 rfl rfl rfl rfl ?_;refine so hg18 rfl rfl rfl rfl ?_;refine sp trivial rfl rfl rfl ?_;refine sm trivial rfl rfl ?_;refine St.nil fun a34 h34=>?_;exact hKC _ _ ⟨⟨true,by simp[hc33],(h34.keep (h34.keep (h34.keep (h34.keep (h34.keep (h34.keep (h34.keep (h34.keep h34.nil (t:=6) rfl) (t:=5) rfl) (t:=4) rfl) (t:=3) rfl) (t:=2) rfl) (t:=0) rfl) (t:=1) rfl) (t:=43) rfl)⟩,rfl⟩
    rw[hb] at h32
    have hc35:=hb;clear hb;refine St.go h32 ?_;clear h32 a32;refine Qhn ⟨_,hg18,rfl,rfl⟩ rfl rfl ?_;refine QcR 0 hW11 ⟨_,hg18,rfl,rfl⟩ rfl rfl rfl rfl ?_;refine sn ⟨_,hg18,rfl,rfl⟩ rfl rfl ?_;refine sm ⟨_,hg18,rfl,rfl⟩ rfl rfl ?_;intro a36 h36;rcases Bool.eq_false_or_eq_true (!fc) with hb | hb
    ·rw[hb] at h36
     have hc37:fc=false:=by simpa using hb
     clear hb;refine St.go h36 ?_;clear h36 a36;refine QkR ⟨_,hg22,rfl,rfl⟩ rfl rfl ?_;refine Zr 1 hW11 ⟨_,hg22,rfl,rfl⟩ rfl rfl rfl rfl ?_;refine sne ⟨_,hg22,rfl,rfl⟩ rfl rfl rfl ?_;refine sp ⟨_,hg18,rfl,rfl⟩ rfl rfl rfl ?_;refine spf trivial rfl rfl rfl ?_;refine sm trivial rfl rfl ?_;refine St.nil fun a38 h38=>?_;exact hKC _ _ ⟨⟨xc!=0,by simp[hc35,hc37],(h38.keep (h38.keep (h38.keep (h38.keep (h38.keep (h38.keep (h38.keep (h38.keep h38.nil (t:=6) rfl) (t:=5) rfl) (t:=4) rfl) (t:=3) rfl) (t:=2) rfl) (t:=0) rfl) (t:=1) rfl) (t:=43) rfl)⟩,rfl⟩
    rw[hb] at h36
    have hc39:fc=true:=by simpa using hb
    clear hb;refine St.go h36 ?_;clear h36 a36;refine so hg22 rfl rfl rfl rfl ?_;refine so hg22 rfl rfl rfl rfl ?_;refine so hg22 rfl rfl rfl rfl ?_;refine spf ⟨_,hg18,rfl,rfl⟩ rfl rfl rfl ?_;refine spf trivial rfl rfl rfl ?_;refine sm trivial rfl rfl ?_;refine St.nil fun a40 h40=>?_;exact hKC _ _ ⟨⟨false,by simp[hc35,hc39],(h40.keep (h40.keep (h40.keep (h40.keep (h40.keep (h40.keep (h40.keep (h40.keep h40.nil (t:=6) rfl) (t:=5) rfl) (t:=4) rfl) (t:=3) rfl) (t:=2) rfl) (t:=0) rfl) (t:=1) rfl) (t:=43) rfl)⟩,rfl⟩
   ·clear h32;rintro a41 _ ⟨⟨d3,hdd3,h41⟩,rfl⟩;replace hdd3:Hid _:=hdd3
    refine Qfc 10 (fun a' w'=>(∃ d4:Bool,d4=(d3||(!fk&&xk!=0))∧Fr 137 a' [(53,.bool d4),(1,.agg #[.int .i64 xop,.int .i64 xa,.int .i64 xb,.int .i64 xc,.int .i64 xk,.int .i64 xn,.slice ra rl rc,.slice aa al ac]),(0,.agg #[.slice am lm cm]),(2,.pointer (some ⟨B2,0,none⟩)),(3,.pointer (some ⟨B3,0,none⟩)),(4,.int .i64 0),(5,.pointer (some ⟨B10,0,none⟩)),(6,.bool true)])∧w11=w') (fun KC hKC=>?_) ?_
    ·rcases Bool.eq_false_or_eq_true d3 with hb | hb
     ·rw[hb] at h41
      have hc42:=hb;clear hb;refine St.go h41 ?_;clear h41 a41;refine so hg28 rfl rfl rfl rfl ?_;refine so hg28 rfl rfl rfl rfl ?_;refine so hg28 rfl rfl rfl rfl ?_;refine so hg28 rfl rfl rfl rfl ?_;refine so hg32 rfl rfl rfl rfl ?_;refine so hg32 rfl rfl rfl rfl ?_;refine so hg32 rfl rfl rfl rfl ?_;refine so hg28 rfl rfl rfl rfl ?_;refine sp trivial rfl rfl rfl ?_;refine sm trivial rfl rfl ?_;refine St.nil fun a43 h43=>?_;exact hKC _ _ ⟨⟨true,by simp[hc42],(h43.keep (h43.keep (h43.keep (h43.keep (h43.keep (h43.keep (h43.keep (h43.keep h43.nil (t:=6) rfl) (t:=5) rfl) (t:=4) rfl) (t:=3) rfl) (t:=2) rfl) (t:=0) rfl) (t:=1) rfl) (t:=53) rfl)⟩,rfl⟩
     rw[hb] at h41
     have hc44:=hb;clear hb;refine St.go h41 ?_;clear h41 a41;refine Qid ⟨_,hg28,rfl,rfl⟩ rfl rfl ?_;refine QcR 0 hW11 ⟨_,hg28,rfl,rfl⟩ rfl rfl rfl rfl ?_;refine sn ⟨_,hg28,rfl,rfl⟩ rfl rfl ?_;refine sm ⟨_,hg28,rfl,rfl⟩ rfl rfl ?_;intro a45 h45;rcases Bool.eq_false_or_eq_true (!fk) with hb | hb
     ·rw[hb] at h45
      have hc46:fk=false:=by simpa using hb
      clear hb;refine St.go h45 ?_;clear h45 a45;refine QbT ⟨_,hg32,rfl,rfl⟩ rfl rfl ?_;refine Zr 1 hW11 ⟨_,hg32,rfl,rfl⟩ rfl rfl rfl rfl ?_;refine sne ⟨_,hg32,rfl,rfl⟩ rfl rfl rfl ?_;refine sp ⟨_,hg28,rfl,rfl⟩ rfl rfl rfl ?_;refine spf trivial rfl rfl rfl ?_;refine sm trivial rfl rfl ?_;refine St.nil fun a47 h47=>?_;exact hKC _ _ ⟨⟨xk!=0,by simp[hc44,hc46],(h47.keep (h47.keep (h47.keep (h47.keep (h47.keep (h47.keep (h47.keep (h47.keep h47.nil (t:=6) rfl) (t:=5) rfl) (t:=4) rfl) (t:=3) rfl) (t:=2) rfl) (t:=0) rfl) (t:=1) rfl) (t:=53) rfl)⟩,rfl⟩
     rw[hb] at h45
     have hc48:fk=true:=by simpa using hb
     clear hb;refine St.go h45 ?_;clear h45 a45;refine so hg32 rfl rfl rfl rfl ?_;refine so hg32 rfl rfl rfl rfl ?_;refine so hg32 rfl rfl rfl rfl ?_;refine spf ⟨_,hg28,rfl,rfl⟩ rfl rfl rfl ?_;refine spf trivial rfl rfl rfl ?_;refine sm trivial rfl rfl ?_;refine St.nil fun a49 h49=>?_;exact hKC _ _ ⟨⟨false,by simp[hc44,hc48],(h49.keep (h49.keep (h49.keep (h49.keep (h49.keep (h49.keep (h49.keep (h49.keep h49.nil (t:=6) rfl) (t:=5) rfl) (t:=4) rfl) (t:=3) rfl) (t:=2) rfl) (t:=0) rfl) (t:=1) rfl) (t:=53) rfl)⟩,rfl⟩
    ·clear h41;rintro a50 _ ⟨⟨d4,hdd4,h50⟩,rfl⟩;replace hdd4:Hid _:=hdd4
     refine Qfc 10 (fun a' w'=>(∃ d5:Bool,d5=(d4||(!fn&&xn!=0))∧Fr 137 a' [(63,.bool d5),(1,.agg #[.int .i64 xop,.int .i64 xa,.int .i64 xb,.int .i64 xc,.int .i64 xk,.int .i64 xn,.slice ra rl rc,.slice aa al ac]),(0,.agg #[.slice am lm cm]),(2,.pointer (some ⟨B2,0,none⟩)),(3,.pointer (some ⟨B3,0,none⟩)),(4,.int .i64 0),(5,.pointer (some ⟨B10,0,none⟩)),(6,.bool true)])∧w11=w') (fun KC hKC=>?_) ?_
     ·rcases Bool.eq_false_or_eq_true d4 with hb | hb
      ·rw[hb] at h50
       have hc51:=hb;clear hb;refine St.go h50 ?_;clear h50 a50;refine so hg38 rfl rfl rfl rfl ?_;refine so hg38 rfl rfl rfl rfl ?_;refine so hg38 rfl rfl rfl rfl ?_;refine so hg38 rfl rfl rfl rfl ?_;refine so hg42 rfl rfl rfl rfl ?_;refine so hg42 rfl rfl rfl rfl ?_;refine so hg42 rfl rfl rfl rfl ?_;refine so hg38 rfl rfl rfl rfl ?_;refine sp trivial rfl rfl rfl ?_;refine sm trivial rfl rfl ?_;refine St.nil fun a52 h52=>?_;exact hKC _ _ ⟨⟨true,by simp[hc51],(h52.keep (h52.keep (h52.keep (h52.keep (h52.keep (h52.keep (h52.keep (h52.keep h52.nil (t:=6) rfl) (t:=5) rfl) (t:=4) rfl) (t:=3) rfl) (t:=2) rfl) (t:=0) rfl) (t:=1) rfl) (t:=63) rfl)⟩,rfl⟩
      rw[hb] at h50
      have hc53:=hb;clear hb;refine St.go h50 ?_;clear h50 a50;refine QhC ⟨_,hg38,rfl,rfl⟩ rfl rfl ?_;refine QcR 0 hW11 ⟨_,hg38,rfl,rfl⟩ rfl rfl rfl rfl ?_;refine sn ⟨_,hg38,rfl,rfl⟩ rfl rfl ?_;refine sm ⟨_,hg38,rfl,rfl⟩ rfl rfl ?_;intro a54 h54;rcases Bool.eq_false_or_eq_true (!fn) with hb | hb
      ·rw[hb] at h54
       have hc55:fn=false:=by simpa using hb
       clear hb;refine St.go h54 ?_;clear h54 a54;refine Qkv ⟨_,hg42,rfl,rfl⟩ rfl rfl ?_;refine QkY 1 hW11 ⟨_,hg42,rfl,rfl⟩ rfl rfl rfl rfl ?_;refine QlE ⟨_,hg42,rfl,rfl⟩ rfl rfl rfl ?_;refine sp ⟨_,hg38,rfl,rfl⟩ rfl rfl rfl ?_;refine spf trivial rfl rfl rfl ?_;refine sm trivial rfl rfl ?_;refine St.nil fun a56 h56=>?_;exact hKC _ _ ⟨⟨xn!=0,by simp[hc53,hc55],(h56.keep (h56.keep (h56.keep (h56.keep (h56.keep (h56.keep (h56.keep (h56.keep h56.nil (t:=6) rfl) (t:=5) rfl) (t:=4) rfl) (t:=3) rfl) (t:=2) rfl) (t:=0) rfl) (t:=1) rfl) (t:=63) rfl)⟩,rfl⟩
      rw[hb] at h54
      have hc57:fn=true:=by simpa using hb
      clear hb;refine St.go h54 ?_;clear h54 a54;refine so hg42 rfl rfl rfl rfl ?_;refine so hg42 rfl rfl rfl rfl ?_;refine so hg42 rfl rfl rfl rfl ?_;refine spf ⟨_,hg38,rfl,rfl⟩ rfl rfl rfl ?_;refine spf trivial rfl rfl rfl ?_;refine sm trivial rfl rfl ?_;refine St.nil fun a58 h58=>?_;exact hKC _ _ ⟨⟨false,by simp[hc53,hc57],(h58.keep (h58.keep (h58.keep (h58.keep (h58.keep (h58.keep (h58.keep (h58.keep h58.nil (t:=6) rfl) (t:=5) rfl) (t:=4) rfl) (t:=3) rfl) (t:=2) rfl) (t:=0) rfl) (t:=1) rfl) (t:=63) rfl)⟩,rfl⟩
     ·clear h50;rintro a59 _ ⟨⟨d5,hdd5,h59⟩,rfl⟩;replace hdd5:Hid _:=hdd5
      refine Qfc 11 (fun a' w'=>(∃ d6:Bool,d6=(d5||(!fr&&decide ((0:Int)<(rl:Int))))∧Fr 137 a' [(74,.bool d6),(1,.agg #[.int .i64 xop,.int .i64 xa,.int .i64 xb,.int .i64 xc,.int .i64 xk,.int .i64 xn,.slice ra rl rc,.slice aa al ac]),(0,.agg #[.slice am lm cm]),(2,.pointer (some ⟨B2,0,none⟩)),(3,.pointer (some ⟨B3,0,none⟩)),(4,.int .i64 0),(5,.pointer (some ⟨B10,0,none⟩)),(6,.bool true)])∧w11=w') (fun KC hKC=>?_) ?_
      ·rcases Bool.eq_false_or_eq_true d5 with hb | hb
       ·rw[hb] at h59
        have hc60:=hb;clear hb;refine St.go h59 ?_;clear h59 a59;refine so hg48 rfl rfl rfl rfl ?_;refine so hg48 rfl rfl rfl rfl ?_;refine so hg48 rfl rfl rfl rfl ?_;refine so hg48 rfl rfl rfl rfl ?_;refine so hg52 rfl rfl rfl rfl ?_;refine so hg52 rfl rfl rfl rfl ?_;refine so hg52 rfl rfl rfl rfl ?_;refine so hg52 rfl rfl rfl rfl ?_;refine so hg48 rfl rfl rfl rfl ?_;refine sp trivial rfl rfl rfl ?_;refine sm trivial rfl rfl ?_;refine St.nil fun a61 h61=>?_;exact hKC _ _ ⟨⟨true,by simp[hc60],(h61.keep (h61.keep (h61.keep (h61.keep (h61.keep (h61.keep (h61.keep (h61.keep h61.nil (t:=6) rfl) (t:=5) rfl) (t:=4) rfl) (t:=3) rfl) (t:=2) rfl) (t:=0) rfl) (t:=1) rfl) (t:=74) rfl)⟩,rfl⟩
       rw[hb] at h59
       have hc62:=hb;clear hb;refine St.go h59 ?_;clear h59 a59;refine Qiu ⟨_,hg48,rfl,rfl⟩ rfl rfl ?_;refine QcR 0 hW11 ⟨_,hg48,rfl,rfl⟩ rfl rfl rfl rfl ?_;refine sn ⟨_,hg48,rfl,rfl⟩ rfl rfl ?_;refine sm ⟨_,hg48,rfl,rfl⟩ rfl rfl ?_;intro a63 h63;rcases Bool.eq_false_or_eq_true (!fr) with hb | hb
       ·rw[hb] at h63
        have hc64:fr=false:=by simpa using hb
        clear hb;refine St.go h63 ?_;clear h63 a63;refine Qjs ⟨_,hg52,rfl,rfl⟩ rfl rfl ?_;refine QeP 1 hW11 ⟨_,hg52,rfl,rfl⟩ rfl rfl rfl rfl ?_;refine Qex ⟨_,hg52,rfl,rfl⟩ rfl rfl ?_;refine sgt ⟨_,hg52,rfl,rfl⟩ rfl rfl rfl ?_;refine sp ⟨_,hg48,rfl,rfl⟩ rfl rfl rfl ?_;refine spf trivial rfl rfl rfl ?_;refine sm trivial rfl rfl ?_;refine St.nil fun a65 h65=>?_;exact hKC _ _ ⟨⟨decide (0<(rl:Int)),by simp[hc62,hc64],(h65.keep (h65.keep (h65.keep (h65.keep (h65.keep (h65.keep (h65.keep (h65.keep h65.nil (t:=6) rfl) (t:=5) rfl) (t:=4) rfl) (t:=3) rfl) (t:=2) rfl) (t:=0) rfl) (t:=1) rfl) (t:=74) rfl)⟩,rfl⟩
       rw[hb] at h63
       have hc66:fr=true:=by simpa using hb
       clear hb;refine St.go h63 ?_;clear h63 a63;refine so hg52 rfl rfl rfl rfl ?_;refine so hg52 rfl rfl rfl rfl ?_;refine so hg52 rfl rfl rfl rfl ?_;refine so hg52 rfl rfl rfl rfl ?_;refine spf ⟨_,hg48,rfl,rfl⟩ rfl rfl rfl ?_;refine spf trivial rfl rfl rfl ?_;refine sm trivial rfl rfl ?_;refine St.nil fun a67 h67=>?_;exact hKC _ _ ⟨⟨false,by simp[hc62,hc66],(h67.keep (h67.keep (h67.keep (h67.keep (h67.keep (h67.keep (h67.keep (h67.keep h67.nil (t:=6) rfl) (t:=5) rfl) (t:=4) rfl) (t:=3) rfl) (t:=2) rfl) (t:=0) rfl) (t:=1) rfl) (t:=74) rfl)⟩,rfl⟩
      ·clear h59;rintro a68 _ ⟨⟨d6,hdd6,h68⟩,rfl⟩;replace hdd6:Hid _:=hdd6
       refine Qfc 10 (fun a' w'=>(∃ d7:Bool,d7=(d6||(!fs&&decide ((0:Int)<(al:Int))))∧Fr 137 a' [(84,.bool d7),(1,.agg #[.int .i64 xop,.int .i64 xa,.int .i64 xb,.int .i64 xc,.int .i64 xk,.int .i64 xn,.slice ra rl rc,.slice aa al ac]),(0,.agg #[.slice am lm cm]),(2,.pointer (some ⟨B2,0,none⟩)),(3,.pointer (some ⟨B3,0,none⟩)),(4,.int .i64 0),(5,.pointer (some ⟨B10,0,none⟩)),(6,.bool true)])∧w11=w') (fun KC hKC=>?_) ?_
       ·rcases Bool.eq_false_or_eq_true d6 with hb | hb
        ·rw[hb] at h68
         have hc69:=hb;clear hb;refine St.go h68 ?_;clear h68 a68;refine so hg59 rfl rfl rfl rfl ?_;refine so hg59 rfl rfl rfl rfl ?_;refine so hg59 rfl rfl rfl rfl ?_;refine so hg59 rfl rfl rfl rfl ?_;refine so hg63 rfl rfl rfl rfl ?_;refine so hg63 rfl rfl rfl rfl ?_;refine so hg63 rfl rfl rfl rfl ?_;refine so hg63 rfl rfl rfl rfl ?_;refine so hg59 rfl rfl rfl rfl ?_;refine sp trivial rfl rfl rfl ?_;refine St.nil fun a70 h70=>?_;exact hKC _ _ ⟨⟨true,by simp[hc69],(h70.keep (h70.keep (h70.keep (h70.keep (h70.keep (h70.keep (h70.keep (h70.keep h70.nil (t:=6) rfl) (t:=5) rfl) (t:=4) rfl) (t:=3) rfl) (t:=2) rfl) (t:=0) rfl) (t:=1) rfl) (t:=84) rfl)⟩,rfl⟩
        rw[hb] at h68
        have hc71:=hb;clear hb;refine St.go h68 ?_;clear h68 a68;refine Qhj ⟨_,hg59,rfl,rfl⟩ rfl rfl ?_;refine QcR 0 hW11 ⟨_,hg59,rfl,rfl⟩ rfl rfl rfl rfl ?_;refine sn ⟨_,hg59,rfl,rfl⟩ rfl rfl ?_;refine sm ⟨_,hg59,rfl,rfl⟩ rfl rfl ?_;intro a72 h72;rcases Bool.eq_false_or_eq_true (!fs) with hb | hb
        ·rw[hb] at h72
         have hc73:fs=false:=by simpa using hb
         clear hb;refine St.go h72 ?_;clear h72 a72;refine Qgd ⟨_,hg63,rfl,rfl⟩ rfl rfl ?_;refine QeP 1 hW11 ⟨_,hg63,rfl,rfl⟩ rfl rfl rfl rfl ?_;refine Qex ⟨_,hg63,rfl,rfl⟩ rfl rfl ?_;refine sgt ⟨_,hg63,rfl,rfl⟩ rfl rfl rfl ?_;refine sp ⟨_,hg59,rfl,rfl⟩ rfl rfl rfl ?_;refine spf trivial rfl rfl rfl ?_;refine St.nil fun a74 h74=>?_;exact hKC _ _ ⟨⟨decide (0<(al:Int)),by simp[hc71,hc73],(h74.keep (h74.keep (h74.keep (h74.keep (h74.keep (h74.keep (h74.keep (h74.keep h74.nil (t:=6) rfl) (t:=5) rfl) (t:=4) rfl) (t:=3) rfl) (t:=2) rfl) (t:=0) rfl) (t:=1) rfl) (t:=84) rfl)⟩,rfl⟩
        rw[hb] at h72
        have hc75:fs=true:=by simpa using hb
        clear hb;refine St.go h72 ?_;clear h72 a72;refine so hg63 rfl rfl rfl rfl ?_;refine so hg63 rfl rfl rfl rfl ?_;refine so hg63 rfl rfl rfl rfl ?_;refine so hg63 rfl rfl rfl rfl ?_;refine spf ⟨_,hg59,rfl,rfl⟩ rfl rfl rfl ?_;refine spf trivial rfl rfl rfl ?_;refine St.nil fun a76 h76=>?_;exact hKC _ _ ⟨⟨false,by simp[hc71,hc75],(h76.keep (h76.keep (h76.keep (h76.keep (h76.keep (h76.keep (h76.keep (h76.keep h76.nil (t:=6) rfl) (t:=5) rfl) (t:=4) rfl) (t:=3) rfl) (t:=2) rfl) (t:=0) rfl) (t:=1) rfl) (t:=84) rfl)⟩,rfl⟩
       ·clear h68;rintro a77 _ ⟨⟨d7,hdd7,h77⟩,rfl⟩;replace hdd7:Hid _:=hdd7
        refine wpList_nil ?_;refine hK17 _ _ ?_;refine Qv (t:=84) h77 rfl (fun hb=>?_) (fun hb=>?_)
        ·have hc78:=hb
         clear hb;refine wp_seq_k fun K79 hK79=>?_;refine rg h77 fun ops=>?_;clear h77 a77;refine sa trivial rfl rfl ?_;refine St.nil fun a80 h80=>?_;refine hK79 _ _ ?_;refine wp_ret ?_;with_reducible repeat first | refine Qd ?_ | refine Qc ?_
         have e7:=QU hop hdd1.out hdd2.out hdd3.out hdd4.out hdd5.out hdd6.out hdd7.out (lm:=lm);have R:QN lm xop xa xb xc xk xn rl al=4:=by rw[e7];simp[hc78]
         exact Qq (t:=4) h80 rfl rfl ⟨by rw[R],hW11.bel⟩
        have hc81:=hb;clear hb;refine wp_skip ?_;refine hK16 _ _ ?_;refine wp_seq_k fun K82 hK82=>?_;refine wp_seq_k fun K83 hK83=>?_;refine rg h77 fun ops=>?_;clear h77 a77;refine Qhq trivial rfl rfl ?_;refine Zr 1 hW11 trivial rfl rfl rfl rfl ?_;refine St.nil fun a84 h84=>?_;refine hK83 _ _ ?_;refine wp_block ?_;refine wp_seq_k fun K85 hK85=>?_;refine rg h84 fun ops=>?_;clear h84 a84;refine seq trivial rfl rfl rfl ?_;refine sa trivial rfl rfl ?_;refine St.nil fun a86 h86=>?_;refine hK85 _ _ ?_;refine Qv (t:=87) h86 rfl (fun hb=>?_) (fun hb=>?_)
        ·have h9:xop=2:=eq_of_beq hb
         have hc87:Hid (xop=2):=h9;clear h9;clear hb;refine wp_seq_k fun K88 hK88=>?_;refine Zb ?_;intro ops hops;have hg3:(ops[3]?).bind (fun o:Oper=>o.dst)=some 92:=hops 3;clear hops;refine St.go h86 ?_;clear h86 a86;refine QbT trivial rfl rfl ?_;refine Zr 1 hW11 trivial rfl rfl rfl rfl ?_;refine slt trivial rfl rfl rfl ?_;refine sm trivial rfl rfl ?_;intro a89 h89;rcases Bool.eq_false_or_eq_true (decide (xk<1)) with hb | hb
         ·rw[hb] at h89
          have hc90:xk<1:=of_decide_eq_true hb;clear hb;refine St.go h89 ?_;clear h89 a89;refine so hg3 rfl rfl rfl rfl ?_;refine so hg3 rfl rfl rfl rfl ?_;refine so hg3 rfl rfl rfl rfl ?_;refine sp trivial rfl rfl rfl ?_;refine St.nil fun a91 h91=>?_;refine hK88 _ _ ?_;refine Qad (t:=96) h91 rfl ?_;refine wp_seq_k fun K92 hK92=>?_;refine rg h91 fun ops=>?_;clear h91 a91;refine sa trivial rfl rfl ?_;refine St.nil fun a93 h93=>?_;refine hK92 _ _ ?_;refine wp_ret ?_;with_reducible repeat first | refine Qd ?_ | refine Qc ?_
          have e7:=QU hop hdd1.out hdd2.out hdd3.out hdd4.out hdd5.out hdd6.out hdd7.out (lm:=lm);have R:QN lm xop xa xb xc xk xn rl al=1:=by rw[e7];simp[hc81,hc87.out,hc90]
          exact Qq (t:=4) h93 rfl rfl ⟨by rw[R],hW11.bel⟩
         rw[hb] at h89
         have hc94:¬ (xk<1):=of_decide_eq_false hb;clear hb;refine St.go h89 ?_;clear h89 a89;refine QbT ⟨_,hg3,rfl,rfl⟩ rfl rfl ?_;refine Zr 1 hW11 ⟨_,hg3,rfl,rfl⟩ rfl rfl rfl rfl ?_;refine sgt ⟨_,hg3,rfl,rfl⟩ rfl rfl rfl ?_;refine spf trivial rfl rfl rfl ?_;refine St.nil fun a95 h95=>?_;refine hK88 _ _ ?_;refine Qv (t:=96) h95 rfl (fun hb=>?_) (fun hb=>?_)
         ·have hc96:9<xk:=of_decide_eq_true hb
          clear hb;refine wp_seq_k fun K97 hK97=>?_;refine rg h95 fun ops=>?_;clear h95 a95;refine sa trivial rfl rfl ?_;refine St.nil fun a98 h98=>?_;refine hK97 _ _ ?_;refine wp_ret ?_;with_reducible repeat first | refine Qd ?_ | refine Qc ?_
          have e7:=QU hop hdd1.out hdd2.out hdd3.out hdd4.out hdd5.out hdd6.out hdd7.out (lm:=lm);have R:QN lm xop xa xb xc xk xn rl al=1:=by rw[e7];simp[hc81,hc87.out,hc94,hc96]
          exact Qq (t:=4) h98 rfl rfl ⟨by rw[R],hW11.bel⟩
         have hc99:¬ (9<xk):=of_decide_eq_false hb;clear hb;refine wp_skip ?_;refine hK82 _ _ ?_;refine wp_seq_k fun K100 hK100=>?_;refine rg h95 fun ops=>?_;clear h95 a95;refine sa trivial rfl rfl ?_;refine St.nil fun a101 h101=>?_;refine hK100 _ _ ?_;refine wp_ret ?_;with_reducible repeat first | refine Qd ?_ | refine Qc ?_
         have e7:=QU hop hdd1.out hdd2.out hdd3.out hdd4.out hdd5.out hdd6.out hdd7.out (lm:=lm);have R:QN lm xop xa xb xc xk xn rl al=0:=by rw[e7];simp[hc81,hc87.out,hc94,hc99]
         exact Qq (t:=4) h101 rfl rfl ⟨by rw[R],hW11.bel⟩
        have h9:¬ xop=2:=ne_of_beq_false hb;have hc102:¬ xop=2:=h9;clear h9;clear hb;refine wp_seq_k fun K103 hK103=>?_;refine rg h86 fun ops=>?_;clear h86 a86;refine seq trivial rfl rfl rfl ?_;refine sa trivial rfl rfl ?_;refine St.nil fun a104 h104=>?_;refine hK103 _ _ ?_;refine Qv (t:=97) h104 rfl (fun hb=>?_) (fun hb=>?_)
        ·have h9:xop=5:=eq_of_beq hb
         have hc105:Hid (xop=5):=h9;clear h9;clear hb;refine wp_seq_k fun K106 hK106=>?_;refine rg h104 fun ops=>?_;clear h104 a104;refine Qgd trivial rfl rfl ?_;refine QeP 1 hW11 trivial rfl rfl rfl rfl ?_;refine Qex trivial rfl rfl ?_;refine sgt trivial rfl rfl rfl ?_;refine St.nil fun a107 h107=>?_;refine hK106 _ _ ?_;refine Qv (t:=102) h107 rfl (fun hb=>?_) (fun hb=>?_)
         ·have hc108:8<al:=by have:=of_decide_eq_true hb;omega
          clear hb;refine wp_seq_k fun K109 hK109=>?_;refine rg h107 fun ops=>?_;clear h107 a107;refine sa trivial rfl rfl ?_;refine St.nil fun a110 h110=>?_;refine hK109 _ _ ?_;refine wp_ret ?_;with_reducible repeat first | refine Qd ?_ | refine Qc ?_
          have e7:=QU hop hdd1.out hdd2.out hdd3.out hdd4.out hdd5.out hdd6.out hdd7.out (lm:=lm);have R:QN lm xop xa xb xc xk xn rl al=2:=by rw[e7];simp[hc81,hc102,hc105.out,hc108]
          exact Qq (t:=4) h110 rfl rfl ⟨by rw[R],hW11.bel⟩
         have hc111:¬ (8<al):=by have:=of_decide_eq_false hb;omega
         clear hb;refine wp_skip ?_;refine hK82 _ _ ?_;refine wp_seq_k fun K112 hK112=>?_;refine rg h107 fun ops=>?_;clear h107 a107;refine sa trivial rfl rfl ?_;refine St.nil fun a113 h113=>?_;refine hK112 _ _ ?_;refine wp_ret ?_;with_reducible repeat first | refine Qd ?_ | refine Qc ?_
         have e7:=QU hop hdd1.out hdd2.out hdd3.out hdd4.out hdd5.out hdd6.out hdd7.out (lm:=lm);have R:QN lm xop xa xb xc xk xn rl al=0:=by rw[e7];simp[hc81,hc102,hc105.out,hc111]
         exact Qq (t:=4) h113 rfl rfl ⟨by rw[R],hW11.bel⟩
        have h9:¬ xop=5:=ne_of_beq_false hb;have hc114:¬ xop=5:=h9;clear h9;clear hb;refine wp_seq_k fun K115 hK115=>?_;refine wp_seq_k fun K116 hK116=>?_;refine rg h104 fun ops=>?_;clear h104 a104;refine seq trivial rfl rfl rfl ?_;refine sa trivial rfl rfl ?_;refine St.nil fun a117 h117=>?_;refine hK116 _ _ ?_;refine Qv (t:=103) h117 rfl (fun hb=>?_) (fun hb=>?_)
        ·rw[hb] at h117
         have h9:xop=6:=eq_of_beq hb;have hc118:Hid (xop=6):=h9;clear h9;clear hb;refine wp_skip ?_;refine hK115 _ _ ?_;refine Qad (t:=103) h117 rfl ?_;refine wp_seq_k fun K119 hK119=>?_;refine Zb ?_;intro ops hops;have hg3:(ops[3]?).bind (fun o:Oper=>o.dst)=some 109:=hops 3;clear hops;refine St.go h117 ?_;clear h117 a117;refine QbT trivial rfl rfl ?_;refine Zr 1 hW11 trivial rfl rfl rfl rfl ?_;refine slt trivial rfl rfl rfl ?_;refine sm trivial rfl rfl ?_;intro a120 h120;rcases Bool.eq_false_or_eq_true (decide (xk<0)) with hb | hb
         ·rw[hb] at h120
          have hc121:xk<0:=of_decide_eq_true hb;clear hb;refine St.go h120 ?_;clear h120 a120;refine so hg3 rfl rfl rfl rfl ?_;refine so hg3 rfl rfl rfl rfl ?_;refine so hg3 rfl rfl rfl rfl ?_;refine sp trivial rfl rfl rfl ?_;refine St.nil fun a122 h122=>?_;refine hK119 _ _ ?_;refine Qad (t:=113) h122 rfl ?_;refine wp_seq_k fun K123 hK123=>?_;refine rg h122 fun ops=>?_;clear h122 a122;refine sa trivial rfl rfl ?_;refine St.nil fun a124 h124=>?_;refine hK123 _ _ ?_;refine wp_ret ?_;with_reducible repeat first | refine Qd ?_ | refine Qc ?_
          have e7:=QU hop hdd1.out hdd2.out hdd3.out hdd4.out hdd5.out hdd6.out hdd7.out (lm:=lm);have R:QN lm xop xa xb xc xk xn rl al=1:=by rw[e7];simp[hc81,hc102,hc114,hc118.out,hc121]
          exact Qq (t:=4) h124 rfl rfl ⟨by rw[R],hW11.bel⟩
         rw[hb] at h120
         have hc125:¬ (xk<0):=of_decide_eq_false hb;clear hb;refine St.go h120 ?_;clear h120 a120;refine QbT ⟨_,hg3,rfl,rfl⟩ rfl rfl ?_;refine Zr 1 hW11 ⟨_,hg3,rfl,rfl⟩ rfl rfl rfl rfl ?_;refine sgt ⟨_,hg3,rfl,rfl⟩ rfl rfl rfl ?_;refine spf trivial rfl rfl rfl ?_;refine St.nil fun a126 h126=>?_;refine hK119 _ _ ?_;refine Qv (t:=113) h126 rfl (fun hb=>?_) (fun hb=>?_)
         ·have hc127:7<xk:=of_decide_eq_true hb
          clear hb;refine wp_seq_k fun K128 hK128=>?_;refine rg h126 fun ops=>?_;clear h126 a126;refine sa trivial rfl rfl ?_;refine St.nil fun a129 h129=>?_;refine hK128 _ _ ?_;refine wp_ret ?_;with_reducible repeat first | refine Qd ?_ | refine Qc ?_
          have e7:=QU hop hdd1.out hdd2.out hdd3.out hdd4.out hdd5.out hdd6.out hdd7.out (lm:=lm);have R:QN lm xop xa xb xc xk xn rl al=1:=by rw[e7];simp[hc81,hc102,hc114,hc118.out,hc125,hc127]
          exact Qq (t:=4) h129 rfl rfl ⟨by rw[R],hW11.bel⟩
         have hc130:¬ (7<xk):=of_decide_eq_false hb;clear hb;refine wp_skip ?_;refine hK82 _ _ ?_;refine wp_seq_k fun K131 hK131=>?_;refine rg h126 fun ops=>?_;clear h126 a126;refine sa trivial rfl rfl ?_;refine St.nil fun a132 h132=>?_;refine hK131 _ _ ?_;refine wp_ret ?_;with_reducible repeat first | refine Qd ?_ | refine Qc ?_
         have e7:=QU hop hdd1.out hdd2.out hdd3.out hdd4.out hdd5.out hdd6.out hdd7.out (lm:=lm);have R:QN lm xop xa xb xc xk xn rl al=0:=by rw[e7];simp[hc81,hc102,hc114,hc118.out,hc125,hc130]
         exact Qq (t:=4) h132 rfl rfl ⟨by rw[R],hW11.bel⟩
        rw[hb] at h117
        have h9:¬ xop=6:=ne_of_beq_false hb;have hc133:¬ xop=6:=h9;clear h9;clear hb;refine rg h117 fun ops=>?_;clear h117 a117;refine seq trivial rfl rfl rfl ?_;refine sa trivial rfl rfl ?_;refine St.nil fun a134 h134=>?_;refine hK115 _ _ ?_;refine Qv (t:=103) h134 rfl (fun hb=>?_) (fun hb=>?_)
        ·rw[hb] at h134
         have h9:xop=7:=eq_of_beq hb;have hc135:Hid (xop=7):=h9;clear h9;clear hb;refine wp_seq_k fun K136 hK136=>?_;refine Zb ?_;intro ops hops;have hg3:(ops[3]?).bind (fun o:Oper=>o.dst)=some 109:=hops 3;clear hops;refine St.go h134 ?_;clear h134 a134;refine QbT trivial rfl rfl ?_;refine Zr 1 hW11 trivial rfl rfl rfl rfl ?_;refine slt trivial rfl rfl rfl ?_;refine sm trivial rfl rfl ?_;intro a137 h137;rcases Bool.eq_false_or_eq_true (decide (xk<0)) with hb | hb
         ·rw[hb] at h137
          have hc138:xk<0:=of_decide_eq_true hb;clear hb;refine St.go h137 ?_;clear h137 a137;refine so hg3 rfl rfl rfl rfl ?_;refine so hg3 rfl rfl rfl rfl ?_;refine so hg3 rfl rfl rfl rfl ?_;refine sp trivial rfl rfl rfl ?_;refine St.nil fun a139 h139=>?_;refine hK136 _ _ ?_;refine Qad (t:=113) h139 rfl ?_;refine wp_seq_k fun K140 hK140=>?_;refine rg h139 fun ops=>?_;clear h139 a139;refine sa trivial rfl rfl ?_;refine St.nil fun a141 h141=>?_;refine hK140 _ _ ?_;refine wp_ret ?_;with_reducible repeat first | refine Qd ?_ | refine Qc ?_
          have e7:=QU hop hdd1.out hdd2.out hdd3.out hdd4.out hdd5.out hdd6.out hdd7.out (lm:=lm);have R:QN lm xop xa xb xc xk xn rl al=1:=by rw[e7];simp[hc81,hc102,hc114,hc133,hc135.out,hc138]
          exact Qq (t:=4) h141 rfl rfl ⟨by rw[R],hW11.bel⟩
         rw[hb] at h137
         have hc142:¬ (xk<0):=of_decide_eq_false hb;clear hb;refine St.go h137 ?_;clear h137 a137;refine QbT ⟨_,hg3,rfl,rfl⟩ rfl rfl ?_;refine Zr 1 hW11 ⟨_,hg3,rfl,rfl⟩ rfl rfl rfl rfl ?_;refine sgt ⟨_,hg3,rfl,rfl⟩ rfl rfl rfl ?_;refine spf trivial rfl rfl rfl ?_;refine St.nil fun a143 h143=>?_;refine hK136 _ _ ?_;refine Qv (t:=113) h143 rfl (fun hb=>?_) (fun hb=>?_)
         ·have hc144:7<xk:=of_decide_eq_true hb
          clear hb;refine wp_seq_k fun K145 hK145=>?_;refine rg h143 fun ops=>?_;clear h143 a143;refine sa trivial rfl rfl ?_;refine St.nil fun a146 h146=>?_;refine hK145 _ _ ?_;refine wp_ret ?_;with_reducible repeat first | refine Qd ?_ | refine Qc ?_
          have e7:=QU hop hdd1.out hdd2.out hdd3.out hdd4.out hdd5.out hdd6.out hdd7.out (lm:=lm);have R:QN lm xop xa xb xc xk xn rl al=1:=by rw[e7];simp[hc81,hc102,hc114,hc133,hc135.out,hc142,hc144]
          exact Qq (t:=4) h146 rfl rfl ⟨by rw[R],hW11.bel⟩
         have hc147:¬ (7<xk):=of_decide_eq_false hb;clear hb;refine wp_skip ?_;refine hK82 _ _ ?_;refine wp_seq_k fun K148 hK148=>?_;refine rg h143 fun ops=>?_;clear h143 a143;refine sa trivial rfl rfl ?_;refine St.nil fun a149 h149=>?_;refine hK148 _ _ ?_;refine wp_ret ?_;with_reducible repeat first | refine Qd ?_ | refine Qc ?_
         have e7:=QU hop hdd1.out hdd2.out hdd3.out hdd4.out hdd5.out hdd6.out hdd7.out (lm:=lm);have R:QN lm xop xa xb xc xk xn rl al=0:=by rw[e7];simp[hc81,hc102,hc114,hc133,hc135.out,hc142,hc147]
         exact Qq (t:=4) h149 rfl rfl ⟨by rw[R],hW11.bel⟩
        rw[hb] at h134
        have h9:¬ xop=7:=ne_of_beq_false hb;have hc150:¬ xop=7:=h9;clear h9;clear hb;refine wp_seq_k fun K151 hK151=>?_;refine rg h134 fun ops=>?_;clear h134 a134;refine seq trivial rfl rfl rfl ?_;refine sa trivial rfl rfl ?_;refine St.nil fun a152 h152=>?_;refine hK151 _ _ ?_;refine Qv (t:=114) h152 rfl (fun hb=>?_) (fun hb=>?_)
        ·have h9:xop=14:=eq_of_beq hb
         have hc153:Hid (xop=14):=h9;clear h9;clear hb;refine wp_seq_k fun K154 hK154=>?_;refine wp_seq_k fun K155 hK155=>?_;refine Zb ?_;intro ops hops;have hg3:(ops[3]?).bind (fun o:Oper=>o.dst)=some 119:=hops 3;clear hops;refine St.go h152 ?_;clear h152 a152;refine QbT trivial rfl rfl ?_;refine Zr 1 hW11 trivial rfl rfl rfl rfl ?_;refine slt trivial rfl rfl rfl ?_;refine sm trivial rfl rfl ?_;intro a156 h156;rcases Bool.eq_false_or_eq_true (decide (xk<0)) with hb | hb
         ·rw[hb] at h156
          have hc157:xk<0:=of_decide_eq_true hb;clear hb;refine St.go h156 ?_;clear h156 a156;refine so hg3 rfl rfl rfl rfl ?_;refine so hg3 rfl rfl rfl rfl ?_;refine so hg3 rfl rfl rfl rfl ?_;refine so hg3 rfl rfl rfl rfl ?_;refine so hg3 rfl rfl rfl rfl ?_;refine so hg3 rfl rfl rfl rfl ?_;refine sp trivial rfl rfl rfl ?_;refine St.nil fun a158 h158=>?_;refine hK155 _ _ ?_;refine Qad (t:=126) h158 rfl ?_;refine wp_seq_k fun K159 hK159=>?_;refine rg h158 fun ops=>?_;clear h158 a158;refine sa trivial rfl rfl ?_;refine St.nil fun a160 h160=>?_;refine hK159 _ _ ?_;refine wp_ret ?_;with_reducible repeat first | refine Qd ?_ | refine Qc ?_
          have e7:=QU hop hdd1.out hdd2.out hdd3.out hdd4.out hdd5.out hdd6.out hdd7.out (lm:=lm);have R:QN lm xop xa xb xc xk xn rl al=1:=by rw[e7];simp[hc81,hc102,hc114,hc133,hc150,hc153.out,hc157]
          exact Qq (t:=4) h160 rfl rfl ⟨by rw[R],hW11.bel⟩
         rw[hb] at h156
         have hc161:¬ (xk<0):=of_decide_eq_false hb;clear hb;refine St.go h156 ?_;clear h156 a156;refine QbT ⟨_,hg3,rfl,rfl⟩ rfl rfl ?_;refine Zr 1 hW11 ⟨_,hg3,rfl,rfl⟩ rfl rfl rfl rfl ?_;refine Qa5 ⟨_,hg3,rfl,rfl⟩ rfl rfl ?_;refine QcQ 2 hW11 ⟨_,hg3,rfl,rfl⟩ rfl rfl rfl rfl ?_;refine Qcd ⟨_,hg3,rfl,rfl⟩ rfl rfl ?_;refine sge ⟨_,hg3,rfl,rfl⟩ rfl rfl rfl ?_;refine spf trivial rfl rfl rfl ?_;refine St.nil fun a162 h162=>?_;refine hK155 _ _ ?_;refine Qv (t:=126) h162 rfl (fun hb=>?_) (fun hb=>?_)
         ·have hc163:(lm:Int)≤xk:=of_decide_eq_true hb
          clear hb;refine wp_seq_k fun K164 hK164=>?_;refine rg h162 fun ops=>?_;clear h162 a162;refine sa trivial rfl rfl ?_;refine St.nil fun a165 h165=>?_;refine hK164 _ _ ?_;refine wp_ret ?_;with_reducible repeat first | refine Qd ?_ | refine Qc ?_
          have e7:=QU hop hdd1.out hdd2.out hdd3.out hdd4.out hdd5.out hdd6.out hdd7.out (lm:=lm);have R:QN lm xop xa xb xc xk xn rl al=1:=by rw[e7];simp[hc81,hc102,hc114,hc133,hc150,hc153.out,hc161,hc163]
          exact Qq (t:=4) h165 rfl rfl ⟨by rw[R],hW11.bel⟩
         have hc166:¬ ((lm:Int)≤xk):=of_decide_eq_false hb;clear hb;refine wp_skip ?_;refine hK154 _ _ ?_;refine wp_seq_k fun K167 hK167=>?_;refine Zb ?_;intro ops hops;have hg4:(ops[4]?).bind (fun o:Oper=>o.dst)=some 131:=hops 4;clear hops;refine St.go h162 ?_;clear h162 a162;refine Qjs trivial rfl rfl ?_;refine QeP 1 hW11 trivial rfl rfl rfl rfl ?_;refine Qex trivial rfl rfl ?_;refine sgt trivial rfl rfl rfl ?_;refine sm trivial rfl rfl ?_;intro a168 h168;rcases Bool.eq_false_or_eq_true (decide (6<(rl:Int))) with hb | hb
         ·rw[hb] at h168
          have hc169:6<rl:=by have:=of_decide_eq_true hb;omega
          clear hb;refine St.go h168 ?_;clear h168 a168;refine so hg4 rfl rfl rfl rfl ?_;refine so hg4 rfl rfl rfl rfl ?_;refine so hg4 rfl rfl rfl rfl ?_;refine so hg4 rfl rfl rfl rfl ?_;refine sp trivial rfl rfl rfl ?_;refine St.nil fun a170 h170=>?_;refine hK167 _ _ ?_;refine Qad (t:=136) h170 rfl ?_;refine wp_seq_k fun K171 hK171=>?_;refine rg h170 fun ops=>?_;clear h170 a170;refine sa trivial rfl rfl ?_;refine St.nil fun a172 h172=>?_;refine hK171 _ _ ?_;refine wp_ret ?_;with_reducible repeat first | refine Qd ?_ | refine Qc ?_
          have e7:=QU hop hdd1.out hdd2.out hdd3.out hdd4.out hdd5.out hdd6.out hdd7.out (lm:=lm);have R:QN lm xop xa xb xc xk xn rl al=2:=by rw[e7];simp[hc81,hc102,hc114,hc133,hc150,hc153.out,hc161,hc166,hc169]
          exact Qq (t:=4) h172 rfl rfl ⟨by rw[R],hW11.bel⟩
         rw[hb] at h168
         have hc173:¬ (6<rl):=by have:=of_decide_eq_false hb;omega
         clear hb;refine St.go h168 ?_;clear h168 a168;refine Qgd ⟨_,hg4,rfl,rfl⟩ rfl rfl ?_;refine QeP 1 hW11 ⟨_,hg4,rfl,rfl⟩ rfl rfl rfl rfl ?_;refine Qex ⟨_,hg4,rfl,rfl⟩ rfl rfl ?_;refine sgt ⟨_,hg4,rfl,rfl⟩ rfl rfl rfl ?_;refine spf trivial rfl rfl rfl ?_;refine St.nil fun a174 h174=>?_;refine hK167 _ _ ?_;refine Qv (t:=136) h174 rfl (fun hb=>?_) (fun hb=>?_)
         ·have hc175:8<al:=by have:=of_decide_eq_true hb;omega
          clear hb;refine wp_seq_k fun K176 hK176=>?_;refine rg h174 fun ops=>?_;clear h174 a174;refine sa trivial rfl rfl ?_;refine St.nil fun a177 h177=>?_;refine hK176 _ _ ?_;refine wp_ret ?_;with_reducible repeat first | refine Qd ?_ | refine Qc ?_
          have e7:=QU hop hdd1.out hdd2.out hdd3.out hdd4.out hdd5.out hdd6.out hdd7.out (lm:=lm);have R:QN lm xop xa xb xc xk xn rl al=2:=by rw[e7];simp[hc81,hc102,hc114,hc133,hc150,hc153.out,hc161,hc166,hc173,hc175]
          exact Qq (t:=4) h177 rfl rfl ⟨by rw[R],hW11.bel⟩
         have hc178:¬ (8<al):=by have:=of_decide_eq_false hb;omega
         clear hb;refine wp_skip ?_;refine hK82 _ _ ?_;refine wp_seq_k fun K179 hK179=>?_;refine rg h174 fun ops=>?_;clear h174 a174;refine sa trivial rfl rfl ?_;refine St.nil fun a180 h180=>?_;refine hK179 _ _ ?_;refine wp_ret ?_;with_reducible repeat first | refine Qd ?_ | refine Qc ?_
         have e7:=QU hop hdd1.out hdd2.out hdd3.out hdd4.out hdd5.out hdd6.out hdd7.out (lm:=lm);have R:QN lm xop xa xb xc xk xn rl al=0:=by rw[e7];simp[hc81,hc102,hc114,hc133,hc150,hc153.out,hc161,hc166,hc173,hc178]
         exact Qq (t:=4) h180 rfl rfl ⟨by rw[R],hW11.bel⟩
        have h9:¬ xop=14:=ne_of_beq_false hb;have hc181:¬ xop=14:=h9;clear h9;clear hb;refine wp_skip ?_;refine hK82 _ _ ?_;refine wp_seq_k fun K182 hK182=>?_;refine rg h152 fun ops=>?_;clear h152 a152;refine sa trivial rfl rfl ?_;refine St.nil fun a183 h183=>?_;refine hK182 _ _ ?_;refine wp_ret ?_;with_reducible repeat first | refine Qd ?_ | refine Qc ?_
        have e7:=QU hop hdd1.out hdd2.out hdd3.out hdd4.out hdd5.out hdd6.out hdd7.out (lm:=lm);have R:QN lm xop xa xb xc xk xn rl al=0:=by rw[e7];simp[hc81,hc102,hc114,hc133,hc150,hc181]
        exact Qq (t:=4) h183 rfl rfl ⟨by rw[R],hW11.bel⟩
theorem QkJ {xop:Int}(hop:QD xop=none) (xa xb xc xk xn:Int) (am ra aa:Option Addr) (lm cm rl rc al ac:Nat) (w:World) :
 Rd Tryz.prog 72 #[.agg #[.slice am lm cm],.agg #[.int .i64 xop,.int .i64 xa,.int .i64 xb,.int .i64 xc,.int .i64 xk,.int .i64 xn,.slice ra rl rc,.slice aa al ac]] w (.int .i64 (QN lm xop xa xb xc xk xn rl al)):=by
 refine Qy (n:=137) Tryz.func72 rfl rfl rfl ?_;intro a hF;have hW:=Wd.start w;replace hF:Fr 137 a [(0,.agg #[.slice am lm cm]),(1,.agg #[.int .i64 xop,.int .i64 xa,.int .i64 xb,.int .i64 xc,.int .i64 xk,.int .i64 xn,.slice ra rl rc,.slice aa al ac])]:=hF;refine wp_seq_k fun K1 hK1=>?_;refine rg hF fun ops=>?_;clear hF a;refine sB hW trivial rfl rfl ?_;clear hW;intro w2 B2 hW2 hN;clear hN;refine sB hW2 trivial rfl rfl ?_;clear hW2;intro w3 B3 hW3 hN;clear hN;refine sa trivial rfl rfl ?_;refine St.nil fun a4 h4=>?_;refine hK1 _ _ ?_;refine wp_seq_k fun K5 hK5=>?_;refine rg h4 fun ops=>?_;clear h4 a4;refine Qhq trivial rfl rfl ?_;refine Zr 0 hW3 trivial rfl rfl rfl rfl ?_;refine QiF cf92 hW3 (QgU hop w3) trivial rfl rfl ?_;clear hW3;intro w6 hW6;refine sm trivial rfl rfl ?_;intro a7 h7;refine Q8 (t:=11) (v:=.agg #[.bool false,.bool false,.bool false,.bool false,.bool false,.bool false,.bool false]) (w':=w6) h7 rfl rfl rfl (fun K hK=>?_) ?_
 ·have k0:a7.tmps.getD 7 undef=.tuple #[.agg #[.bool false,.bool false,.bool false,.bool false,.bool false,.bool false,.bool false],.bool false]:=h7.sl 7 _ rfl
  go_simp;exact hK
 clear h7;intro a8 hF8;refine Q8 (t:=12) (v:=.bool false) (w':=w6) hF8 rfl rfl rfl (fun K hK=>?_) ?_
 ·have k0:a8.tmps.getD 7 undef=.tuple #[.agg #[.bool false,.bool false,.bool false,.bool false,.bool false,.bool false,.bool false],.bool false]:=hF8.sl 7 _ rfl
  go_simp;exact hK
 clear hF8;intro a9 hF9;refine St.go hF9 ?_;clear hF9 a9;refine Qf6 hW6 trivial rfl ?_;clear hW6;intro w10 B10 hW10 hN;clear hN;refine sT 0 hW10 rfl rfl infFields rfl rfl rfl ?_;clear hW10;intro w11 hW11;refine sa trivial rfl rfl ?_;refine St.nil fun a12 h12=>?_;refine hK5 _ _ ?_;refine wp_seq_k fun K13 hK13=>?_;refine wp_seq_k fun K14 hK14=>?_;refine rg h12 fun ops=>?_;clear h12 a12;refine sm trivial rfl rfl ?_;refine sn trivial rfl rfl ?_;refine St.nil fun a15 h15=>?_;refine hK14 _ _ ?_;refine Qad (t:=14) h15 rfl ?_;refine wp_seq_k fun K16 hK16=>?_;refine rg h15 fun ops=>?_;clear h15 a15;refine sa trivial rfl rfl ?_;refine St.nil fun a17 h17=>?_;refine hK16 _ _ ?_;refine wp_ret ?_;with_reducible repeat first | refine Qd ?_ | refine Qc ?_
 have R:QN lm xop xa xb xc xk xn rl al=3:=by simp[QN,hop]
 exact Qq (t:=4) h17 rfl rfl ⟨by rw[R],hW11.bel⟩
theorem QcL (funcs:Nat) (x:Qz) (i:IP) (am:Option Addr) (cm:Nat) (w:World) :
 Rd Tryz.prog 72 #[.agg #[.slice am funcs cm],.agg #[.int .i64 x.op,.int .i64 x.a,.int .i64 x.b,.int .i64 x.c,.int .i64 x.k,.int .i64 x.n,.slice i.pR x.regs.length i.cR,.slice i.pA x.args.length i.cA]] w (.int .i64 (x.form funcs)):=by
 rw[Qz.form_eq]
 cases h:QD x.op with
 | none=>exact QkJ h _ _ _ _ _ _ _ _ _ _ _ _ _ _ _
 | some p=>obtain⟨a,b,c,k,n,r,s⟩:=p;exact Qjf h _ _ _ _ _ _ _ _ _ _ _ _ _ _ _
end Go.Proofs.YtacjnejckfhpoadGreat
