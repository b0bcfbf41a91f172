import Derived.Test.YtlnkdhnibcenbaeGreatP5
set_option maxHeartbeats 16000000
set_option maxRecDepth 100000
namespace Go.Proofs.YtlnkdhnibcenbaeGreat
open Go.ChangeShapes Go.WideShapes Go.ChangeAt Go.RowKit _root_.Go.Proofs.Tryz
set_option linter.unusedSimpArgs false
set_option linter.unusedVariables false
variable {w w' w2 wc wr w6:World}{b n c rc ac B X m j k g i N rl al lo d cm f q cap s fm fi id fl R cR G fc fd bl o cL cA n1 lm funcs fe d1:Nat}{O Q A O':Nat→Prop}{p ag a ra aa pm pR pA na fp fq p1:Option Addr}{t e bt:TypeId}{l regs:List Int}{v v0:Value}{P:Program}{xc xa xb xk xn fr x:Int}{L:List Bool}{xs cs ds:List Value}{x0:Operand}
theorem QdP (m:List (Qf n)) (p:Option Addr) (c:Nat) (w:World) (h:(QaH n).In w All m [.slice p m.length c]) (d2:Qa7 m) :
 Calls prog 16 #[.agg #[.slice p m.length c]] w fun e w'=>∃ v,e=.returned v/\(∃ a' c',v=.agg #[.slice a' m.length c']/\(Qlx n).In w' (ZJ w.heap.size) m [.slice a' m.length c'])/\Below w.heap.size w w':=by
 have hm:Hid _:=h;have hs:Hid _:=d2;have je:=d2.1;clear h d2;obtain⟨iF,ia,ex,e8,e2⟩:=Qbx infoFunc
 obtain⟨iB,hj,ez,gi,fy⟩:=Qbx infoBlock
 obtain⟨iI,ic,fj,fo,gl⟩:=Qbx infoIns
 refine Qv (n:=110) func16 Yz Yz Yz <| fun a hF=>?_
 have E:=Ye w;replace hF:Fr 110 a [(0,.agg #[.slice p m.length c])]:=hF;refine XW fun K1 d3=>rg hF fun X=>sB E Y Yz Yz <| fun w2 B2 h8 hN=>QcU h8 Y Yz <| fun w3 B3 hy hN=>Yb fun a4 h4=>d3 _ _ <| XW fun K5 hf=>rg h4 fun X=>QcU hy Y Yz <| fun w6 B6 b8 hN=>Yb fun a7 h7=>hf _ _ <| XW fun K8 hz=>XW fun K9 am=>rg h7 fun X=>sa Y Yz Yz <| Yb fun ke bw=>am _ _ <| XJ ?_
 have c5:w.heap.size<=w6.heap.size:=b8.bel.size;have ci:B6<w6.heap.size:=(b8.get 0 Yz).lt;have df:B3<w6.heap.size:=(b8.get 1 Yz).lt;have ga:B2<w6.heap.size:=(b8.get 2 Yz).lt;refine ZL (fun r a w'=>∃ q1:Nat,q1<=m.length/\r=m.length - q1/\∃ v1 xs,Qbd (QhZ n) 40 w' w6.heap.size v1 (m.take q1) xs/\Q4 w6.heap.size B6 w6 w'/\w6.heap.size<=w'.heap.size/\Fr 110 a [(0,.agg #[.slice p m.length c]),(1,.pointer (some ⟨B2,0,none⟩)),(2,.pointer (some ⟨B3,0,none⟩)),(3,.pointer (some ⟨B6,0,none⟩)),(4,.int .i64 (q1:Int))]/\Wd w w' [(B6,#[v1],24),(B3,#[.slice none 0 0],24),(B2,#[.slice p m.length c],24)]) (m.length) ⟨0,Xb _,Yz,.slice none 0 0,[],Qbd.nil' _ _ _ _,Q4.refl _ _ _,Ze,(bw.keep (bw.keep (bw.keep (bw.keep (bw.keep bw.nil (t:=4) Yz) (t:=3) Yz) (t:=2) Yz) (t:=1) Yz) (t:=0) Yz),b8⟩ ?_;clear bw b8;rintro r1 im ar ⟨q1,jl,kf,v1,j4,bj,bk,d5,gf,ap⟩ jd f4;have d0:Hid _:=bj;have d3:Hid _:=bk;clear bj bk;have bg:=Ye ar;have f3:Hid (Blk ar B6 #[v1] 24):=ap.get 0 Yz;have ij:Hid (Blk ar B3 #[.slice none 0 0] 24):=ap.get 1 Yz;have dk:Hid (Blk ar B2 #[.slice p m.length c] 24):=ap.get 2 Yz;refine XW fun j3 f8=>XW fun iu g8=>rg gf fun X=>sm Y Yz Yz <| sfModule0 Y Yz Yz <| Qes (Qk bg.bel (Qb dk.out 0 _ Yz)) Y Yz Yz <| QaG Y Yz Yz <| slt Y Yz Yz Yz <| Yb fun ir ec=>g8 _ _ <| Qt (t:=16) ec Yz (fun Q=>?_) (fun Q=>?_)
 ·have dp:q1<m.length:=by have:=Xv Q;omega
  clear Q;obtain⟨x,cm⟩:∃ v9,(m)[q1]?=some v9:=⟨_,Zg dp⟩
  obtain⟨g1,o1,f1,eg,E1,b5⟩:=Qbk (Ya hm.out ap.bel) cm
  replace b5:Hid _:=b5;replace eg:Hid _:=eg;replace cm:Hid _:=cm;replace E1:Hid _:=E1;have cr:Hid _:=hs.out.2 x (Zm cm.out);have i4:=cr.out.1;refine XB <| f8 _ _ <| XW fun jo e0=>XJ <| XW fun i0 gp=>rg ec fun X=>sfModule0 Y Yz Yz <| Qes (Qk bg.bel (Qb dk.out 0 _ Yz)) Y Yz Yz <| sm Y Yz Yz <| Qej eg.out dp Y Yz Yz Yz <| sSE underlying40 Yz (QS E1.out bg.bel) infFunc Y Yz Yz <| Qgr bg Y Yz <| fun kh C fu hN=>sT 0 fu Yz Yz infFunc Yz Yz Yz <| fun cu V=>Yb fun fh bh=>gp _ _ <| XW fun il g7=>?_
  have f9:Fr 110 fh [(0,.agg #[.slice p m.length c]),(1,.pointer (some ⟨B2,0,none⟩)),(2,.pointer (some ⟨B3,0,none⟩)),(3,.pointer (some ⟨B6,0,none⟩)),(4,.int .i64 (q1:Int)),(5,.pointer (some ⟨C,0,none⟩))]:=(bh.keep (bh.keep (bh.keep (bh.keep (bh.keep (bh.keep bh.nil (t:=5) Yz) (t:=4) Yz) (t:=3) Yz) (t:=2) Yz) (t:=1) Yz) (t:=0) Yz);have d9:fh.tmps.getD 5 undef=.pointer (some ⟨C,0,none⟩):=bh.sl 5 _ Yz
  have L:Qbj (Z:=Option Addr × Nat × Option Addr × Nat) [(4,fun z w O=>(Qi n).In w O x.params [.slice z.1 x.params.length z.2.1]),(7,fun z w O=>(Qi n).In w O x.results [.slice z.2.2.1 x.results.length z.2.2.2])]:=by
   intro x hx;simp only[List.mem_cons,List.not_mem_nil,or_false] at hx
   rcases hx with rfl | rfl
   ·intro z w w9 O d h;exact(Qi n).keep d (fun _ h _=>h) h
   ·intro z w w9 O d h;exact(Qi n).keep d (fun _ h _=>h) h
  refine QgM (Z:=Option Addr × Nat × Option Addr × Nat) [(0,24),(1,25),(2,26),(3,27),(4,28),(5,29),(6,30),(7,31),(8,32)] [(9,6,4,40)] [(10,6,4,40)] (fun z=>[(24,.pointer (some ⟨C,0,none⟩)),(25,.int .i64 x.regs),(26,.pointer (some ⟨C,1,none⟩)),(27,.slice f1.pP x.params.length f1.cP),(28,.slice z.1 x.params.length z.2.1),(29,.pointer (some ⟨C,2,none⟩)),(30,.slice f1.pR x.results.length f1.cR),(31,.slice z.2.2.1 x.results.length z.2.2.2),(32,.agg #[.int .i64 x.regs,.slice z.1 x.params.length z.2.1,.slice z.2.2.1 x.results.length z.2.2.2,.slice none 0 0])]) (fun z=>[(6,[.int .i64 x.regs,.slice z.1 x.params.length z.2.1,.slice z.2.2.1 x.results.length z.2.2.2,.slice none 0 0])]) [(4,fun z w O=>(Qi n).In w O x.params [.slice z.1 x.params.length z.2.1]),(7,fun z w O=>(Qi n).In w O x.results [.slice z.2.2.1 x.results.length z.2.2.2])] (none,0,none,0) (by kernel_rfl) f9 (by kernel_rfl) (by kernel_rfl) (fun W=>?hst) ?hend
  case hst =>
   refine⟨fun S a1 w1 G hd F q K A=>?_,?_⟩
   ·obtain⟨⟨R,T,P,N⟩,u⟩:=q
    have J:=V.below u.1.bel;have H:a1.tmps.getD 5 undef=.pointer (some ⟨C,0,none⟩):=((u.1.outer 5 (by kernel_rfl)).trans d9);go_simp;exact A _ _ (DMz.pure L W u (i:=0) (t:=24) (by decide) Yz G Zr (by kernel_rfl) (by kernel_rfl) Yz)
   refine⟨fun S a1 w1 G hd F q K A=>?_,?_⟩
   ·obtain⟨⟨R,T,P,N⟩,u⟩:=q
    have J:=V.below u.1.bel;have H:a1.tmps.getD 24 undef=.pointer (some ⟨C,0,none⟩):=(u.1.vals (0,24) (by decide) (hd.at 0 (by kernel_rfl)) _ Yz);have c0:w1.cell? ⟨C,0,none⟩=some (.int .i64 x.regs):=Qb (J.get 0 Yz) 0 _ Yz;go_simp;exact A _ _ (DMz.pure L W u (i:=1) (t:=25) (by decide) Yz G Zr (by kernel_rfl) (by kernel_rfl) Yz)
   refine⟨fun S a1 w1 G hd F q K A=>?_,?_⟩
   ·obtain⟨⟨R,T,P,N⟩,u⟩:=q
    have J:=V.below u.1.bel;have H:a1.tmps.getD 5 undef=.pointer (some ⟨C,0,none⟩):=((u.1.outer 5 (by kernel_rfl)).trans d9);go_simp;exact A _ _ (DMz.pure L W u (i:=2) (t:=26) (by decide) Yz G Zr (by kernel_rfl) (by kernel_rfl) Yz)
   refine⟨fun S a1 w1 G hd F q K A=>?_,?_⟩
   ·obtain⟨⟨R,T,P,N⟩,u⟩:=q
    have J:=V.below u.1.bel;have H:a1.tmps.getD 26 undef=.pointer (some ⟨C,1,none⟩):=(u.1.vals (2,26) (by decide) (hd.at 2 (by kernel_rfl)) _ Yz);have c1:w1.cell? ⟨C,1,none⟩=some (.slice f1.pP x.params.length f1.cP):=Qb (J.get 0 Yz) 1 _ Yz;go_simp;exact A _ _ (DMz.pure L W u (i:=3) (t:=27) (by decide) Yz G Zr (by kernel_rfl) (by kernel_rfl) Yz)
   refine⟨fun S a1 w1 G hd F q K A=>?_,?_⟩
   ·obtain⟨⟨R,T,P,N⟩,u⟩:=q
    have J:=V.below u.1.bel;have H:a1.tmps.getD 27 undef=.slice f1.pP x.params.length f1.cP:=(u.1.vals (3,27) (by decide) (hd.at 3 (by kernel_rfl)) _ Yz);go_simp;refine(QaU (Ya b5.out.params J.bel) cr.out.2.1).mono ?_
    rintro e w9 ⟨f5,gb,rfl,h9,Q⟩;refine A _ _ (DMz.call L W u (z':=(f5,gb,P,N)) (i:=4) (t:=28) (by decide) Yz G F Q (by kernel_rfl) (by kernel_rfl) [7,8,10] (by kernel_rfl) ?_ ?_ ?_)
    ·intro x hx;simp only[List.mem_cons,List.not_mem_nil,or_false] at hx;rcases hx with rfl | rfl | rfl | rfl | rfl | rfl | rfl | rfl | rfl
     all_goals first | exact .inr (.inr Yz) | exact .inl (by decide) | exact .inr (.inl Yz)
    ·intro x hx;simp only[List.mem_cons,List.not_mem_nil,or_false] at hx;rcases hx with rfl
     all_goals exact .inl (by decide)
    ·intro x hx;simp only[List.mem_cons,List.not_mem_nil,or_false] at hx;rcases hx with rfl | rfl
     ·exact .inl ⟨Yz,fun k=>w1.heap.size<=k/\k<w9.heap.size,Yc h9 (fun k d hl=>⟨d,hl⟩),fun k d=>d⟩
     ·exact .inr ⟨show (7:Nat)≠4 from by decide,fun w O h=>h⟩
   refine⟨fun S a1 w1 G hd F q K A=>?_,?_⟩
   ·obtain⟨⟨R,T,P,N⟩,u⟩:=q
    have J:=V.below u.1.bel;have H:a1.tmps.getD 5 undef=.pointer (some ⟨C,0,none⟩):=((u.1.outer 5 (by kernel_rfl)).trans d9);go_simp;exact A _ _ (DMz.pure L W u (i:=5) (t:=29) (by decide) Yz G Zr (by kernel_rfl) (by kernel_rfl) Yz)
   refine⟨fun S a1 w1 G hd F q K A=>?_,?_⟩
   ·obtain⟨⟨R,T,P,N⟩,u⟩:=q
    have J:=V.below u.1.bel;have H:a1.tmps.getD 29 undef=.pointer (some ⟨C,2,none⟩):=(u.1.vals (5,29) (by decide) (hd.at 5 (by kernel_rfl)) _ Yz);have c2:w1.cell? ⟨C,2,none⟩=some (.slice f1.pR x.results.length f1.cR):=Qb (J.get 0 Yz) 2 _ Yz;go_simp;exact A _ _ (DMz.pure L W u (i:=6) (t:=30) (by decide) Yz G Zr (by kernel_rfl) (by kernel_rfl) Yz)
   refine⟨fun S a1 w1 G hd F q K A=>?_,?_⟩
   ·obtain⟨⟨R,T,P,N⟩,u⟩:=q
    have J:=V.below u.1.bel;have H:a1.tmps.getD 30 undef=.slice f1.pR x.results.length f1.cR:=(u.1.vals (6,30) (by decide) (hd.at 6 (by kernel_rfl)) _ Yz);go_simp;refine(QaU (Ya b5.out.results J.bel) cr.out.2.2.1).mono ?_
    rintro e w9 ⟨fk,fp,rfl,h9,Q⟩;refine A _ _ (DMz.call L W u (z':=(R,T,fk,fp)) (i:=7) (t:=31) (by decide) Yz G F Q (by kernel_rfl) (by kernel_rfl) [8,10] (by kernel_rfl) ?_ ?_ ?_)
    ·intro x hx;simp only[List.mem_cons,List.not_mem_nil,or_false] at hx;rcases hx with rfl | rfl | rfl | rfl | rfl | rfl | rfl | rfl | rfl
     all_goals first | exact .inr (.inr Yz) | exact .inl (by decide) | exact .inr (.inl Yz)
    ·intro x hx;simp only[List.mem_cons,List.not_mem_nil,or_false] at hx;rcases hx with rfl
     all_goals exact .inl (by decide)
    ·intro x hx;simp only[List.mem_cons,List.not_mem_nil,or_false] at hx;rcases hx with rfl | rfl
     ·exact .inr ⟨show (4:Nat)≠7 from by decide,fun w O h=>h⟩
     ·exact .inl ⟨Yz,fun k=>w1.heap.size<=k/\k<w9.heap.size,Yc h9 (fun k d hl=>⟨d,hl⟩),fun k d=>d⟩
   refine⟨fun S a1 w1 G hd F q K A=>?_,?_⟩
   ·obtain⟨⟨R,T,P,N⟩,u⟩:=q
    have J:=V.below u.1.bel;have H:a1.tmps[25]?.getD undef=.int .i64 x.regs:=by rw[<-Za];exact(u.1.vals (1,25) (by decide) (hd.at 1 (by kernel_rfl)) _ Yz)
    have k1:a1.tmps[28]?.getD undef=.slice R x.params.length T:=by rw[<-Za];exact(u.1.vals (4,28) (by decide) (hd.at 4 (by kernel_rfl)) _ Yz)
    have k2:a1.tmps[31]?.getD undef=.slice P x.results.length N:=by rw[<-Za];exact(u.1.vals (7,31) (by decide) (hd.at 7 (by kernel_rfl)) _ Yz)
    go_simp;exact A _ _ (DMz.pure L W u (i:=8) (t:=32) (by decide) Yz G Zr (by kernel_rfl) (by kernel_rfl) Yz)
   refine⟨fun S a1 w1 G hd F q K A=>?_,?_⟩
   ·obtain⟨⟨R,T,P,N⟩,u⟩:=q
    go_simp;exact A _ _ (DMz.alloc L W u (i:=9) (t:=6) (s:=4) (ty:=40) (by decide) Yz G F (by kernel_rfl) (by kernel_rfl) Yz)
   refine⟨fun S a1 w1 G hd F q K A=>?_,?_⟩
   ·obtain⟨⟨R,T,P,N⟩,u⟩:=q
    have H:a1.tmps.getD 32 undef=.agg #[.int .i64 x.regs,.slice R x.params.length T,.slice P x.results.length N,.slice none 0 0]:=(u.1.vals (8,32) (by decide) (hd.at 8 (by kernel_rfl)) _ Yz);obtain⟨B,kB,en,c0,cb,cl⟩:=u.1.box (i:=9) (t:=6) (s:=4) (ty:=40) (by decide) (hd.at 9 (by kernel_rfl))
    exact QdA cb kB H infFunc Yz cl.symm (A _ _ (DMz.store L W u (i:=10) (t:=6) (s:=4) (ty:=40) (j:=9) (by decide) (by decide) (hd.at 9 (by kernel_rfl)) kB cb cl en Yz Yz G F (by kernel_rfl) (by kernel_rfl) Yz))
   trivial
  case hend =>
   rintro ⟨R,T,P,N⟩ S hp ad G hD av;obtain⟨M,cv,gu,c4⟩:=hD.1.full (j:=9) (i:=10) (t:=6) (s:=4) (ty:=40) (by decide) (G _ (by decide)) (by decide) (G _ (by decide)) Yz
   have f2:Fr 110 hp [(6,.pointer (some ⟨M,0,none⟩)),(0,.agg #[.slice p m.length c]),(1,.pointer (some ⟨B2,0,none⟩)),(2,.pointer (some ⟨B3,0,none⟩)),(3,.pointer (some ⟨B6,0,none⟩)),(4,.int .i64 (q1:Int)),(5,.pointer (some ⟨C,0,none⟩))]:=(av.cons cv);obtain⟨O9,a6,aj⟩:=hD.2 _ List.mem_cons_self (G 4 (by decide))
   replace a6:=Yc (show (Qi n).In _ _ x.params [.slice R x.params.length T] from a6) (O':=fun k=>cu.heap.size<=k/\k<ad.heap.size/\k≠M) (fun k d _=>⟨(aj.1 k d).1,(aj.1 k d).2,fun e=>aj.2 (9,6,4,40) (by decide) (G _ (by decide)) M cv (e ▸ d)⟩);clear aj;obtain⟨O9,a3,aj⟩:=hD.2 _ (List.mem_cons_of_mem _ List.mem_cons_self) (G 7 (by decide))
   replace a3:=Yc (show (Qi n).In _ _ x.results [.slice P x.results.length N] from a3) (O':=fun k=>cu.heap.size<=k/\k<ad.heap.size/\k≠M) (fun k d _=>⟨(aj.1 k d).1,(aj.1 k d).2,fun e=>aj.2 (9,6,4,40) (by decide) (G _ (by decide)) M cv (e ▸ d)⟩);clear aj;have hh:cu.heap.size<=ad.heap.size:=hD.1.bel.size;have bi:Wd ar ad [(M,#[.int .i64 x.regs,.slice R x.params.length T,.slice P x.results.length N,.slice none 0 0],40),(C,#[.int .i64 x.regs,.slice f1.pP x.params.length f1.cP,.slice f1.pR x.results.length f1.cR,.slice f1.pB x.blocks.length f1.cB],40)]:=Wd.add (V.below hD.1.bel) c4 V gu;have dd:ar.heap.size<=cu.heap.size:=V.bel.size;clear G hD av L V cv;clear c4;refine g7 _ _ <| XW fun jc f7=>XW fun i5 fa=>rg f2 fun X=>sa Y Yz Yz <| Yb fun kd a9=>fa _ _ <| XJ ?_
   have e7:ar.heap.size<=ad.heap.size:=bi.bel.size;have bt:M<ad.heap.size:=(bi.get 0 Yz).lt;have eb:C<ad.heap.size:=(bi.get 1 Yz).lt;refine ZL (fun r a w'=>∃ q2:Nat,q2<=x.blocks.length/\r=x.blocks.length - q2/\∃ v2 xs,Qbd (QdQ n) 60 w' ad.heap.size v2 (x.blocks.take q2) xs/\Q4 ad.heap.size M ad w'/\ad.heap.size<=w'.heap.size/\Fr 110 a [(0,.agg #[.slice p m.length c]),(1,.pointer (some ⟨B2,0,none⟩)),(2,.pointer (some ⟨B3,0,none⟩)),(3,.pointer (some ⟨B6,0,none⟩)),(4,.int .i64 (q1:Int)),(5,.pointer (some ⟨C,0,none⟩)),(6,.pointer (some ⟨M,0,none⟩)),(7,.int .i64 (q2:Int))]/\Wd ar w' [(M,#[.int .i64 x.regs,.slice R x.params.length T,.slice P x.results.length N,v2],40),(C,#[.int .i64 x.regs,.slice f1.pP x.params.length f1.cP,.slice f1.pR x.results.length f1.cR,.slice f1.pB x.blocks.length f1.cB],40)]) (x.blocks.length) ⟨0,Xb _,Yz,.slice none 0 0,[],Qbd.nil' _ _ _ _,Q4.refl _ _ _,Ze,(a9.keep (a9.keep (a9.keep (a9.keep (a9.keep (a9.keep (a9.keep (a9.keep a9.nil (t:=7) Yz) (t:=6) Yz) (t:=5) Yz) (t:=4) Yz) (t:=3) Yz) (t:=2) Yz) (t:=1) Yz) (t:=0) Yz),bi⟩ ?_;clear a9 bi;rintro r2 jm an ⟨q2,iw,i2,v2,jg,bj,bk,d1,e9,aq⟩ jh gn;have dw:Hid _:=bj;have eh:Hid _:=bk;clear bj bk;have bn:=Ye an;have d8:Hid (Blk an M #[.int .i64 x.regs,.slice R x.params.length T,.slice P x.results.length N,v2] 40):=aq.get 0 Yz;have cg:Hid (Blk an C #[.int .i64 x.regs,.slice f1.pP x.params.length f1.cP,.slice f1.pR x.results.length f1.cR,.slice f1.pB x.blocks.length f1.cB] 40):=aq.get 1 Yz;refine XW fun jp gg=>XW fun jb fi=>rg e9 fun X=>sm Y Yz Yz <| sfFunc3 Y Yz Yz <| QcW (Qk bn.bel (Qb cg.out 3 _ Yz)) Y Yz Yz <| QaW Y Yz Yz <| slt Y Yz Yz Yz <| Yb fun i1 eo=>fi _ _ <| Qt (t:=37) eo Yz (fun Q=>?_) (fun Q=>?_)
   ·have c3:q2<x.blocks.length:=by have:=Xv Q;omega
    clear Q;obtain⟨y,cp⟩:∃ v9,(x.blocks)[q2]?=some v9:=⟨_,Zg c3⟩
    obtain⟨g2,o2,l,d7,E2,bd⟩:=Qa6 (Ya b5.out.blocks aq.bel) cp
    replace bd:Hid _:=bd;replace d7:Hid _:=d7;replace cp:Hid _:=cp;replace E2:Hid _:=E2;have bm:Hid _:=cr.out.2.2.2 y (Zm cp.out);have j2:=bm.out.1;refine XB <| gg _ _ <| XW fun ix fg=>XJ <| XW fun ip fr=>rg eo fun X=>sfFunc3 Y Yz Yz <| QcW (Qk bn.bel (Qb cg.out 3 _ Yz)) Y Yz Yz <| sm Y Yz Yz <| QcT d7.out c3 Y Yz Yz Yz <| sSE underlying60 Yz (QS E2.out bn.bel) infBlock Y Yz Yz <| QeF bn Y Yz <| fun jr o fl hN=>sT 0 fl Yz Yz infBlock Yz Yz Yz <| fun dx ah=>Yb fun gv a0=>fr _ _ <| XW fun ja er=>?_
    have fb:Fr 110 gv [(0,.agg #[.slice p m.length c]),(1,.pointer (some ⟨B2,0,none⟩)),(2,.pointer (some ⟨B3,0,none⟩)),(3,.pointer (some ⟨B6,0,none⟩)),(4,.int .i64 (q1:Int)),(5,.pointer (some ⟨C,0,none⟩)),(6,.pointer (some ⟨M,0,none⟩)),(7,.int .i64 (q2:Int)),(8,.pointer (some ⟨o,0,none⟩))]:=(a0.keep (a0.keep (a0.keep (a0.keep (a0.keep (a0.keep (a0.keep (a0.keep (a0.keep a0.nil (t:=8) Yz) (t:=7) Yz) (t:=6) Yz) (t:=5) Yz) (t:=4) Yz) (t:=3) Yz) (t:=2) Yz) (t:=1) Yz) (t:=0) Yz);have cq:gv.tmps.getD 8 undef=.pointer (some ⟨o,0,none⟩):=a0.sl 8 _ Yz
    have L:Qbj (Z:=Option Addr × Nat) [(4,fun z w O=>(Qi n).In w O y.params [.slice z.1 y.params.length z.2])]:=by
     intro x hx;simp only[List.mem_cons,List.not_mem_nil,or_false] at hx
     rcases hx with rfl
     ·intro z w w9 O d h;exact(Qi n).keep d (fun _ h _=>h) h
    refine QgM (Z:=Option Addr × Nat) [(0,45),(1,46),(2,47),(3,48),(4,49),(5,50)] [(6,9,12,60)] [(7,9,12,60)] (fun z=>[(45,.pointer (some ⟨o,0,none⟩)),(46,.int .i64 y.regs),(47,.pointer (some ⟨o,1,none⟩)),(48,.slice l.pP y.params.length l.cP),(49,.slice z.1 y.params.length z.2),(50,.agg #[.int .i64 y.regs,.slice z.1 y.params.length z.2,.slice none 0 0,.int .i64 0,.int .i64 0,.int .i64 0,.slice none 0 0,.slice none 0 0,.int .i64 0,.slice none 0 0,.slice none 0 0,.slice none 0 0])]) (fun z=>[(9,[.int .i64 y.regs,.slice z.1 y.params.length z.2,.slice none 0 0,.int .i64 0,.int .i64 0,.int .i64 0,.slice none 0 0,.slice none 0 0,.int .i64 0,.slice none 0 0,.slice none 0 0,.slice none 0 0])]) [(4,fun z w O=>(Qi n).In w O y.params [.slice z.1 y.params.length z.2])] (none,0) (by kernel_rfl) fb (by kernel_rfl) (by kernel_rfl) (fun W=>?hst) ?hend
    case hst =>
     refine⟨fun S a1 w1 G hd F q K A=>?_,?_⟩
     ·obtain⟨⟨aa,ab⟩,u⟩:=q
      have J:=ah.below u.1.bel;have H:a1.tmps.getD 8 undef=.pointer (some ⟨o,0,none⟩):=((u.1.outer 8 (by kernel_rfl)).trans cq);go_simp;exact A _ _ (DMz.pure L W u (i:=0) (t:=45) (by decide) Yz G Zr (by kernel_rfl) (by kernel_rfl) Yz)
     refine⟨fun S a1 w1 G hd F q K A=>?_,?_⟩
     ·obtain⟨⟨aa,ab⟩,u⟩:=q
      have J:=ah.below u.1.bel;have H:a1.tmps.getD 45 undef=.pointer (some ⟨o,0,none⟩):=(u.1.vals (0,45) (by decide) (hd.at 0 (by kernel_rfl)) _ Yz);have c0:w1.cell? ⟨o,0,none⟩=some (.int .i64 y.regs):=Qb (J.get 0 Yz) 0 _ Yz;go_simp;exact A _ _ (DMz.pure L W u (i:=1) (t:=46) (by decide) Yz G Zr (by kernel_rfl) (by kernel_rfl) Yz)
     refine⟨fun S a1 w1 G hd F q K A=>?_,?_⟩
     ·obtain⟨⟨aa,ab⟩,u⟩:=q
      have J:=ah.below u.1.bel;have H:a1.tmps.getD 8 undef=.pointer (some ⟨o,0,none⟩):=((u.1.outer 8 (by kernel_rfl)).trans cq);go_simp;exact A _ _ (DMz.pure L W u (i:=2) (t:=47) (by decide) Yz G Zr (by kernel_rfl) (by kernel_rfl) Yz)
     refine⟨fun S a1 w1 G hd F q K A=>?_,?_⟩
     ·obtain⟨⟨aa,ab⟩,u⟩:=q
      have J:=ah.below u.1.bel;have H:a1.tmps.getD 47 undef=.pointer (some ⟨o,1,none⟩):=(u.1.vals (2,47) (by decide) (hd.at 2 (by kernel_rfl)) _ Yz);have c1:w1.cell? ⟨o,1,none⟩=some (.slice l.pP y.params.length l.cP):=Qb (J.get 0 Yz) 1 _ Yz;go_simp;exact A _ _ (DMz.pure L W u (i:=3) (t:=48) (by decide) Yz G Zr (by kernel_rfl) (by kernel_rfl) Yz)
     refine⟨fun S a1 w1 G hd F q K A=>?_,?_⟩
     ·obtain⟨⟨aa,ab⟩,u⟩:=q
      have J:=ah.below u.1.bel;have H:a1.tmps.getD 48 undef=.slice l.pP y.params.length l.cP:=(u.1.vals (3,48) (by decide) (hd.at 3 (by kernel_rfl)) _ Yz);go_simp;refine(QaU (Ya bd.out.params J.bel) bm.out.2.1).mono ?_
      rintro e w9 ⟨fn,f0,rfl,h9,Q⟩;refine A _ _ (DMz.call L W u (z':=(fn,f0)) (i:=4) (t:=49) (by decide) Yz G F Q (by kernel_rfl) (by kernel_rfl) [5,7] (by kernel_rfl) ?_ ?_ ?_)
      ·intro x hx;simp only[List.mem_cons,List.not_mem_nil,or_false] at hx;rcases hx with rfl | rfl | rfl | rfl | rfl | rfl
       all_goals first | exact .inr (.inr Yz) | exact .inl (by decide) | exact .inr (.inl Yz)
      ·intro x hx;simp only[List.mem_cons,List.not_mem_nil,or_false] at hx;rcases hx with rfl
       all_goals exact .inl (by decide)
      ·intro x hx;simp only[List.mem_cons,List.not_mem_nil,or_false] at hx;rcases hx with rfl
       ·exact .inl ⟨Yz,fun k=>w1.heap.size<=k/\k<w9.heap.size,Yc h9 (fun k d hl=>⟨d,hl⟩),fun k d=>d⟩
     refine⟨fun S a1 w1 G hd F q K A=>?_,?_⟩
     ·obtain⟨⟨aa,ab⟩,u⟩:=q
      have J:=ah.below u.1.bel;have H:a1.tmps[46]?.getD undef=.int .i64 y.regs:=by rw[<-Za];exact(u.1.vals (1,46) (by decide) (hd.at 1 (by kernel_rfl)) _ Yz)
      have k1:a1.tmps[49]?.getD undef=.slice aa y.params.length ab:=by rw[<-Za];exact(u.1.vals (4,49) (by decide) (hd.at 4 (by kernel_rfl)) _ Yz)
      go_simp;exact A _ _ (DMz.pure L W u (i:=5) (t:=50) (by decide) Yz G Zr (by kernel_rfl) (by kernel_rfl) Yz)
     refine⟨fun S a1 w1 G hd F q K A=>?_,?_⟩
     ·obtain⟨⟨aa,ab⟩,u⟩:=q
      go_simp;exact A _ _ (DMz.alloc L W u (i:=6) (t:=9) (s:=12) (ty:=60) (by decide) Yz G F (by kernel_rfl) (by kernel_rfl) Yz)
     refine⟨fun S a1 w1 G hd F q K A=>?_,?_⟩
     ·obtain⟨⟨aa,ab⟩,u⟩:=q
      have H:a1.tmps.getD 50 undef=.agg #[.int .i64 y.regs,.slice aa y.params.length ab,.slice none 0 0,.int .i64 0,.int .i64 0,.int .i64 0,.slice none 0 0,.slice none 0 0,.int .i64 0,.slice none 0 0,.slice none 0 0,.slice none 0 0]:=(u.1.vals (5,50) (by decide) (hd.at 5 (by kernel_rfl)) _ Yz);obtain⟨B,kB,en,c0,cb,cl⟩:=u.1.box (i:=6) (t:=9) (s:=12) (ty:=60) (by decide) (hd.at 6 (by kernel_rfl))
      exact QdA cb kB H infBlock Yz cl.symm (A _ _ (DMz.store L W u (i:=7) (t:=9) (s:=12) (ty:=60) (j:=6) (by decide) (by decide) (hd.at 6 (by kernel_rfl)) kB cb cl en Yz Yz G F (by kernel_rfl) (by kernel_rfl) Yz))
     trivial
    case hend =>
     rintro ⟨aa,ab⟩ S hn ag G hD av;obtain⟨I,dy,e3,cw⟩:=hD.1.full (j:=6) (i:=7) (t:=9) (s:=12) (ty:=60) (by decide) (G _ (by decide)) (by decide) (G _ (by decide)) Yz
     have gh:Fr 110 hn [(9,.pointer (some ⟨I,0,none⟩)),(0,.agg #[.slice p m.length c]),(1,.pointer (some ⟨B2,0,none⟩)),(2,.pointer (some ⟨B3,0,none⟩)),(3,.pointer (some ⟨B6,0,none⟩)),(4,.int .i64 (q1:Int)),(5,.pointer (some ⟨C,0,none⟩)),(6,.pointer (some ⟨M,0,none⟩)),(7,.int .i64 (q2:Int)),(8,.pointer (some ⟨o,0,none⟩))]:=(av.cons dy);obtain⟨O9,af,aj⟩:=hD.2 _ List.mem_cons_self (G 4 (by decide))
     replace af:=Yc (show (Qi n).In _ _ y.params [.slice aa y.params.length ab] from af) (O':=fun k=>dx.heap.size<=k/\k<ag.heap.size/\k≠I) (fun k d _=>⟨(aj.1 k d).1,(aj.1 k d).2,fun e=>aj.2 (6,9,12,60) (by decide) (G _ (by decide)) I dy (e ▸ d)⟩);clear aj;have hh:dx.heap.size<=ag.heap.size:=hD.1.bel.size;have bo:Wd an ag [(I,#[.int .i64 y.regs,.slice aa y.params.length ab,.slice none 0 0,.int .i64 0,.int .i64 0,.int .i64 0,.slice none 0 0,.slice none 0 0,.int .i64 0,.slice none 0 0,.slice none 0 0,.slice none 0 0],60),(o,#[.int .i64 y.regs,.slice l.pP y.params.length l.cP,.slice l.pC y.code.length l.cC,.int .i64 y.fin.op,.int .i64 y.fin.a,.int .i64 y.fin.yes.block,.slice l.e.pYR y.fin.yes.regs.length l.e.cYR,.slice l.e.pYA y.fin.yes.args.length l.e.cYA,.int .i64 y.fin.no.block,.slice l.e.pNR y.fin.no.regs.length l.e.cNR,.slice l.e.pNA y.fin.no.args.length l.e.cNA,.slice l.e.pA y.fin.args.length l.e.cA],60)]:=Wd.add (ah.below hD.1.bel) cw ah e3;have gj:an.heap.size<=dx.heap.size:=ah.bel.size;clear G hD av L ah dy;clear cw;refine er _ _ <| XW fun j5 g6=>XW fun it g0=>rg gh fun X=>sa Y Yz Yz <| Yb fun jj ao=>g0 _ _ <| XJ ?_
     have gd:an.heap.size<=ag.heap.size:=bo.bel.size;have bu:I<ag.heap.size:=(bo.get 0 Yz).lt;have dz:o<ag.heap.size:=(bo.get 1 Yz).lt;refine ZL (fun r a w'=>∃ q3:Nat,q3<=y.code.length/\r=y.code.length - q3/\∃ v3 xs,Qbd insC 46 w' ag.heap.size v3 (y.code.take q3) xs/\Q4 ag.heap.size I ag w'/\ag.heap.size<=w'.heap.size/\Fr 110 a [(0,.agg #[.slice p m.length c]),(1,.pointer (some ⟨B2,0,none⟩)),(2,.pointer (some ⟨B3,0,none⟩)),(3,.pointer (some ⟨B6,0,none⟩)),(4,.int .i64 (q1:Int)),(5,.pointer (some ⟨C,0,none⟩)),(6,.pointer (some ⟨M,0,none⟩)),(7,.int .i64 (q2:Int)),(8,.pointer (some ⟨o,0,none⟩)),(9,.pointer (some ⟨I,0,none⟩)),(10,.int .i64 (q3:Int))]/\Wd an w' [(I,#[.int .i64 y.regs,.slice aa y.params.length ab,v3,.int .i64 0,.int .i64 0,.int .i64 0,.slice none 0 0,.slice none 0 0,.int .i64 0,.slice none 0 0,.slice none 0 0,.slice none 0 0],60),(o,#[.int .i64 y.regs,.slice l.pP y.params.length l.cP,.slice l.pC y.code.length l.cC,.int .i64 y.fin.op,.int .i64 y.fin.a,.int .i64 y.fin.yes.block,.slice l.e.pYR y.fin.yes.regs.length l.e.cYR,.slice l.e.pYA y.fin.yes.args.length l.e.cYA,.int .i64 y.fin.no.block,.slice l.e.pNR y.fin.no.regs.length l.e.cNR,.slice l.e.pNA y.fin.no.args.length l.e.cNA,.slice l.e.pA y.fin.args.length l.e.cA],60)]) (y.code.length) ⟨0,Xb _,Yz,.slice none 0 0,[],Qbd.nil' _ _ _ _,Q4.refl _ _ _,Ze,(ao.keep (ao.keep (ao.keep (ao.keep (ao.keep (ao.keep (ao.keep (ao.keep (ao.keep (ao.keep (ao.keep ao.nil (t:=10) Yz) (t:=9) Yz) (t:=8) Yz) (t:=7) Yz) (t:=6) Yz) (t:=5) Yz) (t:=4) Yz) (t:=3) Yz) (t:=2) Yz) (t:=1) Yz) (t:=0) Yz),bo⟩ ?_;clear ao bo;rintro r3 jv ac ⟨q3,iq,j8,v3,io,bj,bk,ct,ff,al⟩ kg et;have ef:Hid _:=bj;have fx:Hid _:=bk;clear bj bk;have bq:=Ye ac;have d4:Hid (Blk ac I #[.int .i64 y.regs,.slice aa y.params.length ab,v3,.int .i64 0,.int .i64 0,.int .i64 0,.slice none 0 0,.slice none 0 0,.int .i64 0,.slice none 0 0,.slice none 0 0,.slice none 0 0] 60):=al.get 0 Yz;have ce:Hid (Blk ac o #[.int .i64 y.regs,.slice l.pP y.params.length l.cP,.slice l.pC y.code.length l.cC,.int .i64 y.fin.op,.int .i64 y.fin.a,.int .i64 y.fin.yes.block,.slice l.e.pYR y.fin.yes.regs.length l.e.cYR,.slice l.e.pYA y.fin.yes.args.length l.e.cYA,.int .i64 y.fin.no.block,.slice l.e.pNR y.fin.no.regs.length l.e.cNR,.slice l.e.pNA y.fin.no.args.length l.e.cNA,.slice l.e.pA y.fin.args.length l.e.cA] 60):=al.get 1 Yz;refine XW fun jz ey=>XW fun j0 gy=>rg ff fun X=>sm Y Yz Yz <| sfBlock2 Y Yz Yz <| Qgj (Qk bq.bel (Qb ce.out 2 _ Yz)) Y Yz Yz <| Qch Y Yz Yz <| slt Y Yz Yz Yz <| Yb fun ek ae=>gy _ _ <| Qt (t:=55) ae Yz (fun Q=>?_) (fun Q=>?_)
     ·have cy:q3<y.code.length:=by have:=Xv Q;omega
      clear Q;obtain⟨z,cd⟩:∃ v9,(y.code)[q3]?=some v9:=⟨_,Zg cy⟩
      obtain⟨g3,o3,i3,d6,E3,cf⟩:=Qdf (Ya bd.out.code al.bel) cd
      replace cf:Hid _:=cf;replace d6:Hid _:=d6;replace cd:Hid _:=cd;replace E3:Hid _:=E3;have ft:Hid _:=bm.out.2.2.2 z (Zm cd.out);refine XB <| ey _ _ <| XW fun js e1=>XJ <| XW fun j9 g9=>rg ae fun X=>sfBlock2 Y Yz Yz <| Qgj (Qk bq.bel (Qb ce.out 2 _ Yz)) Y Yz Yz <| sm Y Yz Yz <| QgA d6.out cy Y Yz Yz Yz <| sSE underlying46 Yz (QS E3.out bq.bel) infIns Y Yz Yz <| QjB bq Y Yz <| fun jt ak gq hN=>sT 0 gq Yz Yz infIns Yz Yz Yz <| fun b6 bx=>Yb fun es ai=>g9 _ _ <| XW fun j1 fe=>?_
      have dg:Fr 110 es [(0,.agg #[.slice p m.length c]),(1,.pointer (some ⟨B2,0,none⟩)),(2,.pointer (some ⟨B3,0,none⟩)),(3,.pointer (some ⟨B6,0,none⟩)),(4,.int .i64 (q1:Int)),(5,.pointer (some ⟨C,0,none⟩)),(6,.pointer (some ⟨M,0,none⟩)),(7,.int .i64 (q2:Int)),(8,.pointer (some ⟨o,0,none⟩)),(9,.pointer (some ⟨I,0,none⟩)),(10,.int .i64 (q3:Int)),(11,.pointer (some ⟨ak,0,none⟩))]:=(ai.keep (ai.keep (ai.keep (ai.keep (ai.keep (ai.keep (ai.keep (ai.keep (ai.keep (ai.keep (ai.keep (ai.keep ai.nil (t:=11) Yz) (t:=10) Yz) (t:=9) Yz) (t:=8) Yz) (t:=7) Yz) (t:=6) Yz) (t:=5) Yz) (t:=4) Yz) (t:=3) Yz) (t:=2) Yz) (t:=1) Yz) (t:=0) Yz);have ew:es.tmps.getD 11 undef=.pointer (some ⟨ak,0,none⟩):=ai.sl 11 _ Yz;refine ZN 7 ([(11,fun v _=>v=.pointer (some ⟨ak,0,none⟩)),(63,fun v _=>v=.pointer (some ⟨ak,6,none⟩)),(64,fun v _=>v=.slice i3.pR z.regs.length i3.cR),(65,fun v w'=>∃ p c,v=.slice p z.regs.length c/\intsC.In w' (ZJ b6.heap.size) z.regs [.slice p z.regs.length c]),(66,fun v _=>v=.pointer (some ⟨ak,7,none⟩)),(67,fun v _=>v=.slice i3.pA z.args.length i3.cA),(68,fun v w'=>∃ p c,v=.slice p z.args.length c/\intsC.In w' (ZJ b6.heap.size) z.args [.slice p z.args.length c]),(69,fun v _=>v=.pointer (some ⟨ak,6,none⟩))]:Qb9) (fun w'=>Wd ac w' [(ak,#[.int .i64 z.op,.int .i64 z.a,.int .i64 z.b,.int .i64 z.c,.int .i64 z.k,.int .i64 z.n,.slice i3.pR z.regs.length i3.cR,.slice i3.pA z.args.length i3.cA],46)]/\Below b6.heap.size b6 w') (fun w w'=>Below w.heap.size w w') (outs:=[11]) (gs:=[]) (bs:=[true,true,true,true,true,true,true]) (by kernel_rfl) dg Yz (by kernel_rfl) (by kernel_rfl) ?hR ?hG ⟨bx.drewN 1,QQ (m:=1) Zr⟩ ⟨ew,Y⟩ ?hA ?hend
      case hR=>exact⟨fun _ _ _ _ h=>h,fun _ _ _ _ h=>h,fun _ _ _ _ h=>h,fun v w w' hr h=>by obtain⟨p,c,h1,h2⟩:=h;exact⟨p,c,h1,Ya h2 hr⟩,fun _ _ _ _ h=>h,fun _ _ _ _ h=>h,fun v w w' hr h=>by obtain⟨p,c,h1,h2⟩:=h;exact⟨p,c,h1,Ya h2 hr⟩,fun _ _ _ _ h=>h,Y⟩
      case hG=>exact Y
      case hA =>
       iterate 2
        refine⟨fun a w E d K A=>?_,?_⟩
        ·obtain⟨H,-⟩:=d
         conv at H=>whnf;rhs;whnf
         have u0:w.cell? ⟨ak,6,none⟩=some (.slice i3.pR z.regs.length i3.cR):=Qb (E.1.get 0 Yz) 6 _ Yz;go_simp;exact A _ _ Zr E Yz
       refine⟨fun a w E d K A=>?_,?_⟩
       ·obtain⟨H,-⟩:=d
        conv at H=>whnf;rhs;whnf
        go_simp;refine(Qb1 _ _ _ w (Ya cf.out.regs E.1.bel) (by have:=ft.out.1;omega)).mono ?_
        rintro e w9 ⟨p9,c9,rfl,h9,Q⟩;exact A _ _ Q ⟨E.1.below Q,Xl E.2 Q⟩ ⟨p9,c9,Yz,Yc h9 (fun k d _=>Zt E.2.size d)⟩
       iterate 2
        refine⟨fun a w E d K A=>?_,?_⟩
        ·obtain⟨H,-⟩:=d
         conv at H=>whnf;rhs;whnf
         have u0:w.cell? ⟨ak,7,none⟩=some (.slice i3.pA z.args.length i3.cA):=Qb (E.1.get 0 Yz) 7 _ Yz;go_simp;exact A _ _ Zr E Yz
       refine⟨fun a w E d K A=>?_,?_⟩
       ·obtain⟨H,-⟩:=d
        conv at H=>whnf;rhs;whnf
        go_simp;refine(Qb1 _ _ _ w (Ya cf.out.args E.1.bel) (by have:=ft.out.2;omega)).mono ?_
        rintro e w9 ⟨p9,c9,rfl,h9,Q⟩;exact A _ _ Q ⟨E.1.below Q,Xl E.2 Q⟩ ⟨p9,c9,Yz,Yc h9 (fun k d _=>Zt E.2.size d)⟩
       refine⟨fun a w E d K A=>?_,?_⟩
       ·obtain⟨H,-⟩:=d
        conv at H=>whnf;rhs;whnf
        go_simp;exact A _ _ Zr E Yz
       trivial
      case hend =>
       intro X cs hv bv hE av;obtain⟨cj,ca,b4,a2⟩:=hE 65 Yz
       replace b4:cs.tmps.getD 65 undef=.slice cj z.regs.length ca:=b4;obtain⟨ck,b9,b1,a8⟩:=hE 68 Yz
       replace b1:cs.tmps.getD 68 undef=.slice ck z.args.length b9:=b1;have di:cs.tmps.getD 69 undef=.pointer (some ⟨ak,6,none⟩):=hE 69 Yz;have g5:Fr 110 cs [(69,.pointer (some ⟨ak,6,none⟩)),(68,.slice ck z.args.length b9),(65,.slice cj z.regs.length ca),(0,.agg #[.slice p m.length c]),(1,.pointer (some ⟨B2,0,none⟩)),(2,.pointer (some ⟨B3,0,none⟩)),(3,.pointer (some ⟨B6,0,none⟩)),(4,.int .i64 (q1:Int)),(5,.pointer (some ⟨C,0,none⟩)),(6,.pointer (some ⟨M,0,none⟩)),(7,.int .i64 (q2:Int)),(8,.pointer (some ⟨o,0,none⟩)),(9,.pointer (some ⟨I,0,none⟩)),(10,.int .i64 (q3:Int)),(11,.pointer (some ⟨ak,0,none⟩))]:=(((av.cons b4).cons b1).cons di);clear b4 b1 di;have dh:Wd ac hv [(ak,#[.int .i64 z.op,.int .i64 z.a,.int .i64 z.b,.int .i64 z.c,.int .i64 z.k,.int .i64 z.n,.slice i3.pR z.regs.length i3.cR,.slice i3.pA z.args.length i3.cA],46)]:=bv.1;have dr:ac.heap.size<=b6.heap.size:=bx.bel.size;have bb:ak<b6.heap.size:=(bx.get 0 Yz).lt;clear av bv hE dg ai;clear bx;refine St.go g5 <| s1k 0 inf1Ints dh Yz Yz Yz Yz Yz Yz <| fun ka D db=>?_
       replace a2:=Yd a2 D bb;replace a8:=Yd a8 D bb;clear D dh;refine sfIns7 Y Yz Yz <| s1k 0 inf1Ints db Yz Yz Yz Yz Yz Yz <| fun i6 D b3=>?_
       replace a2:=Yd a2 D bb;replace a8:=Yd a8 D bb;clear D db;refine Yb fun kc hg=>fe _ _ <| rg hg fun X=>sfBlock2 Y Yz Yz <| Qgj (Qk b3.bel (Qb d4.out 2 _ Yz)) Y Yz Yz <| sS 0 8 underlying46 Yz infIns b3 Y Yz Yz Yz Yz <| fun ht em=>QeP (t:=74) #[.int .i64 z.op,.int .i64 z.a,.int .i64 z.b,.int .i64 z.c,.int .i64 z.k,.int .i64 z.n,.slice cj z.regs.length ca,.slice ck z.args.length b9] 46 1 em b3 Yz Yz Yz (fun K A=>?_) ?_
       ·have H:ht.tmps[73]?.getD undef=.agg #[.int .i64 z.op,.int .i64 z.a,.int .i64 z.b,.int .i64 z.c,.int .i64 z.k,.int .i64 z.n,.slice cj z.regs.length ca,.slice ck z.args.length b9]:=em.sl2 73 _ Yz
        go_simp;exact A
       clear em b3;intro hw gt iy ay hN dm;replace a2:=Ya a2 hN.bel;replace a8:=Ya a8 hN.bel;clear hN;refine St.go dm ?_;clear dm hw;have bf:insC.In gt (ZJ ac.heap.size) z [.int .i64 z.op,.int .i64 z.a,.int .i64 z.b,.int .i64 z.c,.int .i64 z.k,.int .i64 z.n,.slice cj z.regs.length ca,.slice ck z.args.length b9]:=QaK (x:=z) (Yc a2 (fun k d _=>Zt dr d)) (Yc a8 (fun k d _=>Zt dr d)) cf.out.bnd;have U:=ef.out.below ay.bel;have be:ag.heap.size<=gt.heap.size:=Zt ct ay.bel.size;have br:=Q4.below fx.out ay.bel ct;refine Qkc underIns ic fj fo gl Yz (by decide) Yz (al.below ay.bel) gd (QlH bu dz) ef.out ay.bel ct (ay.get 0 Yz) bf Yz (by rw[List.length_take];omega) (by decide) Yz Yz Yz ?_;intro e6 ih jx ax bp dq;have am:=br.grown bp be (fun k d=>(U.lo_le d).1);clear U be br bp bf ay;refine sfBlock2 Y Yz Yz <| s1k 0 inf1Inss dq Yz Yz Yz Yz Yz Yz <| fun ju D gx=>?_
       replace ax:=Qbd.keep1 ax D bu;replace am:=Q4.keep1t am D bu;clear D dq;refine Yb fun kb ib=>e1 _ _ <| rg ib fun X=>sm Y Yz Yz <| sad (by omega) Y Yz Yz Yz <| sa Y Yz Yz <| Yb fun i8 au=>?_
       have az:=ax.next cd.out
       exact et _ _ (y.code.length - (q3+1)) (by omega) ⟨q3+1,by omega,Yz,_,_,az,am,Nat.le_of_lt (Nat.lt_of_le_of_lt (az.lo_le (g:=e6) Yz).1 (az.lo_le (g:=e6) Yz).2),(au.keep (au.keep (au.keep (au.keep (au.keep (au.keep (au.keep (au.keep (au.keep (au.keep (au.keep au.nil (t:=10) Yz) (t:=9) Yz) (t:=8) Yz) (t:=7) Yz) (t:=6) Yz) (t:=5) Yz) (t:=4) Yz) (t:=3) Yz) (t:=2) Yz) (t:=1) Yz) (t:=0) Yz),gx⟩
     have gc:q3=y.code.length:=by have:=Xw Q;omega
     clear Q bq;have U:=ef.out.full gc;obtain⟨cn,cc,ch⟩:=U.form
     subst ch;have ba:=U.lay;clear U;replace ba:=Yc ba (O':=fun k=>an.heap.size<=k/\k≠I/\ag.heap.size<=k/\k<ac.heap.size) (fun k d hl=>⟨by have h9:ag.heap.size<=k:=d;omega,by have h9:ag.heap.size<=k:=d;omega,d,hl⟩);replace af:=Lay.keepBut af fx.out (O':=fun k=>an.heap.size<=k/\k≠I/\k<ag.heap.size) (fun k d _=>⟨d.2.1,d.2.2⟩) (fun k d _=>⟨Zt gj d.1,d.2.2,d.2.1⟩);refine wp_exit <| g6 _ _ <| XW fun jq f6=>?_
     have da:Fr 110 ek [(0,.agg #[.slice p m.length c]),(1,.pointer (some ⟨B2,0,none⟩)),(2,.pointer (some ⟨B3,0,none⟩)),(3,.pointer (some ⟨B6,0,none⟩)),(4,.int .i64 (q1:Int)),(5,.pointer (some ⟨C,0,none⟩)),(6,.pointer (some ⟨M,0,none⟩)),(7,.int .i64 (q2:Int)),(8,.pointer (some ⟨o,0,none⟩)),(9,.pointer (some ⟨I,0,none⟩)),(10,.int .i64 (q3:Int))]:=(ae.keep (ae.keep (ae.keep (ae.keep (ae.keep (ae.keep (ae.keep (ae.keep (ae.keep (ae.keep (ae.keep ae.nil (t:=10) Yz) (t:=9) Yz) (t:=8) Yz) (t:=7) Yz) (t:=6) Yz) (t:=5) Yz) (t:=4) Yz) (t:=3) Yz) (t:=2) Yz) (t:=1) Yz) (t:=0) Yz);have cq:ek.tmps.getD 8 undef=.pointer (some ⟨o,0,none⟩):=ae.sl 8 _ Yz;have h0:ek.tmps.getD 9 undef=.pointer (some ⟨I,0,none⟩):=ae.sl 9 _ Yz;refine ZN 20 ([(8,fun v _=>v=.pointer (some ⟨o,0,none⟩)),(9,fun v _=>v=.pointer (some ⟨I,0,none⟩)),(77,fun v _=>v=.pointer (some ⟨o,3,none⟩)),(78,fun v _=>v=.pointer (some ⟨o,3,none⟩)),(79,fun v _=>v=.int .i64 y.fin.op),(80,fun v _=>v=.pointer (some ⟨o,3,none⟩)),(81,fun v _=>v=.pointer (some ⟨o,4,none⟩)),(82,fun v _=>v=.int .i64 y.fin.a),(83,fun v _=>v=.pointer (some ⟨o,3,none⟩)),(84,fun v _=>v=.pointer (some ⟨o,5,none⟩)),(85,fun v _=>v=.agg #[.int .i64 y.fin.yes.block,.slice l.e.pYR y.fin.yes.regs.length l.e.cYR,.slice l.e.pYA y.fin.yes.args.length l.e.cYA]),(86,fun v w'=>∃ p c p2 c2,v=.agg #[.int .i64 y.fin.yes.block,.slice p y.fin.yes.regs.length c,.slice p2 y.fin.yes.args.length c2]/\QcO w' (ZJ ac.heap.size) y.fin.yes p c p2 c2),(87,fun v _=>v=.pointer (some ⟨o,3,none⟩)),(88,fun v _=>v=.pointer (some ⟨o,8,none⟩)),(89,fun v _=>v=.agg #[.int .i64 y.fin.no.block,.slice l.e.pNR y.fin.no.regs.length l.e.cNR,.slice l.e.pNA y.fin.no.args.length l.e.cNA]),(90,fun v w'=>∃ p c p2 c2,v=.agg #[.int .i64 y.fin.no.block,.slice p y.fin.no.regs.length c,.slice p2 y.fin.no.args.length c2]/\QcO w' (ZJ ac.heap.size) y.fin.no p c p2 c2),(91,fun v _=>v=.pointer (some ⟨o,3,none⟩)),(92,fun v _=>v=.pointer (some ⟨o,11,none⟩)),(93,fun v _=>v=.slice l.e.pA y.fin.args.length l.e.cA),(94,fun v w'=>∃ p c,v=.slice p y.fin.args.length c/\intsL.In w' (ZJ ac.heap.size) y.fin.args [.slice p y.fin.args.length c]),(95,fun v w'=>∃ e:EP,v=.agg #[.int .i64 y.fin.op,.int .i64 y.fin.a,.int .i64 y.fin.yes.block,.slice e.pYR y.fin.yes.regs.length e.cYR,.slice e.pYA y.fin.yes.args.length e.cYA,.int .i64 y.fin.no.block,.slice e.pNR y.fin.no.regs.length e.cNR,.slice e.pNA y.fin.no.args.length e.cNA,.slice e.pA y.fin.args.length e.cA]/\EIn w' (ZJ ac.heap.size) y.fin e),(96,fun v _=>v=.pointer (some ⟨I,3,none⟩))]:Qb9) (fun w'=>Wd an w' [(I,#[.int .i64 y.regs,.slice aa y.params.length ab,.slice cn y.code.length cc,.int .i64 0,.int .i64 0,.int .i64 0,.slice none 0 0,.slice none 0 0,.int .i64 0,.slice none 0 0,.slice none 0 0,.slice none 0 0],60),(o,#[.int .i64 y.regs,.slice l.pP y.params.length l.cP,.slice l.pC y.code.length l.cC,.int .i64 y.fin.op,.int .i64 y.fin.a,.int .i64 y.fin.yes.block,.slice l.e.pYR y.fin.yes.regs.length l.e.cYR,.slice l.e.pYA y.fin.yes.args.length l.e.cYA,.int .i64 y.fin.no.block,.slice l.e.pNR y.fin.no.regs.length l.e.cNR,.slice l.e.pNA y.fin.no.args.length l.e.cNA,.slice l.e.pA y.fin.args.length l.e.cA],60)]/\Below ac.heap.size ac w') (fun w w'=>Below w.heap.size w w') (outs:=[8,9]) (gs:=[]) (bs:=[true,true,true,true,true,true,true,true,true,true,true,true,true,true,true,true,true,true,true,true]) (by kernel_rfl) da Yz (by kernel_rfl) (by kernel_rfl) ?hR ?hG ⟨al.drewN 1,QQ (m:=1) Zr⟩ ⟨cq,h0,Y⟩ ?hA ?hend
     case hR=>exact⟨fun _ _ _ _ h=>h,fun _ _ _ _ h=>h,fun _ _ _ _ h=>h,fun _ _ _ _ h=>h,fun _ _ _ _ h=>h,fun _ _ _ _ h=>h,fun _ _ _ _ h=>h,fun _ _ _ _ h=>h,fun _ _ _ _ h=>h,fun _ _ _ _ h=>h,fun _ _ _ _ h=>h,fun v w w' hr h=>by obtain⟨p,c,p2,c2,h1,h2⟩:=h;exact⟨p,c,p2,c2,h1,h2.below hr⟩,fun _ _ _ _ h=>h,fun _ _ _ _ h=>h,fun _ _ _ _ h=>h,fun v w w' hr h=>by obtain⟨p,c,p2,c2,h1,h2⟩:=h;exact⟨p,c,p2,c2,h1,h2.below hr⟩,fun _ _ _ _ h=>h,fun _ _ _ _ h=>h,fun _ _ _ _ h=>h,fun v w w' hr h=>by obtain⟨p,c,h1,h2⟩:=h;exact⟨p,c,h1,Ya h2 hr⟩,fun v w w' hr h=>by obtain⟨e,h1,h2⟩:=h;exact⟨e,h1,h2.below hr⟩,fun _ _ _ _ h=>h,Y⟩
     case hG=>exact Y
     case hA =>
      iterate 9
       refine⟨fun a w E d K A=>?_,?_⟩
       ·obtain⟨H,-⟩:=d
        conv at H=>whnf;rhs;whnf
        have u0:w.cell? ⟨o,3,none⟩=some (.int .i64 y.fin.op):=Qb (E.1.get 1 Yz) 3 _ Yz;have u1:w.cell? ⟨o,4,none⟩=some (.int .i64 y.fin.a):=Qb (E.1.get 1 Yz) 4 _ Yz;have u2:w.cell? ⟨o,5,none⟩=some (.int .i64 y.fin.yes.block):=Qb (E.1.get 1 Yz) 5 _ Yz;have u3:w.cell? ⟨o,6,none⟩=some (.slice l.e.pYR y.fin.yes.regs.length l.e.cYR):=Qb (E.1.get 1 Yz) 6 _ Yz;have u4:w.cell? ⟨o,7,none⟩=some (.slice l.e.pYA y.fin.yes.args.length l.e.cYA):=Qb (E.1.get 1 Yz) 7 _ Yz;go_simp;exact A _ _ Zr E Yz
      refine⟨fun a w E d K A=>?_,?_⟩
      ·obtain⟨H,-⟩:=d
       conv at H=>whnf;rhs;whnf
       go_simp;refine(Qd5 _ _ _ _ _ w (bd.out.fin.yes.below E.1.bel) (by have:=bm.out.2.2.1.1.1;omega) (by have:=bm.out.2.2.1.1.2;omega)).mono ?_
       rintro e w9 ⟨p9,c9,p8,c8,rfl,h9,Q⟩;exact A _ _ Q ⟨E.1.below Q,Xl E.2 Q⟩ ⟨p9,c9,p8,c8,Yz,h9.mono (fun k d _=>Zt E.2.size d)⟩
      iterate 3
       refine⟨fun a w E d K A=>?_,?_⟩
       ·obtain⟨H,-⟩:=d
        conv at H=>whnf;rhs;whnf
        have u0:w.cell? ⟨o,8,none⟩=some (.int .i64 y.fin.no.block):=Qb (E.1.get 1 Yz) 8 _ Yz;have u1:w.cell? ⟨o,9,none⟩=some (.slice l.e.pNR y.fin.no.regs.length l.e.cNR):=Qb (E.1.get 1 Yz) 9 _ Yz;have u2:w.cell? ⟨o,10,none⟩=some (.slice l.e.pNA y.fin.no.args.length l.e.cNA):=Qb (E.1.get 1 Yz) 10 _ Yz;go_simp;exact A _ _ Zr E Yz
      refine⟨fun a w E d K A=>?_,?_⟩
      ·obtain⟨H,-⟩:=d
       conv at H=>whnf;rhs;whnf
       go_simp;refine(Qd5 _ _ _ _ _ w (bd.out.fin.no.below E.1.bel) (by have:=bm.out.2.2.1.2.1.1;omega) (by have:=bm.out.2.2.1.2.1.2;omega)).mono ?_
       rintro e w9 ⟨p9,c9,p8,c8,rfl,h9,Q⟩;exact A _ _ Q ⟨E.1.below Q,Xl E.2 Q⟩ ⟨p9,c9,p8,c8,Yz,h9.mono (fun k d _=>Zt E.2.size d)⟩
      iterate 3
       refine⟨fun a w E d K A=>?_,?_⟩
       ·obtain⟨H,-⟩:=d
        conv at H=>whnf;rhs;whnf
        have u0:w.cell? ⟨o,11,none⟩=some (.slice l.e.pA y.fin.args.length l.e.cA):=Qb (E.1.get 1 Yz) 11 _ Yz;go_simp;exact A _ _ Zr E Yz
      refine⟨fun a w E d K A=>?_,?_⟩
      ·obtain⟨H,-⟩:=d
       conv at H=>whnf;rhs;whnf
       go_simp;refine(Qbo _ _ _ w (Ya bd.out.fin.args E.1.bel) (by have:=bm.out.2.2.1.2.2;omega)).mono ?_
       rintro e w9 ⟨p9,c9,rfl,h9,Q⟩;exact A _ _ Q ⟨E.1.below Q,Xl E.2 Q⟩ ⟨p9,c9,Yz,Yc h9 (fun k d _=>Zt E.2.size d)⟩
      refine⟨fun a w E d K A=>?_,?_⟩
      ·obtain⟨H,k1,k2,k3,k4,-⟩:=d
       have H:a.tmps[79]?.getD undef=.int .i64 y.fin.op:=by rw[<-Za];exact H
       have k1:a.tmps[82]?.getD undef=.int .i64 y.fin.a:=by rw[<-Za];exact k1
       obtain⟨fd,dl,dv,cx,k2,gw⟩:=k2
       have k2:a.tmps[86]?.getD undef=.agg #[.int .i64 y.fin.yes.block,.slice fd y.fin.yes.regs.length dl,.slice dv y.fin.yes.args.length cx]:=by rw[<-Za];exact k2
       obtain⟨fc,ds,dc,dj,k3,ge⟩:=k3
       have k3:a.tmps[90]?.getD undef=.agg #[.int .i64 y.fin.no.block,.slice fc y.fin.no.regs.length ds,.slice dc y.fin.no.args.length dj]:=by rw[<-Za];exact k3
       obtain⟨gm,fm,k4,fz⟩:=k4
       have k4:a.tmps[94]?.getD undef=.slice gm y.fin.args.length fm:=by rw[<-Za];exact k4
       go_simp;exact A _ _ Zr E ⟨⟨fd,dl,dv,cx,fc,ds,dc,dj,gm,fm⟩,Yz,⟨gw,ge,fz,bd.out.fin.bnd⟩⟩
      refine⟨fun a w E d K A=>?_,?_⟩
      ·obtain⟨H,-⟩:=d
       conv at H=>whnf;rhs;whnf
       go_simp;exact A _ _ Zr E Yz
      trivial
     case hend =>
      intro X ep ha bv hE av;obtain⟨f,b0,bl⟩:=hE 95 Yz
      replace b0:ep.tmps.getD 95 undef=.agg #[.int .i64 y.fin.op,.int .i64 y.fin.a,.int .i64 y.fin.yes.block,.slice f.pYR y.fin.yes.regs.length f.cYR,.slice f.pYA y.fin.yes.args.length f.cYA,.int .i64 y.fin.no.block,.slice f.pNR y.fin.no.regs.length f.cNR,.slice f.pNA y.fin.no.args.length f.cNA,.slice f.pA y.fin.args.length f.cA]:=b0;have dn:ep.tmps.getD 96 undef=.pointer (some ⟨I,3,none⟩):=hE 96 Yz;have gr:Fr 110 ep [(96,.pointer (some ⟨I,3,none⟩)),(95,.agg #[.int .i64 y.fin.op,.int .i64 y.fin.a,.int .i64 y.fin.yes.block,.slice f.pYR y.fin.yes.regs.length f.cYR,.slice f.pYA y.fin.yes.args.length f.cYA,.int .i64 y.fin.no.block,.slice f.pNR y.fin.no.regs.length f.cNR,.slice f.pNA y.fin.no.args.length f.cNA,.slice f.pA y.fin.args.length f.cA]),(0,.agg #[.slice p m.length c]),(1,.pointer (some ⟨B2,0,none⟩)),(2,.pointer (some ⟨B3,0,none⟩)),(3,.pointer (some ⟨B6,0,none⟩)),(4,.int .i64 (q1:Int)),(5,.pointer (some ⟨C,0,none⟩)),(6,.pointer (some ⟨M,0,none⟩)),(7,.int .i64 (q2:Int)),(8,.pointer (some ⟨o,0,none⟩)),(9,.pointer (some ⟨I,0,none⟩)),(10,.int .i64 (q3:Int))]:=((av.cons b0).cons dn);clear b0 dn;have cz:Wd an ha [(I,#[.int .i64 y.regs,.slice aa y.params.length ab,.slice cn y.code.length cc,.int .i64 0,.int .i64 0,.int .i64 0,.slice none 0 0,.slice none 0 0,.int .i64 0,.slice none 0 0,.slice none 0 0,.slice none 0 0],60),(o,#[.int .i64 y.regs,.slice l.pP y.params.length l.cP,.slice l.pC y.code.length l.cC,.int .i64 y.fin.op,.int .i64 y.fin.a,.int .i64 y.fin.yes.block,.slice l.e.pYR y.fin.yes.regs.length l.e.cYR,.slice l.e.pYA y.fin.yes.args.length l.e.cYA,.int .i64 y.fin.no.block,.slice l.e.pNR y.fin.no.regs.length l.e.cNR,.slice l.e.pNA y.fin.no.args.length l.e.cNA,.slice l.e.pA y.fin.args.length l.e.cA],60)]:=bv.1;have gz:an.heap.size<=ac.heap.size:=al.bel.size;have el:I<ac.heap.size:=(al.get 0 Yz).lt;have hq:o<ac.heap.size:=(al.get 1 Yz).lt;replace af:=Ya af bv.2;replace ba:=Ya ba bv.2;clear av bv hE da ae;clear al;refine St.go gr <| sTk 0 cz Yz Yz infEnd Yz Yz Yz <| fun iv D bz=>?_
      replace af:=Lay.keepNe af D (fun k d=>d.2.1);replace ba:=Lay.keepNe ba D (fun k d=>d.2.1);replace bl:=EIn.keep1 bl D el;clear D cz;refine Yb fun jw h3=>f6 _ _ <| rg h3 fun X=>sfFunc3 Y Yz Yz <| QcW (Qk bz.bel (Qb d8.out 3 _ Yz)) Y Yz Yz <| sS 0 12 underlying60 Yz infBlock bz Y Yz Yz Yz Yz <| fun h6 ed=>QeP (t:=100) #[.int .i64 y.regs,.slice aa y.params.length ab,.slice cn y.code.length cc,.int .i64 y.fin.op,.int .i64 y.fin.a,.int .i64 y.fin.yes.block,.slice f.pYR y.fin.yes.regs.length f.cYR,.slice f.pYA y.fin.yes.args.length f.cYA,.int .i64 y.fin.no.block,.slice f.pNR y.fin.no.regs.length f.cNR,.slice f.pNA y.fin.no.args.length f.cNA,.slice f.pA y.fin.args.length f.cA] 60 1 ed bz Yz Yz Yz (fun K A=>?_) ?_
      ·have H:h6.tmps[99]?.getD undef=.agg #[.int .i64 y.regs,.slice aa y.params.length ab,.slice cn y.code.length cc,.int .i64 y.fin.op,.int .i64 y.fin.a,.int .i64 y.fin.yes.block,.slice f.pYR y.fin.yes.regs.length f.cYR,.slice f.pYA y.fin.yes.args.length f.cYA,.int .i64 y.fin.no.block,.slice f.pNR y.fin.no.regs.length f.cNR,.slice f.pNA y.fin.no.args.length f.cNA,.slice f.pA y.fin.args.length f.cA]:=ed.sl2 99 _ Yz
       go_simp;exact A
      clear ed bz;intro hu fw j6 aw hN c7;replace af:=Ya af hN.bel;replace ba:=Ya ba hN.bel;replace bl:=EIn.below bl hN.bel;clear hN;refine St.go c7 ?_;clear c7 hu;have bf:(QdQ n).In fw (ZJ an.heap.size) y [.int .i64 y.regs,.slice aa y.params.length ab,.slice cn y.code.length cc,.int .i64 y.fin.op,.int .i64 y.fin.a,.int .i64 y.fin.yes.block,.slice f.pYR y.fin.yes.regs.length f.cYR,.slice f.pYA y.fin.yes.args.length f.cYA,.int .i64 y.fin.no.block,.slice f.pNR y.fin.no.regs.length f.cNR,.slice f.pNA y.fin.no.args.length f.cNA,.slice f.pA y.fin.args.length f.cA]:=QfP (x:=y) (t1:=ag.heap.size) (t2:=ac.heap.size) ct (Yc af (fun k d _=>⟨d.1,d.2.2⟩)) (Yc ba (fun k d _=>⟨d.1,d.2.2⟩)) (EIn.mono bl (fun k d _=>⟨Zt gz d,d⟩)) bd.out.bnd;have U:=dw.out.below aw.bel;have be:ad.heap.size<=fw.heap.size:=Zt d1 aw.bel.size;have br:=Q4.below eh.out aw.bel d1;refine Qkc underBlocks hj ez gi fy Yz (by decide) Yz (aq.below aw.bel) e7 (QlH bt eb) dw.out aw.bel d1 (aw.get 0 Yz) bf Yz (by rw[List.length_take];omega) (by decide) Yz Yz Yz ?_;intro ev ik jy ax bp de;have am:=br.grown bp be (fun k d=>(U.lo_le d).1);clear U be br bp bf aw;refine sfFunc3 Y Yz Yz <| s1k 0 inf1Blocks de Yz Yz Yz Yz Yz Yz <| fun jf D fq=>?_
      replace ax:=Qbd.keep1 ax D bt;replace am:=Q4.keep1t am D bt;clear D de;refine Yb fun i7 h5=>fg _ _ <| rg h5 fun X=>sm Y Yz Yz <| sad (by omega) Y Yz Yz Yz <| sa Y Yz Yz <| Yb fun iz bc=>?_
      have az:=ax.next cp.out
      exact gn _ _ (x.blocks.length - (q2+1)) (by omega) ⟨q2+1,by omega,Yz,_,_,az,am,Nat.le_of_lt (Nat.lt_of_le_of_lt (az.lo_le (g:=ev) Yz).1 (az.lo_le (g:=ev) Yz).2),(bc.keep (bc.keep (bc.keep (bc.keep (bc.keep (bc.keep (bc.keep (bc.keep bc.nil (t:=7) Yz) (t:=6) Yz) (t:=5) Yz) (t:=4) Yz) (t:=3) Yz) (t:=2) Yz) (t:=1) Yz) (t:=0) Yz),fq⟩
   have fv:q2=x.blocks.length:=by have:=Xw Q;omega
   clear Q bn;have U:=dw.out.full fv;obtain⟨ej,ei,ch⟩:=U.form
   subst ch;have co:=U.lay;clear U;replace co:=Yc co (O':=fun k=>ar.heap.size<=k/\k≠M/\ad.heap.size<=k) (fun k d _=>⟨by have h9:ad.heap.size<=k:=d;omega,by have h9:ad.heap.size<=k:=d;omega,d⟩);replace a6:=Lay.keepBut a6 eh.out (O':=fun k=>ar.heap.size<=k/\k≠M/\k<ad.heap.size) (fun k d _=>⟨d.2.1,d.2.2⟩) (fun k d _=>⟨Zt dd d.1,d.2.2,d.2.1⟩);replace a3:=Lay.keepBut a3 eh.out (O':=fun k=>ar.heap.size<=k/\k≠M/\k<ad.heap.size) (fun k d _=>⟨d.2.1,d.2.2⟩) (fun k d _=>⟨Zt dd d.1,d.2.2,d.2.1⟩);refine wp_exit <| f7 _ _ <| rg eo fun X=>sfModule0 Y Yz Yz <| Qes (Qk aq.bel (Qb f3.out 0 _ Yz)) Y Yz Yz <| sS 0 4 underlying40 Yz infFunc aq Y Yz Yz Yz Yz <| fun ho ea=>QeP (t:=106) #[.int .i64 x.regs,.slice R x.params.length T,.slice P x.results.length N,.slice ej x.blocks.length ei] 40 1 ea aq Yz Yz Yz (fun K A=>?_) ?_
   ·have H:ho.tmps[105]?.getD undef=.agg #[.int .i64 x.regs,.slice R x.params.length T,.slice P x.results.length N,.slice ej x.blocks.length ei]:=ea.sl2 105 _ Yz
    go_simp;exact A
   clear ea aq;intro hi gk jn a5 hN dt;replace a6:=Ya a6 hN.bel;replace a3:=Ya a3 hN.bel;replace co:=Ya co hN.bel;clear hN;refine St.go dt ?_;clear dt hi;have bf:(QhZ n).In gk (ZJ ar.heap.size) x [.int .i64 x.regs,.slice R x.params.length T,.slice P x.results.length N,.slice ej x.blocks.length ei]:=QgN (x:=x) (t1:=ad.heap.size) (Yc a6 (fun k d _=>⟨d.1,d.2.2⟩)) (Yc a3 (fun k d _=>⟨d.1,d.2.2⟩)) (Yc co (fun k d _=>⟨d.1,d.2.2⟩)) b5.out.bnd;have U:=d0.out.below a5.bel;have be:w6.heap.size<=gk.heap.size:=Zt d5 a5.bel.size;have br:=Q4.below d3.out a5.bel d5;refine Qkc underFuncs ia ex e8 e2 Yz (by decide) Yz (ap.below a5.bel) c5 (Ql1 ci df ga) d0.out a5.bel d5 (a5.get 0 Yz) bf Yz (by rw[List.length_take];omega) (by decide) Yz Yz Yz ?_;intro e5 ii i9 ax bp du;have am:=br.grown bp be (fun k d=>(U.lo_le d).1);clear U be br bp bf a5;refine sfModule0 Y Yz Yz <| s1k 0 inf1Funcs du Yz Yz Yz Yz Yz Yz <| fun kj D eu=>?_
   replace ax:=Qbd.keep1 ax D ci;replace am:=Q4.keep1t am D ci;clear D du;refine Yb fun ki he=>e0 _ _ <| rg he fun X=>sm Y Yz Yz <| sad (by omega) Y Yz Yz Yz <| sa Y Yz Yz <| Yb fun jk b7=>?_
   have az:=ax.next cm.out
   exact f4 _ _ (m.length - (q1+1)) (by omega) ⟨q1+1,by omega,Yz,_,_,az,am,Nat.le_of_lt (Nat.lt_of_le_of_lt (az.lo_le (g:=e5) Yz).1 (az.lo_le (g:=e5) Yz).2),(b7.keep (b7.keep (b7.keep (b7.keep (b7.keep b7.nil (t:=4) Yz) (t:=3) Yz) (t:=2) Yz) (t:=1) Yz) (t:=0) Yz),eu⟩
 have g4:q1=m.length:=by have:=Xw Q;omega
 clear Q bg;have U:=d0.out.full g4;obtain⟨ig,ie,ch⟩:=U.form
 subst ch;have ee:=U.lay;clear U;refine wp_exit <| hz _ _ <| XW fun kk e4=>rg ec fun X=>sS 0 1 underlying24 Yz infModule ap Y Yz Yz Yz Yz <| sTk 1 ap Yz Yz infModule Yz Yz Yz <| fun ji D c6=>?_
 replace ee:=Yd ee D df;clear D ap;refine Yb fun j7 hc=>e4 _ _ ?_;refine XA ?_;with_reducible repeat first | refine Qd ?_ | refine Qc ?_
 exact QW 1 hc c6 Yz Yz Yz underlying24 Yz infModule ⟨_,Yz,⟨ig,ie,Yz,Yc ee (fun k d _=>Zt c5 d)⟩,c6.bel⟩
theorem Qeg {x y:Qe n}{b d:BP}(ba:BIn w All x b) (br:BIn w All y d) (au:x.small) :
 Rd prog 47 #[.agg #[.int .i64 x.regs,.slice b.pP x.params.length b.cP,.slice b.pC x.code.length b.cC,.int .i64 x.fin.op,.int .i64 x.fin.a,.int .i64 x.fin.yes.block,.slice b.e.pYR x.fin.yes.regs.length b.e.cYR,.slice b.e.pYA x.fin.yes.args.length b.e.cYA,.int .i64 x.fin.no.block,.slice b.e.pNR x.fin.no.regs.length b.e.cNR,.slice b.e.pNA x.fin.no.args.length b.e.cNA,.slice b.e.pA x.fin.args.length b.e.cA],.agg #[.int .i64 y.regs,.slice d.pP y.params.length d.cP,.slice d.pC y.code.length d.cC,.int .i64 y.fin.op,.int .i64 y.fin.a,.int .i64 y.fin.yes.block,.slice d.e.pYR y.fin.yes.regs.length d.e.cYR,.slice d.e.pYA y.fin.yes.args.length d.e.cYA,.int .i64 y.fin.no.block,.slice d.e.pNR y.fin.no.regs.length d.e.cNR,.slice d.e.pNA y.fin.no.args.length d.e.cNA,.slice d.e.pA y.fin.args.length d.e.cA]] w (.bool (bdec (x=y))):=by
 have c2:=au.1;have hx:Hid _:=ba;have hy:Hid _:=br;have hs:Hid _:=au;clear ba br au;refine Qv (n:=90) func47 Z Z Z <| fun a hF=>?_
 have B:=Ye w;replace hF:Fr 90 a [(0,.agg #[.int .i64 x.regs,.slice b.pP x.params.length b.cP,.slice b.pC x.code.length b.cC,.int .i64 x.fin.op,.int .i64 x.fin.a,.int .i64 x.fin.yes.block,.slice b.e.pYR x.fin.yes.regs.length b.e.cYR,.slice b.e.pYA x.fin.yes.args.length b.e.cYA,.int .i64 x.fin.no.block,.slice b.e.pNR x.fin.no.regs.length b.e.cNR,.slice b.e.pNA x.fin.no.args.length b.e.cNA,.slice b.e.pA x.fin.args.length b.e.cA]),(1,.agg #[.int .i64 y.regs,.slice d.pP y.params.length d.cP,.slice d.pC y.code.length d.cC,.int .i64 y.fin.op,.int .i64 y.fin.a,.int .i64 y.fin.yes.block,.slice d.e.pYR y.fin.yes.regs.length d.e.cYR,.slice d.e.pYA y.fin.yes.args.length d.e.cYA,.int .i64 y.fin.no.block,.slice d.e.pNR y.fin.no.regs.length d.e.cNR,.slice d.e.pNA y.fin.no.args.length d.e.cNA,.slice d.e.pA y.fin.args.length d.e.cA])]:=hF;refine XW fun K1 ci=>rg hF fun C=>sB B Y Z Z <| fun w2 B2 b9 hN=>sB b9 Y Z Z <| fun w3 B3 O hN=>sa Y Z Z <| Yb fun a4 h4=>ci _ _ <| XW fun K5 ce=>XW fun K6 aq=>Q5 <| fun C E=>?_
 have H:(C[5]?).bind (fun o:Oper=>o.dst)=some 11:=E 5;have p:(C[13]?).bind (fun o:Oper=>o.dst)=some 19:=E 13;clear E;refine St.go h4 <| sfBlock0 Y Z Z <| Q7 1 O Y Z Z Z Z <| sfBlock0 Y Z Z <| Q7 0 O Y Z Z Z Z <| sne Y Z Z Z <| sm Y Z Z <| fun a7 h7=>?_
 rcases Xa (x.regs != y.regs) with l | l
 ·rw[l] at h7
  have G:¬ x.regs=y.regs:=bne_iff_ne.1 l;have ca:¬ x.regs=y.regs:=G;clear G;clear l;refine St.go h7 <| so H Z Z Z Z <| so H Z Z Z Z <| so H Z Z Z Z <| so H Z Z Z Z <| so H Z Z Z Z <| so H Z Z Z Z <| sp Y Z Z Z <| sm Y Z Z <| so p Z Z Z Z <| so p Z Z Z Z <| so p Z Z Z Z <| so p Z Z Z Z <| so p Z Z Z Z <| so p Z Z Z Z <| so p Z Z Z Z <| sp Y Z Z Z <| Yb fun a9 G=>aq _ _ <| Qab (t:=27) G Z <| XW fun c8 bi=>rg G fun C=>sa Y Z Z <| Yb fun ck b2=>bi _ _ ?_
  refine XA ?_;with_reducible repeat first | refine Qd ?_ | refine Qc ?_
  have R:¬ x=y:=fun e=>ca (by rw[e]);exact Ql (t:=4) b2 Z Z ⟨by rw[Qh R],O.bel⟩
 rw[l] at h7
 have G:x.regs=y.regs:=XH.1 l;have a2:Hid (x.regs=y.regs):=G;clear G;clear l;refine St.go h7 <| sfBlock1 ⟨_,H,Z,Z⟩ Z Z <| ZW 1 O ⟨_,H,Z,Z⟩ Z Z Z Z <| sfBlock1 ⟨_,H,Z,Z⟩ Z Z <| ZW 0 O ⟨_,H,Z,Z⟩ Z Z Z Z <| QdF cf13 O (Qam (Ya hx.out.params O.bel) (Ya hy.out.params O.bel) hs.out.2.1) ⟨_,H,Z,Z⟩ Z Z Z <| fun df L=>sn ⟨_,H,Z,Z⟩ Z Z <| spf Y Z Z Z <| sm Y Z Z <| fun cu ae=>?_
 rcases Xa (!(bdec (x.params=y.params))) with l | l
 ·rw[l] at ae
  have l:(bdec (x.params=y.params))=false:=by simpa using l
  have be:¬ (x.params=y.params):=fun h=>by rw[Qs h] at l;cases l
  clear l;refine St.go ae <| so p Z Z Z Z <| so p Z Z Z Z <| so p Z Z Z Z <| so p Z Z Z Z <| so p Z Z Z Z <| so p Z Z Z Z <| so p Z Z Z Z <| sp Y Z Z Z <| Yb fun cy bt=>aq _ _ <| Qab (t:=27) bt Z <| XW fun dc bk=>rg bt fun C=>sa Y Z Z <| Yb fun c7 cc=>bk _ _ ?_
  refine XA ?_;with_reducible repeat first | refine Qd ?_ | refine Qc ?_
  have R:¬ x=y:=fun e=>be (by rw[e]);exact Ql (t:=4) cc Z Z ⟨by rw[Qh R],L.bel⟩
 rw[l] at ae
 have l:(bdec (x.params=y.params))=true:=by simpa using l
 have ax:(x.params=y.params):=Zj.1 l;clear l;refine St.go ae <| sfBlock2 ⟨_,p,Z,Z⟩ Z Z <| Qc4 1 L ⟨_,p,Z,Z⟩ Z Z Z Z <| Qch ⟨_,p,Z,Z⟩ Z Z <| sfBlock2 ⟨_,p,Z,Z⟩ Z Z <| Qc4 0 L ⟨_,p,Z,Z⟩ Z Z Z Z <| Qch ⟨_,p,Z,Z⟩ Z Z <| sne ⟨_,p,Z,Z⟩ Z Z Z <| spf Y Z Z Z <| Yb fun c3 ap=>aq _ _ <| Qt (t:=27) ap Z (fun l=>?_) (fun l=>?_)
 ·have G:¬ x.code.length=y.code.length:=by have h8:=bne_iff_ne.1 l;omega
  have Q:¬ x.code.length=y.code.length:=G;clear G;clear l;refine XW fun c0 bo=>rg ap fun C=>sa Y Z Z <| Yb fun c4 b1=>bo _ _ ?_
  refine XA ?_;with_reducible repeat first | refine Qd ?_ | refine Qc ?_
  have R:¬ x=y:=fun e=>Q (by rw[e]);exact Ql (t:=4) b1 Z Z ⟨by rw[Qh R],L.bel⟩
 have G:x.code.length=y.code.length:=by have h8:=XH.1 l;omega
 have Q:Hid (x.code.length=y.code.length):=G;clear G;clear l;refine XB <| ce _ _ <| XW fun cw bh=>XW fun dg a8=>rg ap fun C=>sa Y Z Z <| Yb fun cs N=>a8 _ _ <| XJ <| ZL (fun r a w'=>∃ q:Nat,q<=x.code.length/\r=x.code.length - q/\(∀ j,j<q->x.code[j]?=y.code[j]?)/\Fr 90 a [(1,.agg #[.int .i64 y.regs,.slice d.pP y.params.length d.cP,.slice d.pC y.code.length d.cC,.int .i64 y.fin.op,.int .i64 y.fin.a,.int .i64 y.fin.yes.block,.slice d.e.pYR y.fin.yes.regs.length d.e.cYR,.slice d.e.pYA y.fin.yes.args.length d.e.cYA,.int .i64 y.fin.no.block,.slice d.e.pNR y.fin.no.regs.length d.e.cNR,.slice d.e.pNA y.fin.no.args.length d.e.cNA,.slice d.e.pA y.fin.args.length d.e.cA]),(0,.agg #[.int .i64 x.regs,.slice b.pP x.params.length b.cP,.slice b.pC x.code.length b.cC,.int .i64 x.fin.op,.int .i64 x.fin.a,.int .i64 x.fin.yes.block,.slice b.e.pYR x.fin.yes.regs.length b.e.cYR,.slice b.e.pYA x.fin.yes.args.length b.e.cYA,.int .i64 x.fin.no.block,.slice b.e.pNR x.fin.no.regs.length b.e.cNR,.slice b.e.pNA x.fin.no.args.length b.e.cNA,.slice b.e.pA x.fin.args.length b.e.cA]),(2,.pointer (some ⟨B2,0,none⟩)),(3,.pointer (some ⟨B3,0,none⟩)),(4,.bool false),(5,.int .i64 (q:Int))]/\Wd w w' [(B3,#[.int .i64 y.regs,.slice d.pP y.params.length d.cP,.slice d.pC y.code.length d.cC,.int .i64 y.fin.op,.int .i64 y.fin.a,.int .i64 y.fin.yes.block,.slice d.e.pYR y.fin.yes.regs.length d.e.cYR,.slice d.e.pYA y.fin.yes.args.length d.e.cYA,.int .i64 y.fin.no.block,.slice d.e.pNR y.fin.no.regs.length d.e.cNR,.slice d.e.pNA y.fin.no.args.length d.e.cNA,.slice d.e.pA y.fin.args.length d.e.cA],60),(B2,#[.int .i64 x.regs,.slice b.pP x.params.length b.cP,.slice b.pC x.code.length b.cC,.int .i64 x.fin.op,.int .i64 x.fin.a,.int .i64 x.fin.yes.block,.slice b.e.pYR x.fin.yes.regs.length b.e.cYR,.slice b.e.pYA x.fin.yes.args.length b.e.cYA,.int .i64 x.fin.no.block,.slice b.e.pNR x.fin.no.regs.length b.e.cNR,.slice b.e.pNA x.fin.no.args.length b.e.cNA,.slice b.e.pA x.fin.args.length b.e.cA],60)]) (x.code.length) ⟨0,Xb _,Z,(fun j hj=>by omega),(N.keep (N.keep (N.keep (N.keep (N.keep (N.keep N.nil (t:=5) Z) (t:=4) Z) (t:=3) Z) (t:=2) Z) (t:=0) Z) (t:=1) Z),L⟩ ?_
 clear N L;rintro r dd bv ⟨q,hq,hr,al,a0,A⟩ KL b5;refine XW fun cl bu=>XW fun ct bp=>rg a0 fun C=>sm Y Z Z <| sfBlock2 Y Z Z <| Qc4 1 A Y Z Z Z Z <| Qch Y Z Z <| slt Y Z Z Z <| Yb fun ag F=>bp _ _ <| Qt (t:=32) F Z (fun l=>?_) (fun l=>?_)
 ·have a3:q<x.code.length:=by have:=Xv l;omega
  have bg:q<y.code.length:=by have:=Q.out;omega
  clear l;obtain⟨z,U⟩:∃ v9,(x.code)[q]?=some v9:=⟨_,Zg a3⟩
  obtain⟨g1,o1,X,ao,E1,ar⟩:=Qdf hx.out.code U
  replace ar:Hid _:=ar;replace ao:Hid _:=ao;replace U:Hid _:=U;replace E1:Hid _:=E1;obtain⟨u,ab⟩:∃ v9,(y.code)[q]?=some v9:=⟨_,Zg bg⟩
  obtain⟨g2,o2,W,av,E2,am⟩:=Qdf hy.out.code ab
  replace am:Hid _:=am;replace av:Hid _:=av;replace ab:Hid _:=ab;replace E2:Hid _:=E2;refine XB <| bu _ _ <| XW fun c1 bl=>XJ <| XW fun co aw=>?_
  have ak:Fr 90 ag [(1,.agg #[.int .i64 y.regs,.slice d.pP y.params.length d.cP,.slice d.pC y.code.length d.cC,.int .i64 y.fin.op,.int .i64 y.fin.a,.int .i64 y.fin.yes.block,.slice d.e.pYR y.fin.yes.regs.length d.e.cYR,.slice d.e.pYA y.fin.yes.args.length d.e.cYA,.int .i64 y.fin.no.block,.slice d.e.pNR y.fin.no.regs.length d.e.cNR,.slice d.e.pNA y.fin.no.args.length d.e.cNA,.slice d.e.pA y.fin.args.length d.e.cA]),(0,.agg #[.int .i64 x.regs,.slice b.pP x.params.length b.cP,.slice b.pC x.code.length b.cC,.int .i64 x.fin.op,.int .i64 x.fin.a,.int .i64 x.fin.yes.block,.slice b.e.pYR x.fin.yes.regs.length b.e.cYR,.slice b.e.pYA x.fin.yes.args.length b.e.cYA,.int .i64 x.fin.no.block,.slice b.e.pNR x.fin.no.regs.length b.e.cNR,.slice b.e.pNA x.fin.no.args.length b.e.cNA,.slice b.e.pA x.fin.args.length b.e.cA]),(2,.pointer (some ⟨B2,0,none⟩)),(3,.pointer (some ⟨B3,0,none⟩)),(4,.bool false),(5,.int .i64 (q:Int))]:=(F.keep (F.keep (F.keep (F.keep (F.keep (F.keep F.nil (t:=5) Z) (t:=4) Z) (t:=3) Z) (t:=2) Z) (t:=0) Z) (t:=1) Z);have cb:ag.tmps.getD 2 undef=.pointer (some ⟨B2,0,none⟩):=F.sl 2 _ Z;have b4:ag.tmps.getD 5 undef=.int .i64 (q:Int):=F.sl 5 _ Z;have b3:ag.tmps.getD 3 undef=.pointer (some ⟨B3,0,none⟩):=F.sl 3 _ Z;refine ZN 12 ([(2,fun v _=>v=.pointer (some ⟨B2,0,none⟩)),(5,fun v _=>v=.int .i64 (q:Int)),(3,fun v _=>v=.pointer (some ⟨B3,0,none⟩)),(35,fun v _=>v=.pointer (some ⟨B2,2,none⟩)),(36,fun v _=>v=.slice b.pC x.code.length b.cC),(37,fun v _=>v=.int .i64 (q:Int)),(38,fun v _=>v=.pointer (some ⟨g1,o1+q*8,none⟩)),(39,fun v _=>v=.agg #[.int .i64 z.op,.int .i64 z.a,.int .i64 z.b,.int .i64 z.c,.int .i64 z.k,.int .i64 z.n,.slice X.pR z.regs.length X.cR,.slice X.pA z.args.length X.cA]),(40,fun v _=>v=.pointer (some ⟨B3,2,none⟩)),(41,fun v _=>v=.slice d.pC y.code.length d.cC),(42,fun v _=>v=.int .i64 (q:Int)),(43,fun v _=>v=.pointer (some ⟨g2,o2+q*8,none⟩)),(44,fun v _=>v=.agg #[.int .i64 u.op,.int .i64 u.a,.int .i64 u.b,.int .i64 u.c,.int .i64 u.k,.int .i64 u.n,.slice W.pR u.regs.length W.cR,.slice W.pA u.args.length W.cA]),(45,fun v _=>v=.bool (bdec (z=u))),(46,fun v _=>v=.bool (!(bdec (z=u))))]:Qb9) (fun w'=>Wd w w' [(B3,#[.int .i64 y.regs,.slice d.pP y.params.length d.cP,.slice d.pC y.code.length d.cC,.int .i64 y.fin.op,.int .i64 y.fin.a,.int .i64 y.fin.yes.block,.slice d.e.pYR y.fin.yes.regs.length d.e.cYR,.slice d.e.pYA y.fin.yes.args.length d.e.cYA,.int .i64 y.fin.no.block,.slice d.e.pNR y.fin.no.regs.length d.e.cNR,.slice d.e.pNA y.fin.no.args.length d.e.cNA,.slice d.e.pA y.fin.args.length d.e.cA],60),(B2,#[.int .i64 x.regs,.slice b.pP x.params.length b.cP,.slice b.pC x.code.length b.cC,.int .i64 x.fin.op,.int .i64 x.fin.a,.int .i64 x.fin.yes.block,.slice b.e.pYR x.fin.yes.regs.length b.e.cYR,.slice b.e.pYA x.fin.yes.args.length b.e.cYA,.int .i64 x.fin.no.block,.slice b.e.pNR x.fin.no.regs.length b.e.cNR,.slice b.e.pNA x.fin.no.args.length b.e.cNA,.slice b.e.pA x.fin.args.length b.e.cA],60)]/\Below bv.heap.size bv w') (fun w w'=>Below w.heap.size w w') (outs:=[2,5,3]) (gs:=[]) (bs:=[true,true,true,true,true,true,true,true,true,true,true,true]) (by kernel_rfl) ak Z (by kernel_rfl) (by kernel_rfl) ?hR ?hG ⟨A.drewN 1,QQ (m:=1) Zr⟩ ⟨cb,b4,b3,Y⟩ ?hA ?hend
  case hR =>
   iterate 15 refine⟨fun _ _ _ _ h=>h,?_⟩
   trivial
  case hG=>exact Y
  case hA =>
   iterate 3
    refine⟨fun a w B T K S=>?_,?_⟩
    ·obtain⟨V,-⟩:=T
     conv at V=>whnf;rhs;whnf
     have u0:w.cell? ⟨B2,2,none⟩=some (.slice b.pC x.code.length b.cC):=Qb (B.1.get 1 Z) 2 _ Z;go_simp;exact S _ _ Zr B Z
   refine⟨fun a w B T K S=>?_,?_⟩
   ·obtain⟨V,k1,-⟩:=T
    conv at V=>whnf;rhs;whnf
    conv at k1=>whnf;rhs;whnf
    have cd:=ao.out;have bw:(0:Int)<=q:=by omega
    have b8:(q:Int)<(x.code.length:Int):=by omega
    go_simp;exact S _ _ Zr B Z
   iterate 4
    refine⟨fun a w B T K S=>?_,?_⟩
    ·obtain⟨V,-⟩:=T
     conv at V=>whnf;rhs;whnf
     have u0:w.cell? ⟨g1,o1+q*8,none⟩=some (.int .i64 z.op):=Qk B.1.bel (E1.out 0 _ Z);have u1:w.cell? ⟨g1,o1+q*8+1,none⟩=some (.int .i64 z.a):=Qk B.1.bel (E1.out 1 _ Z);have u2:w.cell? ⟨g1,o1+q*8+2,none⟩=some (.int .i64 z.b):=Qk B.1.bel (E1.out 2 _ Z);have u3:w.cell? ⟨g1,o1+q*8+3,none⟩=some (.int .i64 z.c):=Qk B.1.bel (E1.out 3 _ Z);have u4:w.cell? ⟨g1,o1+q*8+4,none⟩=some (.int .i64 z.k):=Qk B.1.bel (E1.out 4 _ Z);have u5:w.cell? ⟨g1,o1+q*8+5,none⟩=some (.int .i64 z.n):=Qk B.1.bel (E1.out 5 _ Z);have u6:w.cell? ⟨g1,o1+q*8+6,none⟩=some (.slice X.pR z.regs.length X.cR):=Qk B.1.bel (E1.out 6 _ Z);have u7:w.cell? ⟨g1,o1+q*8+7,none⟩=some (.slice X.pA z.args.length X.cA):=Qk B.1.bel (E1.out 7 _ Z);have u8:w.cell? ⟨B3,2,none⟩=some (.slice d.pC y.code.length d.cC):=Qb (B.1.get 0 Z) 2 _ Z;go_simp;exact S _ _ Zr B Z
   refine⟨fun a w B T K S=>?_,?_⟩
   ·obtain⟨V,k1,-⟩:=T
    conv at V=>whnf;rhs;whnf
    conv at k1=>whnf;rhs;whnf
    have cd:=av.out;have bw:(0:Int)<=q:=by omega
    have b8:(q:Int)<(y.code.length:Int):=by omega
    go_simp;exact S _ _ Zr B Z
   refine⟨fun a w B T K S=>?_,?_⟩
   ·obtain⟨V,-⟩:=T
    conv at V=>whnf;rhs;whnf
    have u0:w.cell? ⟨g2,o2+q*8,none⟩=some (.int .i64 u.op):=Qk B.1.bel (E2.out 0 _ Z);have u1:w.cell? ⟨g2,o2+q*8+1,none⟩=some (.int .i64 u.a):=Qk B.1.bel (E2.out 1 _ Z);have u2:w.cell? ⟨g2,o2+q*8+2,none⟩=some (.int .i64 u.b):=Qk B.1.bel (E2.out 2 _ Z);have u3:w.cell? ⟨g2,o2+q*8+3,none⟩=some (.int .i64 u.c):=Qk B.1.bel (E2.out 3 _ Z);have u4:w.cell? ⟨g2,o2+q*8+4,none⟩=some (.int .i64 u.k):=Qk B.1.bel (E2.out 4 _ Z);have u5:w.cell? ⟨g2,o2+q*8+5,none⟩=some (.int .i64 u.n):=Qk B.1.bel (E2.out 5 _ Z);have u6:w.cell? ⟨g2,o2+q*8+6,none⟩=some (.slice W.pR u.regs.length W.cR):=Qk B.1.bel (E2.out 6 _ Z);have u7:w.cell? ⟨g2,o2+q*8+7,none⟩=some (.slice W.pA u.args.length W.cA):=Qk B.1.bel (E2.out 7 _ Z);go_simp;exact S _ _ Zr B Z
   refine⟨fun a w B T K S=>?_,?_⟩
   ·obtain⟨V,k1,-⟩:=T
    conv at V=>whnf;rhs;whnf
    conv at k1=>whnf;rhs;whnf
    have hC:Rd prog 87 #[.agg #[.int .i64 z.op,.int .i64 z.a,.int .i64 z.b,.int .i64 z.c,.int .i64 z.k,.int .i64 z.n,.slice X.pR z.regs.length X.cR,.slice X.pA z.args.length X.cA],.agg #[.int .i64 u.op,.int .i64 u.a,.int .i64 u.b,.int .i64 u.c,.int .i64 u.k,.int .i64 u.n,.slice W.pR u.regs.length W.cR,.slice W.pA u.args.length W.cA]] w (.bool (bdec (z=u))):=Qga (ar.out.below B.1.bel) (am.out.below B.1.bel) (hs.out.2.2.2 _ (Zm U.out));go_simp;refine hC.mono ?_;rintro e w9 ⟨rfl,l⟩;exact S _ _ l ⟨B.1.below l,Xl B.2 l⟩ Z
   refine⟨fun a w B T K S=>?_,?_⟩
   ·obtain⟨V,-⟩:=T
    conv at V=>whnf;rhs;whnf
    go_simp;exact S _ _ Zr B Z
   trivial
  case hend =>
   intro C bq b7 ay hE az;have ai:bq.tmps.getD 46 undef=.bool (!(bdec (z=u))):=hE 46 Z;have aa:Fr 90 bq [(46,.bool (!(bdec (z=u)))),(1,.agg #[.int .i64 y.regs,.slice d.pP y.params.length d.cP,.slice d.pC y.code.length d.cC,.int .i64 y.fin.op,.int .i64 y.fin.a,.int .i64 y.fin.yes.block,.slice d.e.pYR y.fin.yes.regs.length d.e.cYR,.slice d.e.pYA y.fin.yes.args.length d.e.cYA,.int .i64 y.fin.no.block,.slice d.e.pNR y.fin.no.regs.length d.e.cNR,.slice d.e.pNA y.fin.no.args.length d.e.cNA,.slice d.e.pA y.fin.args.length d.e.cA]),(0,.agg #[.int .i64 x.regs,.slice b.pP x.params.length b.cP,.slice b.pC x.code.length b.cC,.int .i64 x.fin.op,.int .i64 x.fin.a,.int .i64 x.fin.yes.block,.slice b.e.pYR x.fin.yes.regs.length b.e.cYR,.slice b.e.pYA x.fin.yes.args.length b.e.cYA,.int .i64 x.fin.no.block,.slice b.e.pNR x.fin.no.regs.length b.e.cNR,.slice b.e.pNA x.fin.no.args.length b.e.cNA,.slice b.e.pA x.fin.args.length b.e.cA]),(2,.pointer (some ⟨B2,0,none⟩)),(3,.pointer (some ⟨B3,0,none⟩)),(4,.bool false),(5,.int .i64 (q:Int))]:=(az.cons ai);clear ai;have aj:Wd w b7 [(B3,#[.int .i64 y.regs,.slice d.pP y.params.length d.cP,.slice d.pC y.code.length d.cC,.int .i64 y.fin.op,.int .i64 y.fin.a,.int .i64 y.fin.yes.block,.slice d.e.pYR y.fin.yes.regs.length d.e.cYR,.slice d.e.pYA y.fin.yes.args.length d.e.cYA,.int .i64 y.fin.no.block,.slice d.e.pNR y.fin.no.regs.length d.e.cNR,.slice d.e.pNA y.fin.no.args.length d.e.cNA,.slice d.e.pA y.fin.args.length d.e.cA],60),(B2,#[.int .i64 x.regs,.slice b.pP x.params.length b.cP,.slice b.pC x.code.length b.cC,.int .i64 x.fin.op,.int .i64 x.fin.a,.int .i64 x.fin.yes.block,.slice b.e.pYR x.fin.yes.regs.length b.e.cYR,.slice b.e.pYA x.fin.yes.args.length b.e.cYA,.int .i64 x.fin.no.block,.slice b.e.pNR x.fin.no.regs.length b.e.cNR,.slice b.e.pNA x.fin.no.args.length b.e.cNA,.slice b.e.pA x.fin.args.length b.e.cA],60)]:=ay.1;clear az ay hE ak F;clear A;refine wpList_nil <| aw _ _ <| Qt (t:=46) aa Z (fun l=>?_) (fun l=>?_)
   ·have l:(bdec (z=u))=false:=by simpa using l
    have an:¬ (z=u):=fun h=>by rw[Qs h] at l;cases l
    clear l;refine XW fun cz a6=>rg aa fun C=>sa Y Z Z <| Yb fun cp ch=>a6 _ _ ?_
    refine XA ?_;with_reducible repeat first | refine Qd ?_ | refine Qc ?_
    have R:¬ x=y:=by
     intro e;have h1:=U.out;rw[e,ab.out] at h1
     exact an (Xn h1).symm
    exact Ql (t:=4) ch Z Z ⟨by rw[Qh R],aj.bel⟩
   have l:(bdec (z=u))=true:=by simpa using l
   have an:(z=u):=Zj.1 l;clear l;refine XB <| bl _ _ <| rg aa fun C=>sm Y Z Z <| sad (by omega) Y Z Z Z <| sa Y Z Z <| Yb fun cq P=>b5 _ _ (x.code.length - (q+1)) (by omega) ⟨q+1,by omega,Z,?_,(P.keep (P.keep (P.keep (P.keep (P.keep (P.keep P.nil (t:=5) Z) (t:=4) Z) (t:=3) Z) (t:=2) Z) (t:=0) Z) (t:=1) Z),aj⟩
   ·intro j hj
    by_cases e:j=q
    ·subst e;rw[U.out,ab.out,an]
    ·exact al j (by omega)
 have db:q=x.code.length:=by have:=Xw l;omega
 clear l;refine wp_exit <| bh _ _ <| XW fun cm M=>Q5 <| fun C E=>?_
 have D:(C[7]?).bind (fun o:Oper=>o.dst)=some 54:=E 7;have s:(C[16]?).bind (fun o:Oper=>o.dst)=some 63:=E 16;have g:(C[25]?).bind (fun o:Oper=>o.dst)=some 72:=E 25;have f:(C[34]?).bind (fun o:Oper=>o.dst)=some 81:=E 34;clear E;refine St.go F <| sfBlock3 Y Z Z <| sfEnd0 Y Z Z <| Q7 1 A Y Z Z Z Z <| sfBlock3 Y Z Z <| sfEnd0 Y Z Z <| Q7 0 A Y Z Z Z Z <| seq Y Z Z Z <| sm Y Z Z <| fun c6 af=>?_
 rcases Xa (x.fin.op==y.fin.op) with l | l
 ·rw[l] at af
  have G:x.fin.op=y.fin.op:=XD l;have bm:Hid (x.fin.op=y.fin.op):=G;clear G;clear l;refine St.go af <| sfBlock3 ⟨_,D,Z,Z⟩ Z Z <| sfEnd1 ⟨_,D,Z,Z⟩ Z Z <| Q7 1 A ⟨_,D,Z,Z⟩ Z Z Z Z <| sfBlock3 ⟨_,D,Z,Z⟩ Z Z <| sfEnd1 ⟨_,D,Z,Z⟩ Z Z <| Q7 0 A ⟨_,D,Z,Z⟩ Z Z Z Z <| seq ⟨_,D,Z,Z⟩ Z Z Z <| sp Y Z Z Z <| sm Y Z Z <| fun c9 ah=>?_
  rcases Xa (x.fin.a==y.fin.a) with l | l
  ·rw[l] at ah
   have G:x.fin.a=y.fin.a:=XD l;have bj:Hid (x.fin.a=y.fin.a):=G;clear G;clear l;refine St.go ah <| sfBlock3 ⟨_,s,Z,Z⟩ Z Z <| sfEnd2 ⟨_,s,Z,Z⟩ Z Z <| sS 1 3 underlying56 Z infTo A ⟨_,s,Z,Z⟩ Z Z Z Z <| sfBlock3 ⟨_,s,Z,Z⟩ Z Z <| sfEnd2 ⟨_,s,Z,Z⟩ Z Z <| sS 0 3 underlying56 Z infTo A ⟨_,s,Z,Z⟩ Z Z Z Z <| QdF cf88 A (QdU (hx.out.fin.yes.below A.bel) (hy.out.fin.yes.below A.bel) hs.out.2.2.1.1) ⟨_,s,Z,Z⟩ Z Z Z <| fun c5 J=>sp Y Z Z Z <| sm Y Z Z <| fun de ac=>?_
   rcases Xa (bdec (x.fin.yes=y.fin.yes)) with l | l
   ·rw[l] at ac
    have a1:(x.fin.yes=y.fin.yes):=Zj.1 l;clear l;refine St.go ac <| sfBlock3 ⟨_,g,Z,Z⟩ Z Z <| sfEnd3 ⟨_,g,Z,Z⟩ Z Z <| sS 1 3 underlying56 Z infTo J ⟨_,g,Z,Z⟩ Z Z Z Z <| sfBlock3 ⟨_,g,Z,Z⟩ Z Z <| sfEnd3 ⟨_,g,Z,Z⟩ Z Z <| sS 0 3 underlying56 Z infTo J ⟨_,g,Z,Z⟩ Z Z Z Z <| QdF cf88 J (QdU (hx.out.fin.no.below J.bel) (hy.out.fin.no.below J.bel) hs.out.2.2.1.2.1) ⟨_,g,Z,Z⟩ Z Z Z <| fun bz I=>sp Y Z Z Z <| sm Y Z Z <| fun cx ad=>?_
    rcases Xa (bdec (x.fin.no=y.fin.no)) with l | l
    ·rw[l] at ad
     have bc:(x.fin.no=y.fin.no):=Zj.1 l;clear l;refine St.go ad <| sfBlock3 ⟨_,f,Z,Z⟩ Z Z <| sfEnd4 ⟨_,f,Z,Z⟩ Z Z <| Qat 1 I ⟨_,f,Z,Z⟩ Z Z Z Z <| sfBlock3 ⟨_,f,Z,Z⟩ Z Z <| sfEnd4 ⟨_,f,Z,Z⟩ Z Z <| Qat 0 I ⟨_,f,Z,Z⟩ Z Z Z Z ?_
     refine QdF cf14 I (Qai x.fin.args y.fin.args b.e.pA d.e.pA b.e.cA d.e.cA bz (Ya hx.out.fin.args I.bel) (Ya hy.out.fin.args I.bel) (by have:=hs.out.2.2.1.2.2;omega)) ⟨_,f,Z,Z⟩ Z Z Z ?_;clear I;intro cr a5;refine sp Y Z Z Z <| sa Y Z Z <| Yb fun cj cf=>M _ _ ?_
     refine XA ?_;with_reducible repeat first | refine Qd ?_ | refine Qc ?_
     have RC:x.code=y.code:=by
      have:=Q.out
      refine List.ext_getElem? fun i=>?_;by_cases hi:i<q
      ·exact al i hi
      ·rw[Xk (by omega),Xk (by omega)]
     have R:x.fin.args=y.fin.args↔x=y:=⟨fun h=>Qe.eq_of a2.out ax RC (MEnd.eq_of bm.out bj.out a1 bc h),fun e=>by rw[e]⟩;exact Ql (t:=4) cf Z Z ⟨by rw[Qbu R],a5.bel⟩
    rw[l] at ad
    have bn:¬ (x.fin.no=y.fin.no):=fun h=>by rw[Qs h] at l;cases l
    clear l;refine St.go ad <| so f Z Z Z Z <| so f Z Z Z Z <| so f Z Z Z Z <| so f Z Z Z Z <| so f Z Z Z Z <| so f Z Z Z Z <| so f Z Z Z Z <| spf Y Z Z Z <| sa Y Z Z <| Yb fun da bx=>M _ _ ?_
    refine XA ?_;with_reducible repeat first | refine Qd ?_ | refine Qc ?_
    have R:¬ x=y:=fun e=>bn (by rw[e]);exact Ql (t:=4) bx Z Z ⟨by rw[Qh R],I.bel⟩
   rw[l] at ac
   have bf:¬ (x.fin.yes=y.fin.yes):=fun h=>by rw[Qs h] at l;cases l
   clear l;refine St.go ac <| so g Z Z Z Z <| so g Z Z Z Z <| so g Z Z Z Z <| so g Z Z Z Z <| so g Z Z Z Z <| so g Z Z Z Z <| so g Z Z Z Z <| spf Y Z Z Z <| sm Y Z Z <| so f Z Z Z Z <| so f Z Z Z Z <| so f Z Z Z Z <| so f Z Z Z Z <| so f Z Z Z Z <| so f Z Z Z Z <| so f Z Z Z Z <| spf Y Z Z Z <| sa Y Z Z <| Yb fun dh b0=>M _ _ ?_
   refine XA ?_;with_reducible repeat first | refine Qd ?_ | refine Qc ?_
   have R:¬ x=y:=fun e=>bf (by rw[e]);exact Ql (t:=4) b0 Z Z ⟨by rw[Qh R],J.bel⟩
  rw[l] at ah
  have G:¬ x.fin.a=y.fin.a:=XE l;have bb:¬ x.fin.a=y.fin.a:=G;clear G;clear l;refine St.go ah <| so s Z Z Z Z <| so s Z Z Z Z <| so s Z Z Z Z <| so s Z Z Z Z <| so s Z Z Z Z <| so s Z Z Z Z <| so s Z Z Z Z <| spf Y Z Z Z <| sm Y Z Z <| so g Z Z Z Z <| so g Z Z Z Z <| so g Z Z Z Z <| so g Z Z Z Z <| so g Z Z Z Z <| so g Z Z Z Z <| so g Z Z Z Z <| spf Y Z Z Z <| sm Y Z Z <| so f Z Z Z Z <| so f Z Z Z Z <| so f Z Z Z Z <| so f Z Z Z Z <| so f Z Z Z Z <| so f Z Z Z Z <| so f Z Z Z Z <| spf Y Z Z Z <| sa Y Z Z <| Yb fun cn cg=>M _ _ ?_
  refine XA ?_;with_reducible repeat first | refine Qd ?_ | refine Qc ?_
  have R:¬ x=y:=fun e=>bb (by rw[e]);exact Ql (t:=4) cg Z Z ⟨by rw[Qh R],A.bel⟩
 rw[l] at af
 have G:¬ x.fin.op=y.fin.op:=XE l;have bd:¬ x.fin.op=y.fin.op:=G;clear G;clear l;refine St.go af <| so D Z Z Z Z <| so D Z Z Z Z <| so D Z Z Z Z <| so D Z Z Z Z <| so D Z Z Z Z <| so D Z Z Z Z <| so D Z Z Z Z <| spf Y Z Z Z <| sm Y Z Z <| so s Z Z Z Z <| so s Z Z Z Z <| so s Z Z Z Z <| so s Z Z Z Z <| so s Z Z Z Z <| so s Z Z Z Z <| so s Z Z Z Z <| spf Y Z Z Z <| sm Y Z Z <| so g Z Z Z Z <| so g Z Z Z Z <| so g Z Z Z Z <| so g Z Z Z Z <| so g Z Z Z Z <| so g Z Z Z Z <| so g Z Z Z Z <| spf Y Z Z Z <| sm Y Z Z <| so f Z Z Z Z <| so f Z Z Z Z <| so f Z Z Z Z <| so f Z Z Z Z <| so f Z Z Z Z <| so f Z Z Z Z <| so f Z Z Z Z <| spf Y Z Z Z <| sa Y Z Z <| Yb fun cv b6=>M _ _ ?_
 refine XA ?_;with_reducible repeat first | refine Qd ?_ | refine Qc ?_
 have R:¬ x=y:=fun e=>bd (by rw[e]);exact Ql (t:=4) b6 Z Z ⟨by rw[Qh R],A.bel⟩
theorem QdM {m k:List (Qf n)}{p2:Option Addr}(cc:(QaH n).In w All m [.slice p m.length c]) (aq:(QaH n).In w All k [.slice p2 k.length d]) (b0:Qa7 m) :
 Rd prog 19 #[.agg #[.slice p m.length c],.agg #[.slice p2 k.length d]] w (.bool (bdec (m=k))):=by
 have hm:Hid _:=cc;have hk:Hid _:=aq;have hs:Hid _:=b0;have M:=b0.1;clear cc aq b0;refine Qv (n:=82) func19 Z Z Z <| fun a hF=>?_
 have F:=Ye w;replace hF:Fr 82 a [(0,.agg #[.slice p m.length c]),(1,.agg #[.slice p2 k.length d])]:=hF;refine XW fun K1 dv=>rg hF fun L=>sB F Y Z Z <| fun w2 B2 df hN=>sB df Y Z Z <| fun w3 B3 a3 hN=>sa Y Z Z <| Yb fun a4 h4=>dv _ _ <| XW fun K5 dn=>XW fun K6 de=>rg h4 fun L=>sfModule0 Y Z Z <| Qbc 1 a3 Y Z Z Z Z <| QaG Y Z Z <| sfModule0 Y Z Z <| Qbc 0 a3 Y Z Z Z Z <| QaG Y Z Z <| sne Y Z Z Z <| Yb fun a7 h7=>de _ _ <| Qt (t:=15) h7 Z (fun f=>?_) (fun f=>?_)
 ·have h9:¬ m.length=k.length:=by have h8:=bne_iff_ne.1 f;omega
  have al:¬ m.length=k.length:=h9;clear h9;clear f;refine XW fun K8 dt=>rg h7 fun L=>sa Y Z Z <| Yb fun a9 h9=>dt _ _ ?_
  refine XA ?_;with_reducible repeat first | refine Qd ?_ | refine Qc ?_
  have R:¬ m=k:=fun e=>al (by rw[e]);exact Ql (t:=4) h9 Z Z ⟨by rw[Qh R],a3.bel⟩
 have h9:m.length=k.length:=by have h8:=XH.1 f;omega
 have al:Hid (m.length=k.length):=h9;clear h9;clear f;refine XB <| dn _ _ <| XW fun e2 cy=>XW fun ey c4=>rg h7 fun L=>sa Y Z Z <| Yb fun fb ai=>c4 _ _ <| XJ <| ZL (fun r a w'=>∃ q:Nat,q<=m.length/\r=m.length - q/\(∀ j,j<q->m[j]?=k[j]?)/\Fr 82 a [(1,.agg #[.slice p2 k.length d]),(0,.agg #[.slice p m.length c]),(2,.pointer (some ⟨B2,0,none⟩)),(3,.pointer (some ⟨B3,0,none⟩)),(4,.bool false),(5,.int .i64 (q:Int))]/\Wd w w' [(B3,#[.slice p2 k.length d],24),(B2,#[.slice p m.length c],24)]) (m.length) ⟨0,Xb _,Z,(fun j hj=>by omega),(ai.keep (ai.keep (ai.keep (ai.keep (ai.keep (ai.keep ai.nil (t:=5) Z) (t:=4) Z) (t:=3) Z) (t:=2) Z) (t:=0) Z) (t:=1) Z),a3⟩ ?_
 clear ai a3;rintro r ex e7 ⟨q,hq,hr,bi,b5,E⟩ KL dc;refine XW fun eb c3=>XW fun d5 cu=>rg b5 fun L=>sm Y Z Z <| sfModule0 Y Z Z <| Qbc 1 E Y Z Z Z Z <| QaG Y Z Z <| slt Y Z Z Z <| Yb fun a8 ab=>cu _ _ <| Qt (t:=20) ab Z (fun f=>?_) (fun f=>?_)
 ·have cd:q<m.length:=by have:=Xv f;omega
  have cs:q<k.length:=by have:=al.out;omega
  clear f;obtain⟨x,ae⟩:∃ v9,(m)[q]?=some v9:=⟨_,Zg cd⟩
  obtain⟨g1,o1,C,br,E1,ay⟩:=Qbk hm.out ae
  replace ay:Hid _:=ay;replace br:Hid _:=br;replace ae:Hid _:=ae;replace E1:Hid _:=E1;obtain⟨y,ah⟩:∃ v9,(k)[q]?=some v9:=⟨_,Zg cs⟩
  obtain⟨g2,o2,A,b1,E2,av⟩:=Qbk hk.out ah
  replace av:Hid _:=av;replace b1:Hid _:=b1;replace ah:Hid _:=ah;replace E2:Hid _:=E2;have bc:Hid _:=hs.out.2 x (Zm ae.out);have e0:=bc.out.1;refine XB <| c3 _ _ <| XW fun e4 c1=>XJ <| XW fun e9 cp=>?_
  have c6:Fr 82 a8 [(1,.agg #[.slice p2 k.length d]),(0,.agg #[.slice p m.length c]),(2,.pointer (some ⟨B2,0,none⟩)),(3,.pointer (some ⟨B3,0,none⟩)),(4,.bool false),(5,.int .i64 (q:Int))]:=(ab.keep (ab.keep (ab.keep (ab.keep (ab.keep (ab.keep ab.nil (t:=5) Z) (t:=4) Z) (t:=3) Z) (t:=2) Z) (t:=0) Z) (t:=1) Z);have dg:a8.tmps.getD 2 undef=.pointer (some ⟨B2,0,none⟩):=ab.sl 2 _ Z;have cf:a8.tmps.getD 5 undef=.int .i64 (q:Int):=ab.sl 5 _ Z;have c9:a8.tmps.getD 3 undef=.pointer (some ⟨B3,0,none⟩):=ab.sl 3 _ Z;refine Qi1 [(0,23),(1,24),(2,25),(3,26),(4,27),(5,28),(6,29),(7,30),(8,31),(9,32)] [(10,6,4,40),(11,7,4,40)] [(12,6,4,40),(13,7,4,40)] [(23,.pointer (some ⟨B2,0,none⟩)),(24,.slice p m.length c),(25,.int .i64 (q:Int)),(26,.pointer (some ⟨g1,o1+q*4,none⟩)),(27,.agg #[.int .i64 x.regs,.slice C.pP x.params.length C.cP,.slice C.pR x.results.length C.cR,.slice C.pB x.blocks.length C.cB]),(28,.pointer (some ⟨B3,0,none⟩)),(29,.slice p2 k.length d),(30,.int .i64 (q:Int)),(31,.pointer (some ⟨g2,o2+q*4,none⟩)),(32,.agg #[.int .i64 y.regs,.slice A.pP y.params.length A.cP,.slice A.pR y.results.length A.cR,.slice A.pB y.blocks.length A.cB])] [(6,[.int .i64 x.regs,.slice C.pP x.params.length C.cP,.slice C.pR x.results.length C.cR,.slice C.pB x.blocks.length C.cB]),(7,[.int .i64 y.regs,.slice A.pP y.params.length A.cP,.slice A.pR y.results.length A.cR,.slice A.pB y.blocks.length A.cB])] (by kernel_rfl) c6 (by kernel_rfl) (by kernel_rfl) (fun P=>?hst) ?hend
  case hst =>
   refine⟨fun S Q w1 N W M l K I=>?_,?_⟩
   ·have J:=E.below l.bel;have V:Q.tmps.getD 2 undef=.pointer (some ⟨B2,0,none⟩):=(l.outer 2 (by kernel_rfl)).trans dg;go_simp;exact I _ _ (DI.pure P l (i:=0) (t:=23) (by decide) Z N Zr (by kernel_rfl) (by kernel_rfl))
   refine⟨fun S Q w1 N W M l K I=>?_,?_⟩
   ·have J:=E.below l.bel;have V:Q.tmps.getD 23 undef=.pointer (some ⟨B2,0,none⟩):=l.vals (0,23) (by decide) (W.at 0 (by kernel_rfl)) _ Z;have c0:w1.cell? ⟨B2,0,none⟩=some (.slice p m.length c):=Qb (J.get 1 Z) 0 _ Z;go_simp;exact I _ _ (DI.pure P l (i:=1) (t:=24) (by decide) Z N Zr (by kernel_rfl) (by kernel_rfl))
   refine⟨fun S Q w1 N W M l K I=>?_,?_⟩
   ·have J:=E.below l.bel;have V:Q.tmps.getD 5 undef=.int .i64 (q:Int):=(l.outer 5 (by kernel_rfl)).trans cf;go_simp;exact I _ _ (DI.pure P l (i:=2) (t:=25) (by decide) Z N Zr (by kernel_rfl) (by kernel_rfl))
   refine⟨fun S Q w1 N W M l K I=>?_,?_⟩
   ·have J:=E.below l.bel;have V:Q.tmps.getD 24 undef=.slice p m.length c:=l.vals (1,24) (by decide) (W.at 1 (by kernel_rfl)) _ Z;have k1:Q.tmps.getD 25 undef=.int .i64 (q:Int):=l.vals (2,25) (by decide) (W.at 2 (by kernel_rfl)) _ Z;have bw:=br.out;have aq:(0:Int)<=q:=by omega
    have bu:(q:Int)<(m.length:Int):=by omega
    go_simp;exact I _ _ (DI.pure P l (i:=3) (t:=26) (by decide) Z N Zr (by kernel_rfl) (by kernel_rfl))
   refine⟨fun S Q w1 N W M l K I=>?_,?_⟩
   ·have J:=E.below l.bel;have V:Q.tmps.getD 26 undef=.pointer (some ⟨g1,o1+q*4,none⟩):=l.vals (3,26) (by decide) (W.at 3 (by kernel_rfl)) _ Z;have d0:w1.cell? ⟨g1,o1+q*4,none⟩=some (.int .i64 x.regs):=Qk J.bel (E1.out 0 _ Z);have d1:w1.cell? ⟨g1,o1+q*4+1,none⟩=some (.slice C.pP x.params.length C.cP):=Qk J.bel (E1.out 1 _ Z);have d2:w1.cell? ⟨g1,o1+q*4+2,none⟩=some (.slice C.pR x.results.length C.cR):=Qk J.bel (E1.out 2 _ Z);have d3:w1.cell? ⟨g1,o1+q*4+3,none⟩=some (.slice C.pB x.blocks.length C.cB):=Qk J.bel (E1.out 3 _ Z);go_simp;exact I _ _ (DI.pure P l (i:=4) (t:=27) (by decide) Z N Zr (by kernel_rfl) (by kernel_rfl))
   refine⟨fun S Q w1 N W M l K I=>?_,?_⟩
   ·have J:=E.below l.bel;have V:Q.tmps.getD 3 undef=.pointer (some ⟨B3,0,none⟩):=(l.outer 3 (by kernel_rfl)).trans c9;go_simp;exact I _ _ (DI.pure P l (i:=5) (t:=28) (by decide) Z N Zr (by kernel_rfl) (by kernel_rfl))
   refine⟨fun S Q w1 N W M l K I=>?_,?_⟩
   ·have J:=E.below l.bel;have V:Q.tmps.getD 28 undef=.pointer (some ⟨B3,0,none⟩):=l.vals (5,28) (by decide) (W.at 5 (by kernel_rfl)) _ Z;have c0:w1.cell? ⟨B3,0,none⟩=some (.slice p2 k.length d):=Qb (J.get 0 Z) 0 _ Z;go_simp;exact I _ _ (DI.pure P l (i:=6) (t:=29) (by decide) Z N Zr (by kernel_rfl) (by kernel_rfl))
   refine⟨fun S Q w1 N W M l K I=>?_,?_⟩
   ·have J:=E.below l.bel;have V:Q.tmps.getD 5 undef=.int .i64 (q:Int):=(l.outer 5 (by kernel_rfl)).trans cf;go_simp;exact I _ _ (DI.pure P l (i:=7) (t:=30) (by decide) Z N Zr (by kernel_rfl) (by kernel_rfl))
   refine⟨fun S Q w1 N W M l K I=>?_,?_⟩
   ·have J:=E.below l.bel;have V:Q.tmps.getD 29 undef=.slice p2 k.length d:=l.vals (6,29) (by decide) (W.at 6 (by kernel_rfl)) _ Z;have k1:Q.tmps.getD 30 undef=.int .i64 (q:Int):=l.vals (7,30) (by decide) (W.at 7 (by kernel_rfl)) _ Z;have bw:=b1.out;have aq:(0:Int)<=q:=by omega
    have bu:(q:Int)<(k.length:Int):=by omega
    go_simp;exact I _ _ (DI.pure P l (i:=8) (t:=31) (by decide) Z N Zr (by kernel_rfl) (by kernel_rfl))
   refine⟨fun S Q w1 N W M l K I=>?_,?_⟩
   ·have J:=E.below l.bel;have V:Q.tmps.getD 31 undef=.pointer (some ⟨g2,o2+q*4,none⟩):=l.vals (8,31) (by decide) (W.at 8 (by kernel_rfl)) _ Z;have d0:w1.cell? ⟨g2,o2+q*4,none⟩=some (.int .i64 y.regs):=Qk J.bel (E2.out 0 _ Z);have d1:w1.cell? ⟨g2,o2+q*4+1,none⟩=some (.slice A.pP y.params.length A.cP):=Qk J.bel (E2.out 1 _ Z);have d2:w1.cell? ⟨g2,o2+q*4+2,none⟩=some (.slice A.pR y.results.length A.cR):=Qk J.bel (E2.out 2 _ Z);have d3:w1.cell? ⟨g2,o2+q*4+3,none⟩=some (.slice A.pB y.blocks.length A.cB):=Qk J.bel (E2.out 3 _ Z);go_simp;exact I _ _ (DI.pure P l (i:=9) (t:=32) (by decide) Z N Zr (by kernel_rfl) (by kernel_rfl))
   refine⟨fun S Q w1 N W M l K I=>?_,?_⟩
   ·go_simp;exact I _ _ (DI.alloc P l (i:=10) (t:=6) (s:=4) (ty:=40) (by decide) Z N M (by kernel_rfl) (by kernel_rfl))
   refine⟨fun S Q w1 N W M l K I=>?_,?_⟩
   ·go_simp;exact I _ _ (DI.alloc P l (i:=11) (t:=7) (s:=4) (ty:=40) (by decide) Z N M (by kernel_rfl) (by kernel_rfl))
   refine⟨fun S Q w1 N W M l K I=>?_,?_⟩
   ·have V:Q.tmps.getD 27 undef=.agg #[.int .i64 x.regs,.slice C.pP x.params.length C.cP,.slice C.pR x.results.length C.cR,.slice C.pB x.blocks.length C.cB]:=l.vals (4,27) (by decide) (W.at 4 (by kernel_rfl)) _ Z;obtain⟨B,kB,bv,c0,ax,a0⟩:=l.box (i:=10) (t:=6) (s:=4) (ty:=40) (by decide) (W.at 10 (by kernel_rfl))
    exact QdA ax kB V infFunc Z a0.symm (I _ _ (DI.store P l (i:=12) (t:=6) (s:=4) (ty:=40) (j:=10) (by decide) (by decide) (W.at 10 (by kernel_rfl)) kB ax a0 bv Z Z N M (by kernel_rfl) (by kernel_rfl)))
   refine⟨fun S Q w1 N W M l K I=>?_,?_⟩
   ·have V:Q.tmps.getD 32 undef=.agg #[.int .i64 y.regs,.slice A.pP y.params.length A.cP,.slice A.pR y.results.length A.cR,.slice A.pB y.blocks.length A.cB]:=l.vals (9,32) (by decide) (W.at 9 (by kernel_rfl)) _ Z;obtain⟨B,kB,bv,c0,ax,a0⟩:=l.box (i:=11) (t:=7) (s:=4) (ty:=40) (by decide) (W.at 11 (by kernel_rfl))
    exact QdA ax kB V infFunc Z a0.symm (I _ _ (DI.store P l (i:=13) (t:=7) (s:=4) (ty:=40) (j:=11) (by decide) (by decide) (W.at 11 (by kernel_rfl)) kB ax a0 bv Z Z N M (by kernel_rfl) (by kernel_rfl)))
   trivial
  case hend =>
   intro S dh dl N hD au;obtain⟨T,bn,bg,bj⟩:=hD.full (j:=10) (i:=12) (t:=6) (s:=4) (ty:=40) (by decide) (N _ (by decide)) (by decide) (N _ (by decide)) Z
   obtain⟨U,bo,bk,bh⟩:=hD.full (j:=11) (i:=13) (t:=7) (s:=4) (ty:=40) (by decide) (N _ (by decide)) (by decide) (N _ (by decide)) Z
   have ck:Fr 82 dh [(7,.pointer (some ⟨U,0,none⟩)),(6,.pointer (some ⟨T,0,none⟩)),(1,.agg #[.slice p2 k.length d]),(0,.agg #[.slice p m.length c]),(2,.pointer (some ⟨B2,0,none⟩)),(3,.pointer (some ⟨B3,0,none⟩)),(4,.bool false),(5,.int .i64 (q:Int))]:=((au.cons bn).cons bo);have c7:T≠U:=fun e=>hD.ne (10,6,4,40) (by decide) (11,7,4,40) (by decide) (by decide) (N _ (by decide)) (N _ (by decide)) (by rw[bn,bo,e]);have X:Wd w dl [(T,#[.int .i64 x.regs,.slice C.pP x.params.length C.cP,.slice C.pR x.results.length C.cR,.slice C.pB x.blocks.length C.cB],40),(U,#[.int .i64 y.regs,.slice A.pP y.params.length A.cP,.slice A.pR y.results.length A.cR,.slice A.pB y.blocks.length A.cB],40),(B3,#[.slice p2 k.length d],24),(B2,#[.slice p m.length c],24)]:=Wd.add2 (E.below hD.bel) E bj bh c7 bg bk;clear N hD au c7 E bn bo;clear bg bj bk bh;refine cp _ _ <| XW fun em c2=>XW fun ei an=>Q5 <| fun L ao=>?_
   have aa:(L[5]?).bind (fun o:Oper=>o.dst)=some 38:=ao 5;have g:(L[13]?).bind (fun o:Oper=>o.dst)=some 46:=ao 13;have b:(L[21]?).bind (fun o:Oper=>o.dst)=some 54:=ao 21;clear ao;refine St.go ck <| sfFunc0 Y Z Z <| Q7 0 X Y Z Z Z Z <| sfFunc0 Y Z Z <| Q7 1 X Y Z Z Z Z <| sne Y Z Z Z <| sm Y Z Z <| fun e1 ba=>?_
   rcases Xa (x.regs != y.regs) with f | f
   ·rw[f] at ba
    have h9:¬ x.regs=y.regs:=bne_iff_ne.1 f;have cw:¬ x.regs=y.regs:=h9;clear h9;clear f;refine St.go ba <| so aa Z Z Z Z <| so aa Z Z Z Z <| so aa Z Z Z Z <| so aa Z Z Z Z <| so aa Z Z Z Z <| so aa Z Z Z Z <| sp Y Z Z Z <| sm Y Z Z <| so g Z Z Z Z <| so g Z Z Z Z <| so g Z Z Z Z <| so g Z Z Z Z <| so g Z Z Z Z <| so g Z Z Z Z <| sp Y Z Z Z <| sm Y Z Z <| so b Z Z Z Z <| so b Z Z Z Z <| so b Z Z Z Z <| so b Z Z Z Z <| so b Z Z Z Z <| so b Z Z Z Z <| so b Z Z Z Z <| sp Y Z Z Z <| Yb fun ef cn=>an _ _ <| Qab (t:=62) cn Z <| XW fun fc ce=>rg cn fun L=>sa Y Z Z <| Yb fun es dp=>ce _ _ ?_
    refine XA ?_;with_reducible repeat first | refine Qd ?_ | refine Qc ?_
    have RX:¬ x=y:=by
     intro e
     first
      | exact ak (by rw[e])
      | exact cw (by rw[e])
    have R:¬ m=k:=by
     intro e;have h1:=ae.out;rw[e,ah.out] at h1
     exact RX (Xn h1).symm
    exact Ql (t:=4) dp Z Z ⟨by rw[Qh R],X.bel⟩
   rw[f] at ba
   have h9:x.regs=y.regs:=XH.1 f;have ap:Hid (x.regs=y.regs):=h9;clear h9;clear f;refine St.go ba <| sfFunc1 ⟨_,aa,Z,Z⟩ Z Z <| ZW 0 X ⟨_,aa,Z,Z⟩ Z Z Z Z <| sfFunc1 ⟨_,aa,Z,Z⟩ Z Z <| ZW 1 X ⟨_,aa,Z,Z⟩ Z Z Z Z <| QdF cf13 X (Qam (Ya ay.out.params X.bel) (Ya av.out.params X.bel) bc.out.2.1) ⟨_,aa,Z,Z⟩ Z Z Z <| fun ea af=>sn ⟨_,aa,Z,Z⟩ Z Z <| spf Y Z Z Z <| sm Y Z Z <| fun ej a5=>?_
   rcases Xa (!(bdec (x.params=y.params))) with f | f
   ·rw[f] at a5
    have f:(bdec (x.params=y.params))=false:=by simpa using f
    have cq:¬ (x.params=y.params):=fun h=>by rw[Qs h] at f;cases f
    clear f;refine St.go a5 <| so g Z Z Z Z <| so g Z Z Z Z <| so g Z Z Z Z <| so g Z Z Z Z <| so g Z Z Z Z <| so g Z Z Z Z <| sp Y Z Z Z <| sm Y Z Z <| so b Z Z Z Z <| so b Z Z Z Z <| so b Z Z Z Z <| so b Z Z Z Z <| so b Z Z Z Z <| so b Z Z Z Z <| so b Z Z Z Z <| sp Y Z Z Z <| Yb fun e8 cr=>an _ _ <| Qab (t:=62) cr Z <| XW fun ek cz=>rg cr fun L=>sa Y Z Z <| Yb fun er dj=>cz _ _ ?_
    refine XA ?_;with_reducible repeat first | refine Qd ?_ | refine Qc ?_
    have RX:¬ x=y:=by
     intro e
     first
      | exact ak (by rw[e])
      | exact cq (by rw[e])
      | exact ap (by rw[e])
    have R:¬ m=k:=by
     intro e;have h1:=ae.out;rw[e,ah.out] at h1
     exact RX (Xn h1).symm
    exact Ql (t:=4) dj Z Z ⟨by rw[Qh R],af.bel⟩
   rw[f] at a5
   have f:(bdec (x.params=y.params))=true:=by simpa using f
   have a2:(x.params=y.params):=Zj.1 f;clear f;refine St.go a5 <| sfFunc2 ⟨_,g,Z,Z⟩ Z Z <| ZW 0 af ⟨_,g,Z,Z⟩ Z Z Z Z <| sfFunc2 ⟨_,g,Z,Z⟩ Z Z <| ZW 1 af ⟨_,g,Z,Z⟩ Z Z Z Z <| QdF cf13 af (Qam (Ya ay.out.results af.bel) (Ya av.out.results af.bel) bc.out.2.2.1) ⟨_,g,Z,Z⟩ Z Z Z <| fun e5 ag=>sn ⟨_,g,Z,Z⟩ Z Z <| spf Y Z Z Z <| sm Y Z Z <| fun d6 a6=>?_
   rcases Xa (!(bdec (x.results=y.results))) with f | f
   ·rw[f] at a6
    have f:(bdec (x.results=y.results))=false:=by simpa using f
    have b7:¬ (x.results=y.results):=fun h=>by rw[Qs h] at f;cases f
    clear f;refine St.go a6 <| so b Z Z Z Z <| so b Z Z Z Z <| so b Z Z Z Z <| so b Z Z Z Z <| so b Z Z Z Z <| so b Z Z Z Z <| so b Z Z Z Z <| sp Y Z Z Z <| Yb fun ee cb=>an _ _ <| Qab (t:=62) cb Z <| XW fun ew ct=>rg cb fun L=>sa Y Z Z <| Yb fun ec da=>ct _ _ ?_
    refine XA ?_;with_reducible repeat first | refine Qd ?_ | refine Qc ?_
    have RX:¬ x=y:=by
     intro e
     first
      | exact ak (by rw[e])
      | exact b7 (by rw[e])
      | exact a2 (by rw[e])
      | exact ap (by rw[e])
    have R:¬ m=k:=by
     intro e;have h1:=ae.out;rw[e,ah.out] at h1
     exact RX (Xn h1).symm
    exact Ql (t:=4) da Z Z ⟨by rw[Qh R],ag.bel⟩
   rw[f] at a6
   have f:(bdec (x.results=y.results))=true:=by simpa using f
   have be:(x.results=y.results):=Zj.1 f;clear f;refine St.go a6 <| sfFunc3 ⟨_,b,Z,Z⟩ Z Z <| Qcf 0 ag ⟨_,b,Z,Z⟩ Z Z Z Z <| QaW ⟨_,b,Z,Z⟩ Z Z <| sfFunc3 ⟨_,b,Z,Z⟩ Z Z <| Qcf 1 ag ⟨_,b,Z,Z⟩ Z Z Z Z <| QaW ⟨_,b,Z,Z⟩ Z Z <| sne ⟨_,b,Z,Z⟩ Z Z Z <| spf Y Z Z Z <| Yb fun e6 bq=>an _ _ <| Qt (t:=62) bq Z (fun f=>?_) (fun f=>?_)
   ·have h9:¬ x.blocks.length=y.blocks.length:=by have h8:=bne_iff_ne.1 f;omega
    have ak:¬ x.blocks.length=y.blocks.length:=h9;clear h9;clear f;refine XW fun ed b8=>rg bq fun L=>sa Y Z Z <| Yb fun d4 du=>b8 _ _ ?_
    refine XA ?_;with_reducible repeat first | refine Qd ?_ | refine Qc ?_
    have RX:¬ x=y:=by
     intro e
     first
      | exact ak (by rw[e])
      | exact be (by rw[e])
      | exact a2 (by rw[e])
      | exact ap (by rw[e])
    have R:¬ m=k:=by
     intro e;have h1:=ae.out;rw[e,ah.out] at h1
     exact RX (Xn h1).symm
    exact Ql (t:=4) du Z Z ⟨by rw[Qh R],ag.bel⟩
   have h9:x.blocks.length=y.blocks.length:=by have h8:=XH.1 f;omega
   have ak:Hid (x.blocks.length=y.blocks.length):=h9;clear h9;clear f;refine XB <| c2 _ _ <| XW fun dz c8=>rg bq fun L=>sa Y Z Z <| Yb fun eg ac=>c8 _ _ <| XJ <| ZL (fun r a w'=>∃ D:Nat,D<=x.blocks.length/\r=x.blocks.length - D/\(∀ j,j<D->x.blocks[j]?=y.blocks[j]?)/\Fr 82 a [(1,.agg #[.slice p2 k.length d]),(0,.agg #[.slice p m.length c]),(2,.pointer (some ⟨B2,0,none⟩)),(3,.pointer (some ⟨B3,0,none⟩)),(4,.bool false),(5,.int .i64 (q:Int)),(6,.pointer (some ⟨T,0,none⟩)),(7,.pointer (some ⟨U,0,none⟩)),(8,.int .i64 (D:Int))]/\Wd w w' [(T,#[.int .i64 x.regs,.slice C.pP x.params.length C.cP,.slice C.pR x.results.length C.cR,.slice C.pB x.blocks.length C.cB],40),(U,#[.int .i64 y.regs,.slice A.pP y.params.length A.cP,.slice A.pR y.results.length A.cR,.slice A.pB y.blocks.length A.cB],40),(B3,#[.slice p2 k.length d],24),(B2,#[.slice p m.length c],24)]) (x.blocks.length) ⟨0,Xb _,Z,(fun j hj=>by omega),(ac.keep (ac.keep (ac.keep (ac.keep (ac.keep (ac.keep (ac.keep (ac.keep (ac.keep ac.nil (t:=8) Z) (t:=7) Z) (t:=6) Z) (t:=5) Z) (t:=4) Z) (t:=3) Z) (t:=2) Z) (t:=0) Z) (t:=1) Z),ag⟩ ?_
   clear ac ag;rintro rb en cg ⟨D,eu,ev,bm,ci,am⟩ d9 c5;refine XW fun fa cx=>XW fun et cv=>rg ci fun L=>sm Y Z Z <| sfFunc3 Y Z Z <| Qcf 0 am Y Z Z Z Z <| QaW Y Z Z <| slt Y Z Z Z <| Yb fun bb O=>cv _ _ <| Qt (t:=67) O Z (fun f=>?_) (fun f=>?_)
   ·have co:D<x.blocks.length:=by have:=Xv f;omega
    have cl:D<y.blocks.length:=by have:=ak.out;omega
    clear f;obtain⟨z,ar⟩:∃ v9,(x.blocks)[D]?=some v9:=⟨_,Zg co⟩
    obtain⟨g3,o3,G,bx,E3,b2⟩:=Qa6 ay.out.blocks ar
    replace b2:Hid _:=b2;replace bx:Hid _:=bx;replace ar:Hid _:=ar;replace E3:Hid _:=E3;obtain⟨u,az⟩:∃ v9,(y.blocks)[D]?=some v9:=⟨_,Zg cl⟩
    obtain⟨g4,o4,H,bz,E4,bt⟩:=Qa6 av.out.blocks az
    replace bt:Hid _:=bt;replace bz:Hid _:=bz;replace az:Hid _:=az;replace E4:Hid _:=E4;refine XB <| cx _ _ <| XW fun eo b6=>XJ <| XW fun el cm=>?_
    have bl:Fr 82 bb [(1,.agg #[.slice p2 k.length d]),(0,.agg #[.slice p m.length c]),(2,.pointer (some ⟨B2,0,none⟩)),(3,.pointer (some ⟨B3,0,none⟩)),(4,.bool false),(5,.int .i64 (q:Int)),(6,.pointer (some ⟨T,0,none⟩)),(7,.pointer (some ⟨U,0,none⟩)),(8,.int .i64 (D:Int))]:=(O.keep (O.keep (O.keep (O.keep (O.keep (O.keep (O.keep (O.keep (O.keep O.nil (t:=8) Z) (t:=7) Z) (t:=6) Z) (t:=5) Z) (t:=4) Z) (t:=3) Z) (t:=2) Z) (t:=0) Z) (t:=1) Z);have di:bb.tmps.getD 6 undef=.pointer (some ⟨T,0,none⟩):=O.sl 6 _ Z;have dk:bb.tmps.getD 8 undef=.int .i64 (D:Int):=O.sl 8 _ Z;have dm:bb.tmps.getD 7 undef=.pointer (some ⟨U,0,none⟩):=O.sl 7 _ Z;refine ZN 12 ([(6,fun v _=>v=.pointer (some ⟨T,0,none⟩)),(8,fun v _=>v=.int .i64 (D:Int)),(7,fun v _=>v=.pointer (some ⟨U,0,none⟩)),(70,fun v _=>v=.pointer (some ⟨T,3,none⟩)),(71,fun v _=>v=.slice C.pB x.blocks.length C.cB),(72,fun v _=>v=.int .i64 (D:Int)),(73,fun v _=>v=.pointer (some ⟨g3,o3+D*12,none⟩)),(74,fun v _=>v=.agg #[.int .i64 z.regs,.slice G.pP z.params.length G.cP,.slice G.pC z.code.length G.cC,.int .i64 z.fin.op,.int .i64 z.fin.a,.int .i64 z.fin.yes.block,.slice G.e.pYR z.fin.yes.regs.length G.e.cYR,.slice G.e.pYA z.fin.yes.args.length G.e.cYA,.int .i64 z.fin.no.block,.slice G.e.pNR z.fin.no.regs.length G.e.cNR,.slice G.e.pNA z.fin.no.args.length G.e.cNA,.slice G.e.pA z.fin.args.length G.e.cA]),(75,fun v _=>v=.pointer (some ⟨U,3,none⟩)),(76,fun v _=>v=.slice A.pB y.blocks.length A.cB),(77,fun v _=>v=.int .i64 (D:Int)),(78,fun v _=>v=.pointer (some ⟨g4,o4+D*12,none⟩)),(79,fun v _=>v=.agg #[.int .i64 u.regs,.slice H.pP u.params.length H.cP,.slice H.pC u.code.length H.cC,.int .i64 u.fin.op,.int .i64 u.fin.a,.int .i64 u.fin.yes.block,.slice H.e.pYR u.fin.yes.regs.length H.e.cYR,.slice H.e.pYA u.fin.yes.args.length H.e.cYA,.int .i64 u.fin.no.block,.slice H.e.pNR u.fin.no.regs.length H.e.cNR,.slice H.e.pNA u.fin.no.args.length H.e.cNA,.slice H.e.pA u.fin.args.length H.e.cA]),(80,fun v _=>v=.bool (bdec (z=u))),(81,fun v _=>v=.bool (!(bdec (z=u))))]:Qb9) (fun w'=>Wd w w' [(T,#[.int .i64 x.regs,.slice C.pP x.params.length C.cP,.slice C.pR x.results.length C.cR,.slice C.pB x.blocks.length C.cB],40),(U,#[.int .i64 y.regs,.slice A.pP y.params.length A.cP,.slice A.pR y.results.length A.cR,.slice A.pB y.blocks.length A.cB],40),(B3,#[.slice p2 k.length d],24),(B2,#[.slice p m.length c],24)]/\Below cg.heap.size cg w') (fun w w'=>Below w.heap.size w w') (outs:=[6,8,7]) (gs:=[]) (bs:=[true,true,true,true,true,true,true,true,true,true,true,true]) (by kernel_rfl) bl Z (by kernel_rfl) (by kernel_rfl) ?hR ?hG ⟨am.drewN 1,QQ (m:=1) Zr⟩ ⟨di,dk,dm,Y⟩ ?hA ?hend
    case hR =>
     iterate 15 refine⟨fun _ _ _ _ h=>h,?_⟩
     trivial
    case hG=>exact Y
    case hA =>
     iterate 3
      refine⟨fun a w F hk K I=>?_,?_⟩
      ·obtain⟨V,-⟩:=hk
       conv at V=>whnf;rhs;whnf
       have u0:w.cell? ⟨T,3,none⟩=some (.slice C.pB x.blocks.length C.cB):=Qb (F.1.get 0 Z) 3 _ Z;go_simp;exact I _ _ Zr F Z
     refine⟨fun a w F hk K I=>?_,?_⟩
     ·obtain⟨V,k1,-⟩:=hk
      conv at V=>whnf;rhs;whnf
      conv at k1=>whnf;rhs;whnf
      have bw:=bx.out;have aq:(0:Int)<=D:=by omega
      have bu:(D:Int)<(x.blocks.length:Int):=by omega
      go_simp;exact I _ _ Zr F Z
     iterate 4
      refine⟨fun a w F hk K I=>?_,?_⟩
      ·obtain⟨V,-⟩:=hk
       conv at V=>whnf;rhs;whnf
       have u0:w.cell? ⟨g3,o3+D*12,none⟩=some (.int .i64 z.regs):=Qk F.1.bel (E3.out 0 _ Z);have u1:w.cell? ⟨g3,o3+D*12+1,none⟩=some (.slice G.pP z.params.length G.cP):=Qk F.1.bel (E3.out 1 _ Z);have u2:w.cell? ⟨g3,o3+D*12+2,none⟩=some (.slice G.pC z.code.length G.cC):=Qk F.1.bel (E3.out 2 _ Z);have u3:w.cell? ⟨g3,o3+D*12+3,none⟩=some (.int .i64 z.fin.op):=Qk F.1.bel (E3.out 3 _ Z);have u4:w.cell? ⟨g3,o3+D*12+4,none⟩=some (.int .i64 z.fin.a):=Qk F.1.bel (E3.out 4 _ Z);have u5:w.cell? ⟨g3,o3+D*12+5,none⟩=some (.int .i64 z.fin.yes.block):=Qk F.1.bel (E3.out 5 _ Z);have u6:w.cell? ⟨g3,o3+D*12+6,none⟩=some (.slice G.e.pYR z.fin.yes.regs.length G.e.cYR):=Qk F.1.bel (E3.out 6 _ Z);have u7:w.cell? ⟨g3,o3+D*12+7,none⟩=some (.slice G.e.pYA z.fin.yes.args.length G.e.cYA):=Qk F.1.bel (E3.out 7 _ Z);have u8:w.cell? ⟨g3,o3+D*12+8,none⟩=some (.int .i64 z.fin.no.block):=Qk F.1.bel (E3.out 8 _ Z);have u9:w.cell? ⟨g3,o3+D*12+9,none⟩=some (.slice G.e.pNR z.fin.no.regs.length G.e.cNR):=Qk F.1.bel (E3.out 9 _ Z);have dr:w.cell? ⟨g3,o3+D*12+10,none⟩=some (.slice G.e.pNA z.fin.no.args.length G.e.cNA):=Qk F.1.bel (E3.out 10 _ Z);have db:w.cell? ⟨g3,o3+D*12+11,none⟩=some (.slice G.e.pA z.fin.args.length G.e.cA):=Qk F.1.bel (E3.out 11 _ Z);have dx:w.cell? ⟨U,3,none⟩=some (.slice A.pB y.blocks.length A.cB):=Qb (F.1.get 1 Z) 3 _ Z;go_simp;exact I _ _ Zr F Z
     refine⟨fun a w F hk K I=>?_,?_⟩
     ·obtain⟨V,k1,-⟩:=hk
      conv at V=>whnf;rhs;whnf
      conv at k1=>whnf;rhs;whnf
      have bw:=bz.out;have aq:(0:Int)<=D:=by omega
      have bu:(D:Int)<(y.blocks.length:Int):=by omega
      go_simp;exact I _ _ Zr F Z
     refine⟨fun a w F hk K I=>?_,?_⟩
     ·obtain⟨V,-⟩:=hk
      conv at V=>whnf;rhs;whnf
      have u0:w.cell? ⟨g4,o4+D*12,none⟩=some (.int .i64 u.regs):=Qk F.1.bel (E4.out 0 _ Z);have u1:w.cell? ⟨g4,o4+D*12+1,none⟩=some (.slice H.pP u.params.length H.cP):=Qk F.1.bel (E4.out 1 _ Z);have u2:w.cell? ⟨g4,o4+D*12+2,none⟩=some (.slice H.pC u.code.length H.cC):=Qk F.1.bel (E4.out 2 _ Z);have u3:w.cell? ⟨g4,o4+D*12+3,none⟩=some (.int .i64 u.fin.op):=Qk F.1.bel (E4.out 3 _ Z);have u4:w.cell? ⟨g4,o4+D*12+4,none⟩=some (.int .i64 u.fin.a):=Qk F.1.bel (E4.out 4 _ Z);have u5:w.cell? ⟨g4,o4+D*12+5,none⟩=some (.int .i64 u.fin.yes.block):=Qk F.1.bel (E4.out 5 _ Z);have u6:w.cell? ⟨g4,o4+D*12+6,none⟩=some (.slice H.e.pYR u.fin.yes.regs.length H.e.cYR):=Qk F.1.bel (E4.out 6 _ Z);have u7:w.cell? ⟨g4,o4+D*12+7,none⟩=some (.slice H.e.pYA u.fin.yes.args.length H.e.cYA):=Qk F.1.bel (E4.out 7 _ Z);have u8:w.cell? ⟨g4,o4+D*12+8,none⟩=some (.int .i64 u.fin.no.block):=Qk F.1.bel (E4.out 8 _ Z);have u9:w.cell? ⟨g4,o4+D*12+9,none⟩=some (.slice H.e.pNR u.fin.no.regs.length H.e.cNR):=Qk F.1.bel (E4.out 9 _ Z);have dr:w.cell? ⟨g4,o4+D*12+10,none⟩=some (.slice H.e.pNA u.fin.no.args.length H.e.cNA):=Qk F.1.bel (E4.out 10 _ Z);have db:w.cell? ⟨g4,o4+D*12+11,none⟩=some (.slice H.e.pA u.fin.args.length H.e.cA):=Qk F.1.bel (E4.out 11 _ Z);go_simp;exact I _ _ Zr F Z
     refine⟨fun a w F hk K I=>?_,?_⟩
     ·obtain⟨V,k1,-⟩:=hk
      conv at V=>whnf;rhs;whnf
      conv at k1=>whnf;rhs;whnf
      have hC:Rd prog 47 #[.agg #[.int .i64 z.regs,.slice G.pP z.params.length G.cP,.slice G.pC z.code.length G.cC,.int .i64 z.fin.op,.int .i64 z.fin.a,.int .i64 z.fin.yes.block,.slice G.e.pYR z.fin.yes.regs.length G.e.cYR,.slice G.e.pYA z.fin.yes.args.length G.e.cYA,.int .i64 z.fin.no.block,.slice G.e.pNR z.fin.no.regs.length G.e.cNR,.slice G.e.pNA z.fin.no.args.length G.e.cNA,.slice G.e.pA z.fin.args.length G.e.cA],.agg #[.int .i64 u.regs,.slice H.pP u.params.length H.cP,.slice H.pC u.code.length H.cC,.int .i64 u.fin.op,.int .i64 u.fin.a,.int .i64 u.fin.yes.block,.slice H.e.pYR u.fin.yes.regs.length H.e.cYR,.slice H.e.pYA u.fin.yes.args.length H.e.cYA,.int .i64 u.fin.no.block,.slice H.e.pNR u.fin.no.regs.length H.e.cNR,.slice H.e.pNA u.fin.no.args.length H.e.cNA,.slice H.e.pA u.fin.args.length H.e.cA]] w (.bool (bdec (z=u))):=Qeg (b2.out.below F.1.bel) (bt.out.below F.1.bel) (bc.out.2.2.2 z (Zm ar.out));go_simp;refine hC.mono ?_;rintro e w9 ⟨rfl,f⟩;exact I _ _ f ⟨F.1.below f,Xl F.2 f⟩ Z
     refine⟨fun a w F hk K I=>?_,?_⟩
     ·obtain⟨V,-⟩:=hk
      conv at V=>whnf;rhs;whnf
      go_simp;exact I _ _ Zr F Z
     trivial
    case hend =>
     intro L ca ds b9 hE au;have bf:ca.tmps.getD 81 undef=.bool (!(bdec (z=u))):=hE 81 Z;have aw:Fr 82 ca [(81,.bool (!(bdec (z=u)))),(1,.agg #[.slice p2 k.length d]),(0,.agg #[.slice p m.length c]),(2,.pointer (some ⟨B2,0,none⟩)),(3,.pointer (some ⟨B3,0,none⟩)),(4,.bool false),(5,.int .i64 (q:Int)),(6,.pointer (some ⟨T,0,none⟩)),(7,.pointer (some ⟨U,0,none⟩)),(8,.int .i64 (D:Int))]:=(au.cons bf);clear bf;have bd:Wd w ds [(T,#[.int .i64 x.regs,.slice C.pP x.params.length C.cP,.slice C.pR x.results.length C.cR,.slice C.pB x.blocks.length C.cB],40),(U,#[.int .i64 y.regs,.slice A.pP y.params.length A.cP,.slice A.pR y.results.length A.cR,.slice A.pB y.blocks.length A.cB],40),(B3,#[.slice p2 k.length d],24),(B2,#[.slice p m.length c],24)]:=b9.1;clear au b9 hE bl O;clear am;refine wpList_nil <| cm _ _ <| Qt (t:=81) aw Z (fun f=>?_) (fun f=>?_)
     ·have f:(bdec (z=u))=false:=by simpa using f
      have bp:¬ (z=u):=fun h=>by rw[Qs h] at f;cases f
      clear f;refine XW fun dy ch=>rg aw fun L=>sa Y Z Z <| Yb fun eh dd=>ch _ _ ?_
      refine XA ?_;with_reducible repeat first | refine Qd ?_ | refine Qc ?_
      have RX:¬ x=y:=by
       intro e;have h1:=ar.out;rw[e,az.out] at h1
       exact bp (Xn h1).symm
      have R:¬ m=k:=by
       intro e;have h1:=ae.out;rw[e,ah.out] at h1
       exact RX (Xn h1).symm
      exact Ql (t:=4) dd Z Z ⟨by rw[Qh R],bd.bel⟩
     have f:(bdec (z=u))=true:=by simpa using f
     have bp:(z=u):=Zj.1 f;clear f;refine XB <| b6 _ _ <| rg aw fun L=>sm Y Z Z <| sad (by omega) Y Z Z Z <| sa Y Z Z <| Yb fun ez ad=>c5 _ _ (x.blocks.length - (D+1)) (by omega) ⟨D+1,by omega,Z,?_,(ad.keep (ad.keep (ad.keep (ad.keep (ad.keep (ad.keep (ad.keep (ad.keep (ad.keep ad.nil (t:=8) Z) (t:=7) Z) (t:=6) Z) (t:=5) Z) (t:=4) Z) (t:=3) Z) (t:=2) Z) (t:=0) Z) (t:=1) Z),bd⟩
     ·intro j hj
      by_cases e:j=D
      ·subst e;rw[ar.out,az.out,bp]
      ·exact bm j (by omega)
   have dw:D=x.blocks.length:=by have:=Xw f;omega
   clear f
   have RB:x.blocks=y.blocks:=by
    have:=ak.out
    refine List.ext_getElem? fun i=>?_;by_cases hi:i<D
    ·exact bm i hi
    ·rw[Xk (by omega),Xk (by omega)]
   have RX:x=y:=Qf.eq_of ap.out a2 be RB;refine wp_exit <| c1 _ _ <| rg O fun L=>sm Y Z Z <| sad (by omega) Y Z Z Z <| sa Y Z Z <| Yb fun ep aj=>dc _ _ (m.length - (q+1)) (by omega) ⟨q+1,by omega,Z,?_,(aj.keep (aj.keep (aj.keep (aj.keep (aj.keep (aj.keep aj.nil (t:=5) Z) (t:=4) Z) (t:=3) Z) (t:=2) Z) (t:=0) Z) (t:=1) Z),am.tail.tail⟩
   ·intro j hj
    by_cases e:j=q
    ·subst e;rw[ae.out,ah.out,RX]
    ·exact bi j (by omega)
 have e3:q=m.length:=by have:=Xw f;omega
 clear f;refine wp_exit <| cy _ _ <| XW fun d7 cj=>rg ab fun L=>sa Y Z Z <| Yb fun d8 dq=>cj _ _ ?_
 refine XA ?_;with_reducible repeat first | refine Qd ?_ | refine Qc ?_
 have R:m=k:=by
  have:=al.out
  refine List.ext_getElem? fun i=>?_;by_cases hi:i<q
  ·exact bi i hi
  ·rw[Xk (by omega),Xk (by omega)]
 exact Ql (t:=4) dq Z Z ⟨by rw[Qs R],E.bel⟩
def KTo (wA w:World) (b:Nat) (O:Nat->Prop) (s:JSt):Prop:=∃ O',KAt w b O' s/\Zw O O' wA w/\∀ k,O' k->k<w.heap.size
section
variable {w w9 wA:World}{b:Nat}{O:Nat->Prop}{L:List Bool}{s:JSt}
theorem Qr.push2 (h:Qr w b O L){cap2:Nat}(u:w.cell? ⟨b,0,none⟩=some (.slice a L.length cap))
 (A:w9.ownsRow 0 4 1 (.slice (some ⟨g,0,none⟩) (L.length+1) cap2) (L.length+1) (L.map Value.bool++[.bool true])) (f:w.grownBy w9 (Value.slice a L.length cap).ownBlock) (t:(Value.slice a L.length cap).ownBlock=some g\/w.heap.size<=g) (B:g<w9.heap.size) :
 w9.cell? ⟨b,0,none⟩=some (.slice a L.length cap)/\w9.frozen? ⟨b,0,none⟩=false /\
 Qr (w9.setCell ⟨b,0,none⟩ (.slice (some ⟨g,0,none⟩) (L.length+1) cap2)) b (fun x=>O x\/(w.heap.size<=x/\x<w9.heap.size)) (L++[true])/\Zw O (fun x=>O x\/(w.heap.size<=x/\x<w9.heap.size)) w (w9.setCell ⟨b,0,none⟩ (.slice (some ⟨g,0,none⟩) (L.length+1) cap2)):=by
 obtain⟨v,l,q,r⟩:=h
 have e:=Qb l 0 _ Z;rw[u] at e
 simp only[Option.some.injEq] at e
 subst e;have m:b<w.heap.size:=XC l
 have j:∀ i,(Value.slice a L.length cap).ownBlock=some i->b≠i:=fun i d=>by
  obtain⟨c,y⟩:=q.block d
  exact ZG l y (by decide)
 have n:w9.heap[b]?=some (.cells #[.slice a L.length cap] 119 (0,0)):=by
  rw[f.block b m (fun e=>j b e.symm Z)];exact l
 have p:b≠g:=by
  rcases t with h | h
  ·exact j g h
  ·omega
 have z:=f.size;refine⟨Qb n 0 _ Z,Qn n 0,⟨.slice (some ⟨g,0,none⟩) (L.length+1) cap2,?_,⟨?_,fun i d=>?_⟩,.inl r⟩,?_⟩
 ·rw[Qq n];rfl
 ·have:QeI w9 (fun _=>True) 4 (.slice (some ⟨g,0,none⟩) (L.length+1) cap2) ((L++[true]).map Value.bool):=⟨by simpa using A,fun _ _=>trivial⟩
  exact(this.keep (w':=w9.setCell ⟨b,0,none⟩ (.slice (some ⟨g,0,none⟩) (L.length+1) cap2)) (O':=fun _=>True) (fun i d=>Xd _ _ _ _ (by simp[Value.ownBlock] at d;subst d;exact fun e=>p e.symm)) (fun _ _=>trivial)).1
 ·simp[Value.ownBlock] at d
  subst d;rcases t with h | h
  ·exact .inl (q.2 _ h)
  ·exact .inr ⟨h,B⟩
 ·refine⟨f.os,f.tape,f.output,by simp;omega,fun k o s=>?_,fun k o=>o.imp id fun h=>h.1⟩
  rw[Xd _ _ _ _ (fun e=>s (by subst e;exact r)),f.block k o (fun e=>s (q.2 k e.symm))]
theorem Qr.keep2 (h:Qr w b O L) (i:∀ (g:Nat) (c:Array Value) (t:TypeId),w.heap[g]?=some (Obj.cells c t (0,0))->t=119\/t=4->w9.heap[g]?=w.heap[g]?) (f:∀ g,O g->O' g):Qr w9 b O' L:=by
 obtain⟨v,e,a,k⟩:=h
 exact⟨v,(i b _ _ e (.inl Z)).trans e,a.keep (fun g d=>by obtain⟨c,j⟩:=a.block d;exact i g _ _ j (.inr Z)) (fun g d=>f g (a.2 g d)),f b k⟩
theorem KAt.pushH (R:∀ k,O k->k<wA.heap.size) (h:KAt wA b O s):∃ hh a cap,wA.cell? ⟨b,5,none⟩=some (.pointer (some ⟨hh,0,none⟩))/\wA.cell? ⟨hh,0,none⟩=some (.slice a s.H.length cap)/\wA.ownsRow 0 4 1 (.slice a s.H.length cap) s.H.length (s.H.map Value.bool) /\
 (∀ w9,wA.grownBy w9 (Value.slice a s.H.length cap).ownBlock->w9.cell? ⟨b,5,none⟩=some (.pointer (some ⟨hh,0,none⟩))/\w9.cell? ⟨hh,0,none⟩=some (.slice a s.H.length cap)/\w9.frozen? ⟨hh,0,none⟩=false) /\
 ∀ w9 g cap2,w9.ownsRow 0 4 1 (.slice (some ⟨g,0,none⟩) (s.H.length+1) cap2) (s.H.length+1) (s.H.map Value.bool++[.bool true])->wA.grownBy w9 (Value.slice a s.H.length cap).ownBlock->((Value.slice a s.H.length cap).ownBlock=some g\/wA.heap.size<=g)->g<w9.heap.size ->
  KTo wA (w9.setCell ⟨hh,0,none⟩ (.slice (some ⟨g,0,none⟩) (s.H.length+1) cap2)) b O { s with H:=s.H++[true] }:=by
 obtain⟨M,cm,P,S,F,c2,N,c3,hh,vL,o,U,G,n,A,k6⟩:=h
 obtain⟨a,cap,y,e2,Q,-⟩:=n.cells
 have D:∀ f,(Value.slice a s.H.length cap).ownBlock=some f->O f/\∃ c,wA.heap[f]?=some (.cells c 4 (0,0)):=by
  obtain⟨v,x,z,W⟩:=id n
  have e:=Qb x 0 _ Z;rw[y] at e
  simp only[Option.some.injEq] at e
  subst e;exact fun f i=>⟨z.2 f i,z.block i⟩
 obtain⟨K,j⟩:∃ c,wA.heap[hh]?=some (.cells c 119 (0,0)):=by obtain⟨v,x,-⟩:=id n;exact⟨_,x⟩
 have r:=XC o
 have q:∀ f,(Value.slice a s.H.length cap).ownBlock=some f->b≠f:=fun f i=>by
  obtain⟨c,p⟩:=(D f i).2
  exact ZG o p (by decide)
 have t:∀ f,(Value.slice a s.H.length cap).ownBlock=some f->hh≠f:=fun f i=>by
  obtain⟨c,p⟩:=(D f i).2
  exact ZG j p (by decide)
 have E:b≠hh:=ZG o j (by decide);refine⟨hh,a,cap,Qb o 5 _ Z,y,Q,fun w9 C=>?_,fun w9 g cap2 X w V T=>?_⟩
 ·have I:w9.heap[hh]?=some (.cells K 119 (0,0)):=(C.block hh n.lt (fun e=>t hh e.symm Z)).trans j;exact⟨(C.cell_far ⟨b,5,none⟩ r (fun e=>q b e.symm Z)).trans (Qb o 5 _ Z),(C.cell_far ⟨hh,0,none⟩ n.lt (fun e=>t hh e.symm Z)).trans y,Qn I 0⟩
 obtain⟨-,-,J,u⟩:=n.push2 y X w V T
 have L:=w.size;have m:∀ k,¬ O k->k<wA.heap.size->¬ (O k\/(wA.heap.size<=k/\k<w9.heap.size)):=fun k d l e=>by rcases e with e | e;exact d e;omega
 refine⟨_,⟨M,cm,P,S,F,c2,N,c3,hh,vL,?_,(QaH 6).keep (fun k d l=>u.block k l d) m U,(ZR 6).keep (fun k d l=>u.block k l d) m G,J,A.keep (fun k l d=>?_) (fun k d=>?_) m,.inl k6⟩,u,fun k d=>?_⟩
 ·rw[Xd _ _ _ _ (show b≠hh from E),w.block b r (fun e=>q b e.symm Z)];exact o
 ·rcases d with d | d
  ·obtain⟨c,p⟩:=A.block d
   rw[Xd _ _ _ _ (show k≠hh from ZG p j (by decide)),w.block k l (fun e=>by obtain⟨c',B⟩:=(D k e.symm).2;exact ZG p B (by decide) Z)]
  ·exact u.block k l d
 ·obtain⟨xs,x,z,W⟩:=A
  exact .inl (z k d)
 ·rw[World.size_setCell]
  rcases d with d | d
  ·have:=R k d;omega
  ·exact d.2
theorem KAt.setH (I:∀ k,O k->k<wA.heap.size) (h:KAt wA b O s):∃ hh a cap,wA.cell? ⟨b,5,none⟩=some (.pointer (some ⟨hh,0,none⟩))/\wA.cell? ⟨hh,0,none⟩=some (.slice a s.H.length cap) /\
 ∀ i,i<s.H.length->∃ g,a=some ⟨g,0,none⟩/\(∃ u,wA.cell? ⟨g,i,none⟩=some (.bool u))/\wA.frozen? ⟨g,i,none⟩=false/\KTo wA (wA.setCell ⟨g,i,none⟩ (.bool false)) b O { s with H:=s.H.set i false }:=by
 obtain⟨B,U,E,L,z,Q,D,V,hh,T,q,M,A,r,o,S⟩:=h
 obtain⟨a,cap,x,e2,e3,N⟩:=r.cells
 have J:∀ l,(Value.slice a s.H.length cap).ownBlock=some l->O l/\∃ c,wA.heap[l]?=some (.cells c 4 (0,0)):=by
  obtain⟨v,w,n,P⟩:=id r
  have e:=Qb w 0 _ Z;rw[x] at e
  simp only[Option.some.injEq] at e
  subst e;exact fun l f=>⟨n.2 l f,n.block f⟩
 refine⟨hh,a,cap,Qb q 5 _ Z,x,fun i G=>?_⟩
 obtain⟨g,rfl,F,K,y,R⟩:=N i G
 obtain⟨c,t⟩:=(J g Z).2
 have m:Zw O O wA (wA.setCell ⟨g,i,none⟩ (.bool false)):=⟨Z,Z,Z,by simp,fun k d C=>Xd _ _ _ _ (fun e=>C (by subst e;exact F)),fun k d=>.inl d⟩;refine⟨g,Z,⟨_,K⟩,y,O,⟨B,U,E,L,z,Q,D,V,hh,T,?_,(QaH 6).keep (fun k d j=>m.block k j d) (fun k d _=>d) M,(ZR 6).keep (fun k d j=>m.block k j d) (fun k d _=>d) A,R false,o.keep (fun k j d=>?_) (fun k d=>?_) (fun k d _=>d),S⟩,m,fun k d=>by rw[World.size_setCell];exact I k d⟩
 ·rw[Xd _ _ _ _ (show b≠g from ZG q t (by decide))];exact q
 ·rcases d with d | d
  ·obtain⟨X,p⟩:=o.block d
   exact Xd _ _ _ _ (show k≠g from ZG p t (by decide))
  ·exact m.block k j d
 ·obtain⟨W,w,n,P⟩:=o
  exact n k d
theorem KAt.pushL (hO:∀ k,O k->k<wA.heap.size) (h:KAt wA b O s):∃ aL cL xs,wA.cell? ⟨b,6,none⟩=some (.slice aL s.L.length cL)/\wA.frozen? ⟨b,6,none⟩=false/\s.L.length<=cL/\wA.ownsRow 0 70 3 (.slice aL s.L.length cL) s.L.length xs /\
 ∀ w9 g cap2 (l:List (TT 6)) ds,ds.length=l.length*3->w9.ownsRow 0 70 3 (.slice (some ⟨g,0,none⟩) (s.L.length+l.length) cap2) (s.L.length+l.length) (xs++ds)->wA.grownBy w9 (Value.slice aL s.L.length cL).ownBlock->((Value.slice aL s.L.length cL).ownBlock=some g\/g=wA.heap.size)->g<w9.heap.size ->
  (∀ i x,l[i]?=some x->(Lay.tt 6).In wA (fun g=>¬ O g) x ((ds.drop (i*3)).take 3)) ->
  w9.cell? ⟨b,6,none⟩=some (.slice aL s.L.length cL)/\w9.frozen? ⟨b,6,none⟩=false/\KTo wA (w9.setCell ⟨b,6,none⟩ (.slice (some ⟨g,0,none⟩) (s.L.length+l.length) cap2)) b O { s with L:=s.L++l }:=by
 obtain⟨T,cm,W,c1,Q,c2,V,X,J,vL,o,k2,R,G,w,M⟩:=h
 obtain⟨aL,cL,rfl,-,-⟩:=w.form
 have y:∀ {j},(Value.slice aL s.L.length cL).ownBlock=some j->O j/\∃ c,wA.heap[j]?=some (.cells c 70 (0,0)):=fun {j} d=>⟨by obtain⟨xs,p,H,K⟩:=id w;exact H j d,w.block d⟩;obtain⟨xs,p,H,K⟩:=w
 obtain⟨ch,U⟩:∃ c,wA.heap[J]?=some (.cells c 119 (0,0)):=by obtain⟨v,p,-⟩:=id G;exact⟨_,p⟩
 have z:=XC o
 have r:∀ j,(Value.slice aL s.L.length cL).ownBlock=some j->b≠j:=fun j d=>by
  obtain⟨c,hc⟩:=(y d).2
  exact ZG o hc (by decide)
 have F:s.L.length<=cL:=by
  obtain⟨-,q⟩:=id p
  rcases q with ⟨e,e2⟩|⟨g,ab,aa,e,_,_,E,_⟩
  ·omega
  ·simp only[Value.slice.injEq] at e;omega
 refine⟨aL,cL,xs,Qb o 6 _ Z,Qn o 6,F,p,fun w9 g cap2 l ds ac h1 n I h4 h5=>?_⟩
 have S:=n.size;have D:=(n.block b z (fun e=>r b e.symm Z)).trans o
 have C:b≠g:=by
  rcases I with h | h
  ·exact r g h
  ·omega
 have f:∀ k,¬ O k->k<wA.heap.size->¬ (O k\/(wA.heap.size<=k/\k<w9.heap.size)):=fun k a m e=>by rcases e with e | e;exact a e;omega
 have u:Zw O (fun x=>O x\/(wA.heap.size<=x/\x<w9.heap.size)) wA (w9.setCell ⟨b,6,none⟩ (.slice (some ⟨g,0,none⟩) (s.L.length+l.length) cap2)):=by
  refine⟨n.os,n.tape,n.output,by simp;omega,fun k a E=>?_,fun k a=>a.imp id fun h=>h.1⟩
  rw[Xd _ _ _ _ (fun e=>E (by subst e;exact M)),n.block k a (fun e=>E (y e.symm).1)]
 refine⟨Qb D 6 _ Z,Qn D 6,_,⟨T,cm,W,c1,Q,c2,V,X,J,.slice (some ⟨g,0,none⟩) (s.L.length+l.length) cap2,?_,(QaH 6).keep (fun k a m=>u.block k m a) f k2,(ZR 6).keep (fun k a m=>u.block k m a) f R,G.keep2 (fun k c t a N=>?_) (fun k a=>.inl a),?_,.inl M⟩,u,fun k a=>?_⟩
 ·rw[Qq D];rfl
 ·rw[Xd _ _ _ _ (show k≠b from ZG a o (by rcases N with rfl | rfl<;>decide)),n.block k (XC a) (fun e=>by obtain⟨c',B⟩:=(y e.symm).2;exact ZG a B (by rcases N with rfl | rfl<;>decide) Z)]
 ·refine⟨xs++ds,?_,fun k a=>?_,?_⟩
  ·rw[List.length_append]
   exact Qdk h1 (Xd _ _ _ _ (show g≠b from fun e=>C e.symm))
  ·simp[Value.ownBlock] at a
   subst a;rcases I with h | h
   ·exact .inl (y h).1
   ·exact .inr ⟨by omega,h4⟩
  ·refine QbL (s:=3) (P:=fun x cs=>(Lay.tt 6).In _ _ x cs) p.1 (fun i x A=>?_) (fun i x A=>?_)
   ·exact(Lay.tt 6).keep (fun k a m=>u.block k m a) f (K i x A)
   ·exact(Lay.tt 6).keep (fun k a m=>u.block k m a) f (h5 i x A)
 ·rw[World.size_setCell]
  rcases a with a | a
  ·have:=hO k a;omega
  ·exact a.2
end
theorem QaL.via {l:List Oper}{S:Nat->Bool}(a:QaL l S){o:Oper}(c:l[q]?=some o) (b:Qde l 24 o i=true) (d:S q=true):S i=true :=
 Qdo (all:=l) (S:=fun j=>S j=true) a 24 o b (a q o c d)
theorem QaL.no {l:List Oper}{S:Nat->Bool}(a:QaL l S){o:Oper}(d:l[q]?=some o) (b:Qde l 24 o i=true) (c:S i=false):S q=false:=by
 cases h:S q with
 | false=>rfl
 | true=>have:=a.via d b h;rw[c] at this;cases this
theorem ZF {S:Nat->Bool}(h:j≠i):Qbz i S j=S j:=by
 have:(j==i)=false:=by simpa using h
 unfold Qbz;rw[this,Bool.false_or]
theorem Qh2 {S:Nat->Bool}:Qbz i S i=true:=by simp[Qbz]
theorem QgJ (h:Below w.heap.size w w') (a:Option Nat):w.grownBy w' a:=⟨h.os,h.tape,h.output,h.size,fun k b _=>h.block k b⟩
def hTi:List (Nat × Tmp):=[(0,38),(1,39),(2,40),(3,41),(4,42),(5,43),(6,44),(7,45),(8,46),(9,47),(10,48),(11,49),(12,50),(13,51),(14,52)]
def hMv (b hh rn rc G g2 cap2:Nat) (ra:Option Addr):List (Tmp × Value):=[(38,.pointer (some ⟨b,0,none⟩)),(39,.pointer (some ⟨b,0,none⟩)),(40,.pointer (some ⟨b,5,none⟩)),(41,.pointer (some ⟨hh,0,none⟩)),(42,.pointer (some ⟨b,0,none⟩)),(43,.pointer (some ⟨b,0,none⟩)),(44,.pointer (some ⟨b,5,none⟩)),(45,.pointer (some ⟨hh,0,none⟩)),(46,.pointer (some ⟨hh,0,none⟩)),(47,.pointer (some ⟨hh,0,none⟩)),(48,.slice ra rn rc),(49,.slice (some ⟨G,0,none⟩) 1 1),(50,.slice (some ⟨g2,0,none⟩) (rn+1) cap2),(51,.pointer (some ⟨hh,0,none⟩)),(52,.pointer (some ⟨hh,0,none⟩))]
def HIv (n:Nat) (a0:Act) (wA:World) (b:Nat) (O:Nat->Prop) (s:JSt) (hh rn rc:Nat) (ra:Option Addr) (S:Nat->Bool) (a:Act) (w:World):Prop :=
 a.tmps.size=n/\a.defers=[]/\(∀ t,([38,39,40,41,42,43,44,45,46,47,48,49,50,51,52]:List Tmp).contains t=false->a.tmps.getD t undef=a0.tmps.getD t undef)/\∃ G g2 cap2,
  (∀ x∈hTi,S x.1=true->∀ v,(hMv b hh rn rc G g2 cap2 ra).lookup x.2=some v->a.tmps.getD x.2 undef=v) /\
  (S 15=false->wA.grownBy w (Value.slice ra rn rc).ownBlock/\(S 12=false->Below wA.heap.size wA w/\(S 11=true->wA.heap.size<=G/\w.heap[G]?=some (.cells #[.bool true] 4 (0,0)))) /\
   (S 12=true->w.ownsRow 0 4 1 (.slice (some ⟨g2,0,none⟩) (rn+1) cap2) (rn+1) (s.H.map Value.bool++[.bool true])/\((Value.slice ra rn rc).ownBlock=some g2\/wA.heap.size<=g2)/\g2<w.heap.size)) /\
  (S 15=true->KTo wA w b O { s with H:=s.H++[true] })
section
variable {n:Nat}{a0 a:Act}{wA w w':World}{b hh rn rc:Nat}{O:Nat->Prop}{s:JSt}{ra:Option Addr}{S:Nat->Bool}
theorem hTi_lt:∀ x∈hTi,x.2<53/\([38,39,40,41,42,43,44,45,46,47,48,49,50,51,52]:List Tmp).contains x.2=true:=by decide
theorem HIv.pure {t:Tmp}(z:HIv n a0 wA b O s hh rn rc ra S a w) (r:53<=n) (m:(i,t)∈hTi) (C:∀ G g2 cap2,(hMv b hh rn rc G g2 cap2 ra).lookup t=some v) (j:i≠11) (g:i≠12) (f:i≠15):HIv n a0 wA b O s hh rn rc ra (Qbz i S) (a.put (some t) v) w:=by
 obtain⟨o,q,F,G,g2,cap2,D,A,H⟩:=z
 obtain⟨I,k⟩:=hTi_lt _ m
 have d:t<a.tmps.size:=by rw[o];exact Zl I r
 refine⟨by rw[<-o];simp[Act.put],q,fun u h=>?_,G,g2,cap2,fun x l p E c=>?_,?_,?_⟩
 ·have:u≠t:=fun e=>by subst e;rw[k] at h;cases h
  rw[Zp d,Xr this];exact F u h
 ·rw[Zp d]
  by_cases e:x.2=t
  ·rw[Xs e];rw[e,C] at c;exact Xn c
  ·rw[Xr e]
   refine D x l (Zf (fun B=>e ?_) p) E c
   have:∀ x∈hTi,∀ y∈hTi,x.1=y.1->x.2=y.2:=by decide
   exact this x l (i,t) m B
 ·rw[ZF (Ne.symm f),ZF (Ne.symm g),ZF (Ne.symm j)];exact A
 ·rw[ZF (Ne.symm f)];exact H
end
theorem bUnder:prog.underlying 117=some (.slice 4):=by kernel_rfl
theorem QlJ {wA:World}{s:JSt}(hO:∀ k,O k→k<wA.heap.size) (h:KAt wA b O s) (h16:s.H.length≤16) (a:Act) (hn:a.tmps.size=82) (hdf:a.defers=[]) (h0:a.tmps.getD 0 undef=.pointer (some ⟨b,0,none⟩)) :
 Code.wp prog ((Tryz.f43.body.bind (Qo 10)).getD .skip) (fun e a' w'=>e=.normal∧∃ vs,a'=Zn a vs [38,39,40,41,42,43,44,45,46,47,48,49,50,51,52]∧KTo wA w' b O { s with H:=s.H++[true] }) a wA:=by
 obtain⟨hh,ra,rc,q5,q0,hown,hfar,hpush⟩:=h.pushH hO
 obtain⟨i0,hi,hz0,hz1,hz2⟩:=hInfoB
 conv=>arg 2;whnf
 refine QbZ (HIv 82 a wA b O s hh s.H.length rc ra) (by kernel_rfl) (by kernel_rfl) ?h0 ?hst ?hend
 case h0=>exact⟨hn,hdf,fun _ _=>rfl,0,0,0,fun _ _ h=>(by cases h),fun _=>⟨QgJ (Qg Zr 1) _,fun _=>⟨Qg Zr 1,fun h=>by cases h⟩,fun h=>by cases h⟩,fun h=>by cases h⟩
 case hend =>
  rintro S a' w' hS ⟨h1,h2,h3,G,g2,cap2,h4,h5,h6⟩;have hS':∀ j,j<16→S j=true:=hS;exact⟨rfl,_,QfG (by rw[h1,hn]) (by rw[h2,hdf]) h3,h6 (hS' 15 (by decide))⟩
 case hst =>
  refine⟨fun S a1 w1 hS hd hcl hI K hK=>?_,?_⟩
  ·obtain⟨h1,h2,h3,G,g2,cap2,h4,h5,h6⟩:=id hI
   have H2:Hid (a1.defers=[]):=h2;clear h2;have n15:S 15=false:=hcl.no (q:=15) rfl (by kernel_rfl) hS;have k0:a1.tmps.getD 0 undef=.pointer (some ⟨b,0,none⟩):=(h3 0 (by kernel_rfl)).trans h0;go_simp;exact hK _ _ (hI.pure (by decide) (i:=0) (t:=38) (by decide) (fun _ _ _=>rfl) (by decide) (by decide) (by decide))
  refine⟨fun S a1 w1 hS hd hcl hI K hK=>?_,?_⟩
  ·obtain⟨h1,h2,h3,G,g2,cap2,h4,h5,h6⟩:=id hI
   have H2:Hid (a1.defers=[]):=h2;clear h2;have n15:S 15=false:=hcl.no (q:=15) rfl (by kernel_rfl) hS;have k0:a1.tmps.getD 38 undef=.pointer (some ⟨b,0,none⟩):=h4 (0,38) (by decide) (hd.at 0 (by kernel_rfl)) _ rfl;go_simp;exact hK _ _ (hI.pure (by decide) (i:=1) (t:=39) (by decide) (fun _ _ _=>rfl) (by decide) (by decide) (by decide))
  refine⟨fun S a1 w1 hS hd hcl hI K hK=>?_,?_⟩
  ·obtain⟨h1,h2,h3,G,g2,cap2,h4,h5,h6⟩:=id hI
   have H2:Hid (a1.defers=[]):=h2;clear h2;have n15:S 15=false:=hcl.no (q:=15) rfl (by kernel_rfl) hS;have k0:a1.tmps.getD 39 undef=.pointer (some ⟨b,0,none⟩):=h4 (1,39) (by decide) (hd.at 1 (by kernel_rfl)) _ rfl;go_simp;exact hK _ _ (hI.pure (by decide) (i:=2) (t:=40) (by decide) (fun _ _ _=>rfl) (by decide) (by decide) (by decide))
  refine⟨fun S a1 w1 hS hd hcl hI K hK=>?_,?_⟩
  ·obtain⟨h1,h2,h3,G,g2,cap2,h4,h5,h6⟩:=id hI
   have H2:Hid (a1.defers=[]):=h2;clear h2;have n15:S 15=false:=hcl.no (q:=15) rfl (by kernel_rfl) hS;have k0:a1.tmps.getD 40 undef=.pointer (some ⟨b,5,none⟩):=h4 (2,40) (by decide) (hd.at 2 (by kernel_rfl)) _ rfl;obtain⟨c0,-,-⟩:=hfar w1 (h5 n15).1
   go_simp;exact hK _ _ (hI.pure (by decide) (i:=3) (t:=41) (by decide) (fun _ _ _=>rfl) (by decide) (by decide) (by decide))
  refine⟨fun S a1 w1 hS hd hcl hI K hK=>?_,?_⟩
  ·obtain⟨h1,h2,h3,G,g2,cap2,h4,h5,h6⟩:=id hI
   have H2:Hid (a1.defers=[]):=h2;clear h2;have n15:S 15=false:=hcl.no (q:=15) rfl (by kernel_rfl) hS;have k0:a1.tmps.getD 0 undef=.pointer (some ⟨b,0,none⟩):=(h3 0 (by kernel_rfl)).trans h0;go_simp;exact hK _ _ (hI.pure (by decide) (i:=4) (t:=42) (by decide) (fun _ _ _=>rfl) (by decide) (by decide) (by decide))
  refine⟨fun S a1 w1 hS hd hcl hI K hK=>?_,?_⟩
  ·obtain⟨h1,h2,h3,G,g2,cap2,h4,h5,h6⟩:=id hI
   have H2:Hid (a1.defers=[]):=h2;clear h2;have n15:S 15=false:=hcl.no (q:=15) rfl (by kernel_rfl) hS;have k0:a1.tmps.getD 42 undef=.pointer (some ⟨b,0,none⟩):=h4 (4,42) (by decide) (hd.at 4 (by kernel_rfl)) _ rfl;go_simp;exact hK _ _ (hI.pure (by decide) (i:=5) (t:=43) (by decide) (fun _ _ _=>rfl) (by decide) (by decide) (by decide))
  refine⟨fun S a1 w1 hS hd hcl hI K hK=>?_,?_⟩
  ·obtain⟨h1,h2,h3,G,g2,cap2,h4,h5,h6⟩:=id hI
   have H2:Hid (a1.defers=[]):=h2;clear h2;have n15:S 15=false:=hcl.no (q:=15) rfl (by kernel_rfl) hS;have k0:a1.tmps.getD 43 undef=.pointer (some ⟨b,0,none⟩):=h4 (5,43) (by decide) (hd.at 5 (by kernel_rfl)) _ rfl;go_simp;exact hK _ _ (hI.pure (by decide) (i:=6) (t:=44) (by decide) (fun _ _ _=>rfl) (by decide) (by decide) (by decide))
  refine⟨fun S a1 w1 hS hd hcl hI K hK=>?_,?_⟩
  ·obtain⟨h1,h2,h3,G,g2,cap2,h4,h5,h6⟩:=id hI
   have H2:Hid (a1.defers=[]):=h2;clear h2;have n15:S 15=false:=hcl.no (q:=15) rfl (by kernel_rfl) hS;have k0:a1.tmps.getD 44 undef=.pointer (some ⟨b,5,none⟩):=h4 (6,44) (by decide) (hd.at 6 (by kernel_rfl)) _ rfl;obtain⟨c0,-,-⟩:=hfar w1 (h5 n15).1
   go_simp;exact hK _ _ (hI.pure (by decide) (i:=7) (t:=45) (by decide) (fun _ _ _=>rfl) (by decide) (by decide) (by decide))
  refine⟨fun S a1 w1 hS hd hcl hI K hK=>?_,?_⟩
  ·obtain⟨h1,h2,h3,G,g2,cap2,h4,h5,h6⟩:=id hI
   have H2:Hid (a1.defers=[]):=h2;clear h2;have n15:S 15=false:=hcl.no (q:=15) rfl (by kernel_rfl) hS;have k0:a1.tmps.getD 45 undef=.pointer (some ⟨hh,0,none⟩):=h4 (7,45) (by decide) (hd.at 7 (by kernel_rfl)) _ rfl;go_simp;exact hK _ _ (hI.pure (by decide) (i:=8) (t:=46) (by decide) (fun _ _ _=>rfl) (by decide) (by decide) (by decide))
  refine⟨fun S a1 w1 hS hd hcl hI K hK=>?_,?_⟩
  ·obtain⟨h1,h2,h3,G,g2,cap2,h4,h5,h6⟩:=id hI
   have H2:Hid (a1.defers=[]):=h2;clear h2;have n15:S 15=false:=hcl.no (q:=15) rfl (by kernel_rfl) hS;have k0:a1.tmps.getD 46 undef=.pointer (some ⟨hh,0,none⟩):=h4 (8,46) (by decide) (hd.at 8 (by kernel_rfl)) _ rfl;go_simp;exact hK _ _ (hI.pure (by decide) (i:=9) (t:=47) (by decide) (fun _ _ _=>rfl) (by decide) (by decide) (by decide))
  refine⟨fun S a1 w1 hS hd hcl hI K hK=>?_,?_⟩
  ·obtain⟨h1,h2,h3,G,g2,cap2,h4,h5,h6⟩:=id hI
   have H2:Hid (a1.defers=[]):=h2;clear h2;have n15:S 15=false:=hcl.no (q:=15) rfl (by kernel_rfl) hS;have k0:a1.tmps.getD 47 undef=.pointer (some ⟨hh,0,none⟩):=h4 (9,47) (by decide) (hd.at 9 (by kernel_rfl)) _ rfl;obtain⟨-,c0,-⟩:=hfar w1 (h5 n15).1
   go_simp;exact hK _ _ (hI.pure (by decide) (i:=10) (t:=48) (by decide) (fun _ _ _=>rfl) (by decide) (by decide) (by decide))
  refine⟨fun S a1 w1 hS hd hcl hI K hK=>?_,?_⟩
  ·obtain⟨h1,h2,h3,G,g2,cap2,h4,h5,h6⟩:=id hI
   have H2:Hid (a1.defers=[]):=h2;clear h2;have n15:S 15=false:=hcl.no (q:=15) rfl (by kernel_rfl) hS;have n12:S 12=false:=hcl.no (q:=12) rfl (by kernel_rfl) hS;have hb:=((h5 n15).2.1 n12).1;go_simp;have hta:49<a1.tmps.size:=by rw[h1];decide
   have hbA:Below wA.heap.size wA (w1.alloc (.cells #[.bool true] 4)):=hb.alloc hb.size _;refine hK _ _ ⟨by rw[← h1];simp[Act.put],H2.out,fun u hu=>?_,w1.heap.size,g2,cap2,fun x hx hs v hv=>?_,fun _=>⟨QgJ hbA _,fun _=>⟨hbA,fun _=>⟨hb.size,Qm _ _ _⟩⟩,fun hs=>?_⟩,fun hs=>?_⟩
   ·have:u≠49:=fun e=>by subst e;revert hu;decide
    show (a1.put (some 49) _).tmps.getD u undef=_;rw[Zp hta,if_neg this];exact h3 u hu
   ·show (a1.put (some 49) _).tmps.getD x.2 undef=_;rw[Zp hta]
    simp only[hTi,List.mem_cons,List.not_mem_nil,or_false] at hx
    rcases hx with rfl | rfl | rfl | rfl | rfl | rfl | rfl | rfl | rfl | rfl | rfl | rfl | rfl | rfl | rfl
    all_goals first | (rw[if_pos rfl];exact Option.some.inj hv) | (rw[if_neg (by decide)];exact h4 _ (by decide) (Zf (by decide) hs) v hv)
   ·rw[ZF (by decide),n12] at hs;cases hs
   ·rw[ZF (by decide),n15] at hs;cases hs
  refine⟨fun S a1 w1 hS hd hcl hI K hK=>?_,?_⟩
  ·obtain⟨h1,h2,h3,G,g2,cap2,h4,h5,h6⟩:=id hI
   have H2:Hid (a1.defers=[]):=h2;clear h2;have n15:S 15=false:=hcl.no (q:=15) rfl (by kernel_rfl) hS;have k0:a1.tmps.getD 48 undef=.slice ra s.H.length rc:=h4 (10,48) (by decide) (hd.at 10 (by kernel_rfl)) _ rfl;have k1:a1.tmps.getD 49 undef=.slice (some ⟨G,0,none⟩) 1 1:=h4 (11,49) (by decide) (hd.at 11 (by kernel_rfl)) _ rfl;have hb:=((h5 n15).2.1 hS).1;obtain⟨hG1,hG2⟩:=((h5 n15).2.1 hS).2 (hd.at 11 (by kernel_rfl))
   have hta:50<a1.tmps.size:=by rw[h1];decide
   have hown1:w1.ownsRow 0 4 1 (.slice ra s.H.length rc) s.H.length (s.H.map Value.bool):=by
    obtain⟨z1,z2⟩:=hown
    refine⟨z1,?_⟩
    rcases z2 with z | ⟨g,cap,cur,e,hg,hh9,r⟩
    ·exact .inl z
    ·exact .inr ⟨g,cap,cur,e,hg,(hb.block g (lt_of_block hh9)).trans hh9,r⟩
   refine wp_append_lies w1 (.tmp 48) (.tmp 49) 117 rfl 0 4 i0 (.bool false) 1 1 bUnder hi hz0 hz1 hz2 rfl (by decide) _ _ _ k0 hown1 ⟨G,0,none⟩ 1 1 [.bool true] k1 rfl (fun j u hj=>?_) (QkV _) (by decide) (by unfold maxLen;omega) (by omega) (by simp) w1.heap.size rfl ?_
   ·match j,hj with
    | 0, hj => have e:(Value.bool true)=u:=by simpa using hj
               subst e;exact Qb hG2 0 _ rfl
    | j+1,hj=>simp at hj
   intro g9 cap9 w9 r1 r2 r3 r4;have hs9:=hb.size;refine hK _ _ ⟨by rw[← h1];simp[Act.put],H2.out,fun u hu=>?_,G,g9,cap9,fun x hx hs v hv=>?_,fun _=>⟨(h5 n15).1.trans r2,fun hs=>?_,fun _=>⟨r1,r3.imp id (fun e=>by omega),r4⟩⟩,fun hs=>?_⟩
   ·have:u≠50:=fun e=>by subst e;revert hu;decide
    show (a1.put (some 50) _).tmps.getD u undef=_;rw[Zp hta,if_neg this];exact h3 u hu
   ·show (a1.put (some 50) _).tmps.getD x.2 undef=_;rw[Zp hta]
    simp only[hTi,List.mem_cons,List.not_mem_nil,or_false] at hx
    rcases hx with rfl | rfl | rfl | rfl | rfl | rfl | rfl | rfl | rfl | rfl | rfl | rfl | rfl | rfl | rfl
    all_goals first | (rw[if_pos rfl];exact Option.some.inj hv) | (rw[if_neg (by decide)];exact h4 _ (by decide) (Zf (by decide) hs) v hv)
   ·rw[Qh2] at hs;cases hs
   ·rw[ZF (by decide),n15] at hs;cases hs
  refine⟨fun S a1 w1 hS hd hcl hI K hK=>?_,?_⟩
  ·obtain⟨h1,h2,h3,G,g2,cap2,h4,h5,h6⟩:=id hI
   have H2:Hid (a1.defers=[]):=h2;clear h2;have n15:S 15=false:=hcl.no (q:=15) rfl (by kernel_rfl) hS;have k0:a1.tmps.getD 41 undef=.pointer (some ⟨hh,0,none⟩):=h4 (3,41) (by decide) (hd.at 3 (by kernel_rfl)) _ rfl;go_simp;exact hK _ _ (hI.pure (by decide) (i:=13) (t:=51) (by decide) (fun _ _ _=>rfl) (by decide) (by decide) (by decide))
  refine⟨fun S a1 w1 hS hd hcl hI K hK=>?_,?_⟩
  ·obtain⟨h1,h2,h3,G,g2,cap2,h4,h5,h6⟩:=id hI
   have H2:Hid (a1.defers=[]):=h2;clear h2;have n15:S 15=false:=hcl.no (q:=15) rfl (by kernel_rfl) hS;have k0:a1.tmps.getD 51 undef=.pointer (some ⟨hh,0,none⟩):=h4 (13,51) (by decide) (hd.at 13 (by kernel_rfl)) _ rfl;go_simp;exact hK _ _ (hI.pure (by decide) (i:=14) (t:=52) (by decide) (fun _ _ _=>rfl) (by decide) (by decide) (by decide))
  refine⟨fun S a1 w1 hS hd hcl hI K hK=>?_,?_⟩
  ·obtain⟨h1,h2,h3,G,g2,cap2,h4,h5,h6⟩:=id hI
   have H2:Hid (a1.defers=[]):=h2;clear h2;have n15:=hS;have k0:a1.tmps.getD 52 undef=.pointer (some ⟨hh,0,none⟩):=h4 (14,52) (by decide) (hd.at 14 (by kernel_rfl)) _ rfl;have k1:a1.tmps.getD 50 undef=.slice (some ⟨g2,0,none⟩) (s.H.length+1) cap2:=h4 (12,50) (by decide) (hd.at 12 (by kernel_rfl)) _ rfl;obtain⟨-,c0,f0⟩:=hfar w1 (h5 n15).1
   obtain⟨r1,r2,r3⟩:=(h5 n15).2.2 (hd.at 12 (by kernel_rfl))
   have Z:=hpush w1 g2 cap2 r1 (h5 n15).1 r2 r3;go_simp;refine hK _ _ ⟨h1,H2.out,h3,G,g2,cap2,fun x hx hs v hv=>h4 x hx (Zf (fun e=>?_) hs) v hv,fun hs=>?_,fun _=>Z⟩
   ·have:∀ x∈hTi,x.1≠15:=by decide
    exact this x hx e
   ·rw[Qh2] at hs;cases hs
  trivial
def TRi (w:World) (lo hi:Nat) (v:Value) (ts:List (TT 6)):Prop :=
 ∃ xs,w.ownsRow 0 70 3 v ts.length xs/\(∀ g,v.ownBlock=some g->lo<=g/\g<hi)/\∀ i x,ts[i]?=some x->(Lay.tt 6).In w (fun k=>lo<=k/\k<hi/\v.ownBlock≠some k) x ((xs.drop (i*3)).take 3)
theorem TRi.below {d:Nat}{c:List (TT 6)}(h:TRi w lo d v c) (k:Below w.heap.size w w'):TRi w' lo d v c:=by
 obtain⟨f,⟨m,o⟩,l,q⟩:=h
 refine⟨f,⟨m,?_⟩,l,fun i x n=>Ya (q i x n) k⟩
 rcases o with j | ⟨g,b,a,rfl,p,e,r⟩
 ·exact .inl j
 ·exact .inr ⟨g,b,a,Z,p,(k.block g (XC e)).trans e,r⟩
theorem TRi.of_row {d:List (TT 6)}(h:QcN w lo v d xs) (n:∀ x∈d,x.ok):TRi w lo w.heap.size v d:=by
 have y:=fun {g} b=>h.lo_le (g:=g) b;obtain⟨⟨s,t⟩,z⟩:=h
 refine⟨xs,⟨s,?_⟩,fun g b=>y b,fun i x e=>?_⟩
 ·rcases t with p | ⟨g,m,f,rfl,b,r⟩
  ·exact .inl p
  ·exact .inr ⟨g,m,f,Z,Xb _,r⟩
 ·obtain⟨a,c,o,u,q,k⟩:=z i x e
  refine⟨a,c,?_,k.mono (fun g b l=>⟨b.1,l,b.2⟩),n x (Zm e)⟩
  have A:i<d.length:=(Zi e).1;refine List.ext_getElem? fun j=>?_;rw[XR,List.getElem?_drop]
  match j with
  | 0=>simpa using o
  | 1=>simpa using u
  | 2=>simpa using q
  | j+3=>rw[Xr (by omega)];rfl
structure KZ where
 h:Nat
 lo:Nat
 hi:Nat
 lo2:Nat
 hi2:Nat
 B:Nat
 c:Nat
 a:Option Addr
def kTi:List (Nat × Tmp):=[(0,17),(1,18),(2,19),(3,20),(4,21),(5,22),(6,23),(7,24),(8,25),(9,26),(10,27),(11,28),(12,29),(13,30),(14,6)]
def kMv (X mg mo nm cm fi Bk n1 d1 fl fc fm fd fn ff:Nat) (fr gr:Int) (fa fb fe p1:Option Addr) (z:KZ):List (Tmp × Value):=[(17,.agg #[.slice (some ⟨mg,mo,none⟩) nm cm]),(18,.pointer (some ⟨X,0,none⟩)),(19,.slice (some ⟨mg,mo,none⟩) nm cm),(20,.int .i64 (fi:Int)),(21,.pointer (some ⟨mg,mo+fi*4,none⟩)),(22,.agg #[.int .i64 fr,.slice fa fl fc,.slice fb fm fd,.slice fe fn ff]),(23,.pointer (some ⟨Bk,0,none⟩)),(24,.int .i64 gr),(25,.pointer (some ⟨z.h,0,none⟩)),(26,.pointer (some ⟨Bk,1,none⟩)),(27,.slice p1 n1 d1),(28,.slice z.a n1 z.c),(29,.agg #[.slice (some ⟨mg,mo,none⟩) nm cm,.int .i64 fr,.slice fa fl fc,.slice fb fm fd,.slice fe fn ff,.pointer (some ⟨z.h,0,none⟩),.slice z.a n1 z.c]),(30,.pointer (some ⟨z.B,0,none⟩)),(6,.pointer (some ⟨z.B,0,none⟩))]
structure KIv (X mg mo nm cm fi Bk n1 d1 fl fc fm fd fn ff:Nat) (fr gr:Int) (fa fb fe p1:Option Addr) (n:Nat) (a0:Act) (w6:World) (ts:List (TT 6)) (z:KZ) (S:Nat->Bool) (a:Act) (w:World):Prop where
 size:a.tmps.size=n
 defers:a.defers=[]
 outer:∀ t,([17,18,19,20,21,22,23,24,25,26,27,28,29,30,6]:List Tmp).contains t=false->a.tmps.getD t undef=a0.tmps.getD t undef
 vals:∀ x∈kTi,S x.1=true->∀ v,(kMv X mg mo nm cm fi Bk n1 d1 fl fc fm fd fn ff fr gr fa fb fe p1 z).lookup x.2=some v->a.tmps.getD x.2 undef=v
 bel:Below w6.heap.size w6 w
 held:S 8=true->w6.heap.size<=z.lo/\z.hi<=w.heap.size/\Qr w z.h (fun k=>z.lo<=k/\k<z.hi) (QcY gr)
 row:S 11=true->w6.heap.size<=z.lo2/\z.hi2<=w.heap.size/\TRi w z.lo2 z.hi2 (.slice z.a n1 z.c) ts
 apart:S 8=true->S 11=true->z.hi<=z.lo2\/z.hi2<=z.lo
 box:S 13=true->w6.heap.size<=z.B/\z.hi<=z.B/\z.hi2<=z.B/\Blk w z.B #[.slice (some ⟨mg,mo,none⟩) nm cm,.int .i64 fr,.slice fa fl fc,.slice fb fm fd,.slice fe fn ff,.pointer (some ⟨z.h,0,none⟩),.slice z.a n1 z.c] 114
section
variable {X mg mo nm cm fi Bk n1 d1 fl fc fm fd fn ff:Nat}{fr gr:Int}{fa fb fe p1:Option Addr}{n:Nat}{a0 a:Act}{w6 w w':World}{ts:List (TT 6)}{z:KZ}{S:Nat->Bool}
theorem kTi_lt:∀ x∈kTi,x.2<31/\([17,18,19,20,21,22,23,24,25,26,27,28,29,30,6]:List Tmp).contains x.2=true:=by decide
theorem kTi_ne:∀ x∈kTi,∀ y∈kTi,x.1=y.1->x.2=y.2:=by decide
theorem KIv.put {z':KZ}{t:Tmp}(g:KIv X mg mo nm cm fi Bk n1 d1 fl fc fm fd fn ff fr gr fa fb fe p1 n a0 w6 ts z S a w) (s:31<=n) (p:(i,t)∈kTi) (D:(kMv X mg mo nm cm fi Bk n1 d1 fl fc fm fd fn ff fr gr fa fb fe p1 z').lookup t=some v) (y:∀ x∈kTi,x.1≠i->S x.1=true->(kMv X mg mo nm cm fi Bk n1 d1 fl fc fm fd fn ff fr gr fa fb fe p1 z').lookup x.2=(kMv X mg mo nm cm fi Bk n1 d1 fl fc fm fd fn ff fr gr fa fb fe p1 z).lookup x.2)
 (H:Below w6.heap.size w6 w') (r:Qbz i S 8=true->w6.heap.size<=z'.lo/\z'.hi<=w'.heap.size/\Qr w' z'.h (fun k=>z'.lo<=k/\k<z'.hi) (QcY gr)) (G:Qbz i S 11=true->w6.heap.size<=z'.lo2/\z'.hi2<=w'.heap.size/\TRi w' z'.lo2 z'.hi2 (.slice z'.a n1 z'.c) ts)
 (E:Qbz i S 8=true->Qbz i S 11=true->z'.hi<=z'.lo2\/z'.hi2<=z'.lo) (A:Qbz i S 13=true->w6.heap.size<=z'.B/\z'.hi<=z'.B/\z'.hi2<=z'.B/\Blk w' z'.B #[.slice (some ⟨mg,mo,none⟩) nm cm,.int .i64 fr,.slice fa fl fc,.slice fb fm fd,.slice fe fn ff,.pointer (some ⟨z'.h,0,none⟩),.slice z'.a n1 z'.c] 114) :
 KIv X mg mo nm cm fi Bk n1 d1 fl fc fm fd fn ff fr gr fa fb fe p1 n a0 w6 ts z' (Qbz i S) (a.put (some t) v) w':=by
 obtain⟨I,o⟩:=kTi_lt _ p
 have d:t<a.tmps.size:=by rw[g.size];exact Zl I s
 refine⟨by rw[<-g.size];simp[Act.put],g.defers,fun u m=>?_,fun x l q F b=>?_,H,r,G,E,A⟩
 ·have:u≠t:=fun e=>by subst e;rw[o] at m;cases m
  rw[Zp d,Xr this];exact g.outer u m
 ·rw[Zp d]
  by_cases e:x.2=t
  ·rw[Xs e];rw[e,D] at b;exact Xn b
  ·rw[Xr e]
   have j:x.1≠i:=fun C=>e (kTi_ne x l (i,t) p C);have f:=Zf j q;rw[y x l j f] at b
   exact g.vals x l f F b
theorem KIv.pure {t:Tmp}(b:KIv X mg mo nm cm fi Bk n1 d1 fl fc fm fd fn ff fr gr fa fb fe p1 n a0 w6 ts z S a w) (g:31<=n) (f:(i,t)∈kTi) (h:(kMv X mg mo nm cm fi Bk n1 d1 fl fc fm fd fn ff fr gr fa fb fe p1 z).lookup t=some v) (e:i≠8) (c:i≠11) (d:i≠13):KIv X mg mo nm cm fi Bk n1 d1 fl fc fm fd fn ff fr gr fa fb fe p1 n a0 w6 ts z (Qbz i S) (a.put (some t) v) w:=by
 refine b.put g f h (fun _ _ _ _=>rfl) b.bel ?_ ?_ ?_ ?_
 ·rw[ZF (Ne.symm e)];exact b.held
 ·rw[ZF (Ne.symm c)];exact b.row
 ·rw[ZF (Ne.symm e),ZF (Ne.symm c)];exact b.apart
 ·rw[ZF (Ne.symm d)];exact b.box
end
def Qly (X mg mo nm cm fi Bk n1 d1 fl fc fm fd fn ff:Nat) (fr gr:Int) (fa fb fe p1:Option Addr) (w6 w':World) (ts:List (TT 6)) (B:Nat):Prop :=
 ∃ h vL O',Blk w' B #[.slice (some ⟨mg,mo,none⟩) nm cm,.int .i64 fr,.slice fa fl fc,.slice fb fm fd,.slice fe fn ff,.pointer (some ⟨h,0,none⟩),vL] 114/\Qr w' h O' (QcY gr)/\(∃ xs,w'.ownsRow 0 70 3 vL ts.length xs/\(∀ g,vL.ownBlock=some g->O' g)/\∀ i x,ts[i]?=some x->(Lay.tt 6).In w' (fun g=>¬ O' g/\w6.heap.size<=g) x ((xs.drop (i*3)).take 3))/\O' B/\(∀ k,O' k->w6.heap.size<=k/\k<w'.heap.size)/\Below w6.heap.size w6 w'
theorem KIv.fin {y t s q fn o:Nat}{u:Int}{p fb fe:Option Addr}{a0 a:Act}{m:List (TT 6)}{z:KZ}{S:Nat->Bool}(d:KIv X y t s cm fi q n1 d1 fl fc fm fd fn o fr u p fb fe p1 n a0 w6 m z S a w) (v:S 8=true) (f:S 11=true) (l:S 13=true):Qly X y t s cm fi q n1 d1 fl fc fm fd fn o fr u p fb fe p1 w6 w m z.B:=by
 obtain⟨p1,M,E⟩:=d.held v
 obtain⟨L,N,A,I,F,G⟩:=d.row f
 have O:=d.apart v f;obtain⟨D,P,J,r⟩:=d.box l
 have j:=XC r;refine⟨z.h,_,fun k=>k=z.B\/(z.lo<=k/\k<z.hi)\/(Value.slice z.a n1 z.c).ownBlock=some k,r,E.mono (fun k b=>.inr (.inl b)),⟨A,I,fun g H=>.inr (.inr H),fun i x C=>?_⟩,.inl Z,fun k b=>?_,d.bel⟩
 ·refine(Lay.tt 6).keep (fun _ _ _=>rfl) (fun k b K=>⟨fun e=>?_,by omega⟩) (G i x C)
  rcases e with e | e | e
  ·omega
  ·omega
  ·exact b.2.2 e
 ·rcases b with rfl | b | b
  ·exact⟨D,j⟩
  ·omega
  ·have:=F k b;omega
theorem ka2 {w u C A fn G:Nat}{V:Int}{H fb fe:Option Addr}{F:List (TT 6)}(x0:w6.cell? ⟨X,0,none⟩=some (.slice (some ⟨w,u,none⟩) C cm)) (ad:(fi:Int)<C) (f0:w6.cell? ⟨w,u+fi*4,none⟩=some (.int .i64 fr)) (f1:w6.cell? ⟨w,u+fi*4+1,none⟩=some (.slice H fl fc)) (f2:w6.cell? ⟨w,u+fi*4+2,none⟩=some (.slice fb fm fd)) (f3:w6.cell? ⟨w,u+fi*4+3,none⟩=some (.slice fe fn G))
 (y0:w6.cell? ⟨A,0,none⟩=some (.int .i64 V)) (y1:w6.cell? ⟨A,1,none⟩=some (.slice p1 n1 d1)) (HN:Hid (F.length=n1)) (HT:Hid ((Qi 6).In w6 Q F [.slice p1 n1 d1])) (HC:Hid (∀ t∈F,t.count<=100000)) (aa:n1<=100000)
 (a:Act) (hn:a.tmps.size=31) (U:a.defers=[]) (h3:a.tmps.getD 3 undef=.pointer (some ⟨X,0,none⟩)) (h1:a.tmps.getD 1 undef=.int .i64 (fi:Int)) (h7:a.tmps.getD 7 undef=.pointer (some ⟨A,0,none⟩)) :
 Code.wp prog ((Tryz.f42.body.bind (Qo 2)).getD .skip) (fun e a' w'=>e=.normal/\∃ vs,a'=Zn a vs [17,18,19,20,21,22,23,24,25,26,27,28,29,30,6]/\∃ B,vs 6=.pointer (some ⟨B,0,none⟩)/\Qly X w u C cm fi A n1 d1 fl fc fm fd fn G fr V H fb fe p1 w6 w' F B) a w6:=by
 conv=>arg 2;whnf
 refine QbZ (fun S g n=>∃ z,KIv X w u C cm fi A n1 d1 fl fc fm fd fn G fr V H fb fe p1 31 a w6 F z S g n) (by kernel_rfl) (by kernel_rfl) ?h0 ?hst ?hend
 case h0=>exact⟨⟨0,0,0,0,0,0,0,none⟩,⟨hn,U,fun _ _=>rfl,fun _ _ h=>(by cases h),Qg Zr 1,fun h=>(by cases h),fun h=>(by cases h),fun h=>(by cases h),fun h=>(by cases h)⟩⟩
 case hend =>
  rintro S a' w' p ⟨z,b⟩;have D:∀ j,j<15->S j=true:=p;exact⟨Z,_,QfG (by rw[b.size,hn]) (by rw[b.defers,U]) b.outer,z.B,b.vals (14,6) (by decide) (D 14 (by decide)) _ Z,b.fin (D 8 (by decide)) (D 11 (by decide)) (D 13 (by decide))⟩
 case hst =>
  refine⟨fun S g n p k f d K m=>?_,?_⟩
  ·obtain⟨z,b⟩:=d
   have l:=b.bel;have s:g.tmps.getD 3 undef=.pointer (some ⟨X,0,none⟩):=(b.outer 3 (by kernel_rfl)).trans h3;have W:=Qp x0 l;go_simp;exact m _ _ ⟨z,b.pure (by decide) (i:=0) (t:=17) (by decide) Z (by decide) (by decide) (by decide)⟩
  refine⟨fun S g n p k f d K m=>?_,?_⟩
  ·obtain⟨z,b⟩:=d
   have l:=b.bel;have s:g.tmps.getD 3 undef=.pointer (some ⟨X,0,none⟩):=(b.outer 3 (by kernel_rfl)).trans h3;go_simp;exact m _ _ ⟨z,b.pure (by decide) (i:=1) (t:=18) (by decide) Z (by decide) (by decide) (by decide)⟩
  refine⟨fun S g n p k f d K m=>?_,?_⟩
  ·obtain⟨z,b⟩:=d
   have l:=b.bel;have s:g.tmps.getD 18 undef=.pointer (some ⟨X,0,none⟩):=b.vals (1,18) (by decide) (k.at 1 (by kernel_rfl)) _ Z;have W:=Qp x0 l;go_simp;exact m _ _ ⟨z,b.pure (by decide) (i:=2) (t:=19) (by decide) Z (by decide) (by decide) (by decide)⟩
  refine⟨fun S g n p k f d K m=>?_,?_⟩
  ·obtain⟨z,b⟩:=d
   have l:=b.bel;have s:g.tmps.getD 1 undef=.int .i64 (fi:Int):=(b.outer 1 (by kernel_rfl)).trans h1;go_simp;exact m _ _ ⟨z,b.pure (by decide) (i:=3) (t:=20) (by decide) Z (by decide) (by decide) (by decide)⟩
  refine⟨fun S g n p k f d K m=>?_,?_⟩
  ·obtain⟨z,b⟩:=d
   have l:=b.bel;have s:g.tmps.getD 19 undef=.slice (some ⟨w,u,none⟩) C cm:=b.vals (2,19) (by decide) (k.at 2 (by kernel_rfl)) _ Z;have k1:g.tmps.getD 20 undef=.int .i64 (fi:Int):=b.vals (3,20) (by decide) (k.at 3 (by kernel_rfl)) _ Z;go_simp;exact m _ _ ⟨z,b.pure (by decide) (i:=4) (t:=21) (by decide) Z (by decide) (by decide) (by decide)⟩
  refine⟨fun S g n p k f d K m=>?_,?_⟩
  ·obtain⟨z,b⟩:=d
   have l:=b.bel;have s:g.tmps.getD 21 undef=.pointer (some ⟨w,u+fi*4,none⟩):=b.vals (4,21) (by decide) (k.at 4 (by kernel_rfl)) _ Z;have W:=Qp f0 l;have c1:=Qp f1 l;have c2:=Qp f2 l;have c3:=Qp f3 l;go_simp;exact m _ _ ⟨z,b.pure (by decide) (i:=5) (t:=22) (by decide) Z (by decide) (by decide) (by decide)⟩
  refine⟨fun S g n p k f d K m=>?_,?_⟩
  ·obtain⟨z,b⟩:=d
   have l:=b.bel;have s:g.tmps.getD 7 undef=.pointer (some ⟨A,0,none⟩):=(b.outer 7 (by kernel_rfl)).trans h7;go_simp;exact m _ _ ⟨z,b.pure (by decide) (i:=6) (t:=23) (by decide) Z (by decide) (by decide) (by decide)⟩
  refine⟨fun S g n p k f d K m=>?_,?_⟩
  ·obtain⟨z,b⟩:=d
   have l:=b.bel;have s:g.tmps.getD 23 undef=.pointer (some ⟨A,0,none⟩):=b.vals (6,23) (by decide) (k.at 6 (by kernel_rfl)) _ Z;have W:=Qp y0 l;go_simp;exact m _ _ ⟨z,b.pure (by decide) (i:=7) (t:=24) (by decide) Z (by decide) (by decide) (by decide)⟩
  refine⟨fun S g n p k f d K m=>?_,?_⟩
  ·obtain⟨z,b⟩:=d
   have l:=b.bel;have s:g.tmps.getD 24 undef=.int .i64 V:=b.vals (7,24) (by decide) (k.at 7 (by kernel_rfl)) _ Z;have M:S 12=false:=f.no (q:=12) Z (by kernel_rfl) p;have L:S 13=false:=f.no (q:=13) Z (by kernel_rfl) p;have I:S 14=false:=f.no (q:=14) Z (by kernel_rfl) p;go_simp;refine(Qfn n V).mono ?_
   rintro e w9 ⟨rfl,r1,R⟩;have r:=l.size;have v:=R.size;refine m _ _ ⟨{ z with h:=n.heap.size,lo:=n.heap.size,hi:=w9.heap.size },b.put (by decide) (i:=8) (t:=25) (by decide) Z (fun x E y o=>?_) (l.trans (R.mono r)) (fun _=>⟨r,Ze,r1⟩) (fun o=>?_) (fun _ o=>?_) (fun o=>?_)⟩
   ·simp only[kTi,List.mem_cons,List.not_mem_nil,or_false] at E
    rcases E with rfl | rfl | rfl | rfl | rfl | rfl | rfl | rfl | rfl | rfl | rfl | rfl | rfl | rfl | rfl
    all_goals first | rfl | (exact absurd o (by rw[M];decide)) | (exact absurd Z y)
   ·rw[ZF (by decide)] at o
    obtain⟨N,O,P⟩:=b.row o
    exact⟨N,Zt O v,P.below R⟩
   ·rw[ZF (by decide)] at o
    exact .inr (b.row o).2.1
   ·rw[ZF (by decide),L] at o;cases o
  refine⟨fun S g n p k f d K m=>?_,?_⟩
  ·obtain⟨z,b⟩:=d
   have l:=b.bel;have s:g.tmps.getD 7 undef=.pointer (some ⟨A,0,none⟩):=(b.outer 7 (by kernel_rfl)).trans h7;go_simp;exact m _ _ ⟨z,b.pure (by decide) (i:=9) (t:=26) (by decide) Z (by decide) (by decide) (by decide)⟩
  refine⟨fun S g n p k f d K m=>?_,?_⟩
  ·obtain⟨z,b⟩:=d
   have l:=b.bel;have s:g.tmps.getD 26 undef=.pointer (some ⟨A,1,none⟩):=b.vals (9,26) (by decide) (k.at 9 (by kernel_rfl)) _ Z;have W:=Qp y1 l;go_simp;exact m _ _ ⟨z,b.pure (by decide) (i:=10) (t:=27) (by decide) Z (by decide) (by decide) (by decide)⟩
  refine⟨fun S g n p k f d K m=>?_,?_⟩
  ·obtain⟨z,b⟩:=d
   have l:=b.bel;have s:g.tmps.getD 27 undef=.slice p1 n1 d1:=b.vals (10,27) (by decide) (k.at 10 (by kernel_rfl)) _ Z;have M:S 12=false:=f.no (q:=12) Z (by kernel_rfl) p;have L:S 13=false:=f.no (q:=13) Z (by kernel_rfl) p;have I:S 14=false:=f.no (q:=14) Z (by kernel_rfl) p
   have CL:Calls prog 37 #[.slice p1 n1 d1] n fun e w'=>∃ a' T,e=.returned (.slice a' n1 T)/\TRi w' n.heap.size w'.heap.size (.slice a' n1 T) F/\Below n.heap.size n w':=by
    obtain⟨tl,ab⟩:=QK (Ya HT.out l)
    have:=Qgn 6 (own_any 6) F p1 d1 n tl.all (by rw[HN.out];exact aa) HC.out
    rw[HN.out] at this
    refine this.mono ?_;rintro e w9 ⟨a',T,rfl,⟨xs,hr⟩,ac⟩;exact⟨a',T,Z,TRi.of_row hr ab,ac⟩
   go_simp;refine CL.mono ?_;rintro e w9 ⟨a',T,rfl,r1,R⟩;have r:=l.size;have v:=R.size;refine m _ _ ⟨{ z with a:=a',c:=T,lo2:=n.heap.size,hi2:=w9.heap.size },b.put (by decide) (i:=11) (t:=28) (by decide) Z (fun x E y o=>?_) (l.trans (R.mono r)) (fun o=>?_) (fun _=>⟨r,Ze,r1⟩) (fun o _=>?_) (fun o=>?_)⟩
   ·simp only[kTi,List.mem_cons,List.not_mem_nil,or_false] at E
    rcases E with rfl | rfl | rfl | rfl | rfl | rfl | rfl | rfl | rfl | rfl | rfl | rfl | rfl | rfl | rfl
    all_goals first | rfl | (exact absurd o (by rw[M];decide)) | (exact absurd Z y)
   ·rw[ZF (by decide)] at o
    obtain⟨N,O,P⟩:=b.held o
    exact⟨N,Zt O v,P.below R⟩
   ·rw[ZF (by decide)] at o
    exact .inl (b.held o).2.1
   ·rw[ZF (by decide),L] at o;cases o
  refine⟨fun S g n p k f d K m=>?_,?_⟩
  ·obtain⟨z,b⟩:=d
   have l:=b.bel;have s:g.tmps.getD 17 undef=.agg #[.slice (some ⟨w,u,none⟩) C cm]:=b.vals (0,17) (by decide) (k.at 0 (by kernel_rfl)) _ Z;have k1:g.tmps.getD 22 undef=.agg #[.int .i64 fr,.slice H fl fc,.slice fb fm fd,.slice fe fn G]:=b.vals (5,22) (by decide) (k.at 5 (by kernel_rfl)) _ Z;have k2:g.tmps.getD 25 undef=.pointer (some ⟨z.h,0,none⟩):=b.vals (8,25) (by decide) (k.at 8 (by kernel_rfl)) _ Z;have k3:g.tmps.getD 28 undef=.slice z.a n1 z.c:=b.vals (11,28) (by decide) (k.at 11 (by kernel_rfl)) _ Z;have m0:g.tmps[17]?.getD undef=.agg #[.slice (some ⟨w,u,none⟩) C cm]:=by rw[<-Za];exact s
   have m1:g.tmps[22]?.getD undef=.agg #[.int .i64 fr,.slice H fl fc,.slice fb fm fd,.slice fe fn G]:=by rw[<-Za];exact k1
   have m2:g.tmps[25]?.getD undef=.pointer (some ⟨z.h,0,none⟩):=by rw[<-Za];exact k2
   have m3:g.tmps[28]?.getD undef=.slice z.a n1 z.c:=by rw[<-Za];exact k3
   clear s k1 k2 k3;go_simp;exact m _ _ ⟨z,b.pure (by decide) (i:=12) (t:=29) (by decide) Z (by decide) (by decide) (by decide)⟩
  refine⟨fun S g n p k f d K m=>?_,?_⟩
  ·obtain⟨z,b⟩:=d
   have l:=b.bel;have s:g.tmps.getD 29 undef=.agg #[.slice (some ⟨w,u,none⟩) C cm,.int .i64 fr,.slice H fl fc,.slice fb fm fd,.slice fe fn G,.pointer (some ⟨z.h,0,none⟩),.slice z.a n1 z.c]:=b.vals (12,29) (by decide) (k.at 12 (by kernel_rfl)) _ Z;have I:S 14=false:=f.no (q:=14) Z (by kernel_rfl) p;have s8:S 8=true:=(f.via (q:=12) Z (by kernel_rfl) (k.at 12 (by kernel_rfl)));have J:S 11=true:=(f.via (q:=12) Z (by kernel_rfl) (k.at 12 (by kernel_rfl)));go_simp;have b9:=QU n (.cells #[.slice (some ⟨w,u,none⟩) C cm,.int .i64 fr,.slice H fl fc,.slice fb fm fd,.slice fe fn G,.pointer (some ⟨z.h,0,none⟩),.slice z.a n1 z.c] 114);have r:=l.size;have v:=b9.size;refine m _ _ ⟨{ z with B:=n.heap.size },b.put (by decide) (i:=13) (t:=30) (by decide) Z (fun x E y o=>?_) (l.trans (b9.mono r)) (fun o=>?_) (fun o=>?_) (fun _ _=>b.apart s8 J) (fun o=>⟨r,(b.held s8).2.1,(b.row J).2.1,Qm _ _ _⟩)⟩
   ·simp only[kTi,List.mem_cons,List.not_mem_nil,or_false] at E
    rcases E with rfl | rfl | rfl | rfl | rfl | rfl | rfl | rfl | rfl | rfl | rfl | rfl | rfl | rfl | rfl
    all_goals first | rfl | (exact absurd o (by rw[I];decide)) | (exact absurd Z y)
   ·obtain⟨N,O,P⟩:=b.held s8
    exact⟨N,Zt O v,P.below b9⟩
   ·obtain⟨N,O,P⟩:=b.row J
    exact⟨N,Zt O v,P.below b9⟩
  refine⟨fun S g n p k f d K m=>?_,?_⟩
  ·obtain⟨z,b⟩:=d
   have l:=b.bel;have s:g.tmps.getD 30 undef=.pointer (some ⟨z.B,0,none⟩):=b.vals (13,30) (by decide) (k.at 13 (by kernel_rfl)) _ Z;go_simp;exact m _ _ ⟨z,b.pure (by decide) (i:=14) (t:=6) (by decide) Z (by decide) (by decide) (by decide)⟩
  trivial
theorem QfC {m:List (Qf 6)}{f:Qf 6}{g:Qe 6}{bi:Nat}(hm:(QaH 6).In w Q m [.slice pm m.length cm]) (W:m[fi]?=some f) (hg:f.blocks[bi]?=some g) (hc:∀ t∈g.params,t.count<=100000) (hn:g.params.length<=100000) :
 Calls prog 42 #[.agg #[.slice pm m.length cm],.int .i64 (fi:Int),.int .i64 (bi:Int)] w fun e w'=>∃ B O',e=.returned (.pointer (some ⟨B,0,none⟩))/\KAt w' B O' (JSt.start m f g)/\(∀ k,O' k->w.heap.size<=k/\k<w'.heap.size)/\Below w.heap.size w w':=by
 obtain⟨q,y,ds,rfl,-,-,o,H⟩:=Yf hm W
 obtain⟨fa,fc,fb,fd,fe,ff,rfl,-,-,N,-⟩:=Z3 H
 obtain⟨eg,V,F,E,I,rfl,d,R,C,D⟩:=Qas N hg
 have P:(fi:Int)<m.length:=by have:=(Zi W).1;omega
 have ad:(bi:Int)<f.blocks.length:=by have:=(Zi hg).1;omega
 have aj:(0:Int)<=fi:=by omega
 have ak:(0:Int)<=bi:=by omega
 have v0:w.cell? ⟨q,y+fi*4,none⟩=some (.int .i64 f.regs):=o 0 (by decide);have v1:w.cell? ⟨q,y+fi*4+1,none⟩=some (.slice fa f.params.length fc):=o 1 (by decide);have v2:w.cell? ⟨q,y+fi*4+2,none⟩=some (.slice fb f.results.length fd):=o 2 (by decide);have v3:w.cell? ⟨q,y+fi*4+3,none⟩=some (.slice (some ⟨eg,V,none⟩) f.blocks.length ff):=o 3 (by decide);have b1:=QU w (.cells #[.slice (some ⟨q,y,none⟩) m.length cm] 24);have A:=Qm w #[.slice (some ⟨q,y,none⟩) m.length cm] 24;have HM:Hid ((QaH 6).In w Q m [.slice (some ⟨q,y,none⟩) m.length cm]):=hm;have HF:Hid ((ZR 6).In w Q f [.int .i64 f.regs,.slice fa f.params.length fc,.slice fb f.results.length fd,.slice (some ⟨eg,V,none⟩) f.blocks.length ff]):=H;have HP:Hid ((Qi 6).In w Q g.params [.slice F g.params.length E]):=C;have ag:=Qa d;have M:=Qa D;have ai:=Qa R;have HC:=Qa hc;have al:=Qa W;have am:=Qa hg;have L:=Qb A 0 _ Yz;have u3:=Qp v3 b1;clear o H N d R C D hc W hg hm A;go_enter func42,ntmps42
 have p:=Qa b1;have l:Hid ((w.alloc (.cells #[.slice (some ⟨q,y,none⟩) m.length cm] 24)).rangeAt eg (V+bi*12) (Value.int .i64 g.regs::Value.slice F g.params.length E::I)):=ZD ag.out b1;have z:Hid ((Value.int .i64 g.regs::Value.slice F g.params.length E::I).length=12):=by show _=_;simp[ai.out]
 have TS:Hid ((prog.info? 60).map (·.size)=some (Value.int .i64 g.regs::Value.slice F g.params.length E::I).length):=by show _=_;rw[z.out];exact sizeBk
 clear b1;go_upto_region 1 with fail
 obtain⟨X,hX⟩:∃ X,w.heap.size=X:=⟨_,Yz⟩
 have HX:Hid (w.heap.size=X):=hX;generalize w.alloc (.cells #[.slice (some ⟨q,y,none⟩) m.length cm] 24)=a at L u3 p l |-;rw[hX] at L |-
 clear hX;generalize s:(Value.int .i64 g.regs::Value.slice F g.params.length E::I)=c at l TS;have ah:Hid ((Value.int .i64 g.regs::Value.slice F g.params.length E::I)=c):=s;have u:c.length=12:=by rw[<-s];exact z.out
 have TH:Hid ((a.alloc (.cells #[.int .i64 0,.slice none 0 0,.slice none 0 0,.int .i64 0,.int .i64 0,.int .i64 0,.slice none 0 0,.slice none 0 0,.int .i64 0,.slice none 0 0,.slice none 0 0,.slice none 0 0] 60)).there a.heap.size 0 c.toArray.size):=by
  intro j hj;rw[List.size_toArray,u] at hj
  rw[XK]
  have hB:=Qm a #[.int .i64 0,.slice none 0 0,.slice none 0 0,.int .i64 0,.int .i64 0,.int .i64 0,.slice none 0 0,.slice none 0 0,.int .i64 0,.slice none 0 0,.slice none 0 0,.slice none 0 0] 60;refine⟨?_,Qn hB j⟩
  rw[Qb hB j ((#[.int .i64 0,.slice none 0 0,.slice none 0 0,.int .i64 0,.int .i64 0,.int .i64 0,.slice none 0 0,.slice none 0 0,.int .i64 0,.slice none 0 0,.slice none 0 0,.slice none 0 0]:Array Value)[j]'hj) (by simp)];rfl
 have S:Hid ((prog.info? 60).map (·.size)=some c.toArray.size):=by show _=_;rw[List.size_toArray];exact TS.out
 have TO:Hid (c.toArray.all (·.oneCell')=true):=by
  refine all_oneCell_toArray fun v K=>?_;rw[<-s] at K
  simp only[List.mem_cons] at K
  rcases K with rfl | rfl | K
  ·rfl
  ·rfl
  ·exact M.out v K
 have G:Hid (Blk ((a.alloc (.cells #[.int .i64 0,.slice none 0 0,.slice none 0 0,.int .i64 0,.int .i64 0,.int .i64 0,.slice none 0 0,.slice none 0 0,.int .i64 0,.slice none 0 0,.slice none 0 0,.slice none 0 0] 60)).setCells a.heap.size 0 c.toArray.toList) a.heap.size c.toArray 60):=by
  have h0:Blk (a.alloc (.cells #[.int .i64 0,.slice none 0 0,.slice none 0 0,.int .i64 0,.int .i64 0,.int .i64 0,.slice none 0 0,.slice none 0 0,.int .i64 0,.slice none 0 0,.slice none 0 0,.slice none 0 0] 60)) a.heap.size ([]++(#[.int .i64 0,.slice none 0 0,.slice none 0 0,.int .i64 0,.int .i64 0,.int .i64 0,.slice none 0 0,.slice none 0 0,.int .i64 0,.slice none 0 0,.slice none 0 0,.slice none 0 0]:Array Value).toList).toArray 60:=Qm a _ _;exact Blk.sets c [] (#[.int .i64 0,.slice none 0 0,.slice none 0 0,.int .i64 0,.int .i64 0,.int .i64 0,.slice none 0 0,.slice none 0 0,.int .i64 0,.slice none 0 0,.slice none 0 0,.slice none 0 0]:Array Value).toList _ (by rw[u];rfl) h0
 have b6:Hid (Below a.heap.size a ((a.alloc (.cells #[.int .i64 0,.slice none 0 0,.slice none 0 0,.int .i64 0,.int .i64 0,.int .i64 0,.slice none 0 0,.slice none 0 0,.int .i64 0,.slice none 0 0,.slice none 0 0,.slice none 0 0] 60)).setCells a.heap.size 0 c.toArray.toList)):=by
  have:=Zw.setCells (O:=fun k=>k=a.heap.size) (O':=fun k=>k=a.heap.size) (b:=a.heap.size) Yz c.toArray.toList 0 _ (Zw.refl _ (a.alloc (.cells #[.int .i64 0,.slice none 0 0,.slice none 0 0,.int .i64 0,.int .i64 0,.int .i64 0,.slice none 0 0,.slice none 0 0,.int .i64 0,.slice none 0 0,.slice none 0 0,.slice none 0 0] 60)))
  exact(QU a _).trans (this.below (by simp) (fun k U=>by omega))
 have G:Hid (Blk ((a.alloc (.cells #[.int .i64 0,.slice none 0 0,.slice none 0 0,.int .i64 0,.int .i64 0,.int .i64 0,.slice none 0 0,.slice none 0 0,.int .i64 0,.slice none 0 0,.slice none 0 0,.slice none 0 0] 60)).setCells a.heap.size 0 c.toArray.toList) a.heap.size (Value.int .i64 g.regs::Value.slice F g.params.length E::I).toArray 60):=by rw[ah.out];exact G.out
 have n:Hid (Below w.heap.size w ((a.alloc (.cells #[.int .i64 0,.slice none 0 0,.slice none 0 0,.int .i64 0,.int .i64 0,.int .i64 0,.slice none 0 0,.slice none 0 0,.int .i64 0,.slice none 0 0,.slice none 0 0,.slice none 0 0] 60)).setCells a.heap.size 0 c.toArray.toList)):=p.out.trans (b6.out.mono p.out.size);have r:=Qp L b6.out;clear u s;generalize J:m.length=nm at L r P;have af:Hid (m.length=nm):=J;generalize ae:f.blocks.length=nb at u3 ad;clear J ae;go_upto_region 2 with (first | (refine wpList_load_mid Yz 60 (.tmp 15) Yz eg (V+bi*12) Yz c _ l.out underlying60 Yz TS.out ?_) | (refine wpList_store_mid Yz 60 (.tmp 7) (.tmp 16) Yz a.heap.size 0 c.toArray Yz Yz TH.out S.out TO.out ?_))
 clear TH TS S TO u3 L l b6 p;generalize (a.alloc (.cells #[.int .i64 0,.slice none 0 0,.slice none 0 0,.int .i64 0,.int .i64 0,.int .i64 0,.slice none 0 0,.slice none 0 0,.int .i64 0,.slice none 0 0,.slice none 0 0,.slice none 0 0] 60)).setCells a.heap.size 0 c.toArray.toList=w6 at G n r |-;generalize a.heap.size=Bk at G |-;have y0:=Qb G.out 0 _ Yz;have y1:=Qb G.out 1 _ Yz;have z0:=Qp v0 n.out;have z1:=Qp v1 n.out;have z2:=Qp v2 n.out;have z3:=Qp v3 n.out;have ac:Hid ((Qi 6).In w6 Q g.params [.slice F g.params.length E]):=Ya HP.out n.out;refine Code.wp_mono ?_ (ka2 r P z0 z1 z2 z3 y0 y1 (show Hid (g.params.length=g.params.length) from Yz) ac HC hn _ (by rfl) Yz Yz Yz Yz);rintro ee aa w7 ⟨rfl,vs,rfl,B,ab,h,vL,O',r1,r2,r3,r4,T,r6⟩;simp only[Zn,Act.put,List.setIfInBounds_toArray,List.set_cons_zero,List.set_cons_succ,ab]
 have B7:Hid (Below w.heap.size w w7):=n.out.trans (r6.mono n.out.size)
 have Z:Hid (KAt w7 B O' (JSt.start m f g)):=by
  rw[<-af.out] at r1
  refine⟨_,_,_,_,_,_,_,_,h,vL,r1,(QaH 6).keep (fun k _ u=>B7.out.block k u) (fun k _ u e=>?_) HM.out,(ZR 6).keep (fun k _ u=>B7.out.block k u) (fun k _ u e=>?_) HF.out,r2,(by obtain⟨xs,q1,q2,q3⟩:=r3;exact⟨xs,q1,q2,fun i x hx=>(Lay.tt 6).keep (fun _ _ _=>rfl) (fun k U _=>U.1) (q3 i x hx)⟩),r4⟩
  ·have:=(T k e).1;have:=n.out.size;omega
  ·have:=(T k e).1;have:=n.out.size;omega
 have HO:Hid (∀ k,O' k->w.heap.size<=k/\k<w7.heap.size):=fun k U=>⟨Zt n.out.size (T k U).1,(T k U).2⟩;clear r1 r2 r3 r4 T r6 y0 y1 z0 z1 z2 z3 r G n;go_wp2
 go_ret;exact⟨B,Yz,O',Z.out,HO.out,B7.out⟩
theorem Qg0 {s:JSt}{x:QC}{o:Option Addr}(L:∀ k,O k->k<w.heap.size) (J:JOk s) (h:KAt w b O s) (m:x.op=3) :
 Calls prog 81 #[.pointer (some ⟨b,0,none⟩),Qa9 x o ag rc ac] w fun e w'=>QX w O (s.makes x).1 (s.makes x).2 e w':=by
 have E:Hid (s.makes x=(if s.H.length=16 then (2,[]) else (0,[mkT 2 s.H.length []]))):=QaQ m;have z:=Qa (MkS.start x o ag rc ac L J h);obtain⟨G,v,C,y,u,A,r,q⟩:=x
 simp only at m
 subst m;clear h;go_enter func81,ntmps81
 go_upto_region 9 with fail
 obtain⟨n,l⟩:∃ n,(w.alloc (.cells #[.int .i64 3,.int .i64 v,.int .i64 C,.int .i64 y,.int .i64 u,.int .i64 A,.slice o r.length rc,.slice ag q.length ac] 46)).alloc (.cells #[.int .i64 1,.int .i64 0,.slice none 0 0] 70)=n:=⟨_,Yz⟩
 obtain⟨X,p⟩:∃ X,w.heap.size=X:=⟨_,Yz⟩
 have i:Hid (MkS w n b X O s ⟨3,v,C,y,u,A,r,q⟩ o ag rc ac (some ⟨X+1,0,none⟩)):=by rw[<-l,<-p];exact z.out
 rw[l,p]
 clear l p z;obtain⟨x0,U,x2,x3,x4,x6,x7⟩:=i.out.cells
 obtain⟨W,cm,a1,c1,T,c2,a3,c3,hh,aL,V,R⟩:=i.out.known.read
 obtain⟨S,K,M,Q,I,q5,P⟩:=R.cells
 have j:=i.out.ok.regs;have B:=i.out.ok.vals;obtain⟨ha,D,F,-,-,-⟩:=R.holds.cells
 clear R S K M Q I P;by_cases g:s.H.length=16
 ·have f:((s.H.length:Int)==16)=true:=beq_iff_eq.2 (by omega);rw[Xs g] at E
  clear g;generalize s.H.length=N at F f j;go_wp2
  go_ret2;rw[E.out]
  exact QX.nil i.out.bel
 ·have f:((s.H.length:Int)==16)=false:=beq_eq_false_iff_ne.2 (by omega);rw[Xr g] at E
  have Z:Hid (QX w O 0 [(mkT 2 s.H.length []:TT 6)] (.returned (.tuple #[.slice (some ⟨n.heap.size,0,none⟩) 1 1,.int .i64 0])) (n.alloc (.cells #[.int .i64 2,.int .i64 (s.H.length:Int),.slice none 0 0] 70))) :=
   ⟨_,1,1,Yz,fun _=>⟨Yz,Ze,Qdw n O i.out.lt (t:=(mkT 2 s.H.length []:TT 6)) (a:=none) (c:=0) (d:=1) (QfY _ _ _ _ _) (Qid (by omega))⟩,i.out.bel.alloc i.out.bel.size _⟩
  clear g;generalize s.H.length=N at F f j Z E;go_wp2
  go_ret2;rw[E.out]
  exact Z.out
theorem QfL {s:JSt}{x:QC}{G:Option Addr}(hO:∀ k,O k->k<w.heap.size) (hJ:JOk s) (h:KAt w b O s) (A:x.op=4) :
 Calls prog 81 #[.pointer (some ⟨b,0,none⟩),Qa9 x G ag rc ac] w fun e w'=>QX w O (s.makes x).1 (s.makes x).2 e w':=by
 have E:Hid (s.makes x=(match s.at x.a with | none=>(1,[]) | some t=>(code2 (s.want x.a 2 true) (if t.r<s.f.regs then 11 else 0),[]))):=Qap A;have V:=Qa (MkS.start x G ag rc ac hO hJ h);obtain⟨ab,y,v,p,o,q,n,m⟩:=x
 simp only at A
 subst A;clear h;go_enter func81,ntmps81
 go_upto_region 13 with fail
 obtain⟨K,z⟩:∃ K,(w.alloc (.cells #[.int .i64 4,.int .i64 y,.int .i64 v,.int .i64 p,.int .i64 o,.int .i64 q,.slice G n.length rc,.slice ag m.length ac] 46)).alloc (.cells #[.int .i64 1,.int .i64 0,.slice none 0 0] 70)=K:=⟨_,Z⟩
 obtain⟨X,P⟩:∃ X,w.heap.size=X:=⟨_,Z⟩
 have d:Hid (MkS w K b X O s ⟨4,y,v,p,o,q,n,m⟩ G ag rc ac (some ⟨X+1,0,none⟩)):=by rw[<-z,<-P];exact V.out
 rw[z,P]
 clear z P V;obtain⟨S,Q,T,x3,W,U,x7⟩:=d.out.cells
 have aa:=d.out.ok.regs;have u:=d.out.ok.vals;go_wp2_with fail
 refine(Q9 y 2 true d.out.ok.regs d.out.ok.vals d.out.known).mono ?_
 rintro e w3 ⟨rfl,n3,C⟩;have S3:Hid (MkS w w3 b X O s ⟨4,y,v,p,o,q,n,m⟩ G ag rc ac (some ⟨X+1,0,none⟩)):=d.out.below (by rw[C];exact Qg Zr n3);clear C d S Q T x3 W U x7;have d:=S3;obtain⟨S,Q,T,x3,W,U,x7⟩:=d.out.cells
 obtain⟨pm,cm,a1,c1,a2,c2,a3,c3,hh,aL,cL,R⟩:=d.out.known.read
 obtain⟨q0,q1,q2,q3,q4,q5,q6⟩:=R.cells
 have HR:Hid (TRd w3 (fun g=>¬ O g) aL s.L):=R.row;clear R q0 q2 q3 q4 q5
 cases hat:s.at y with
 | none =>
   have hw:s.want y 2 true=1:=by unfold JSt.want;rw[hat]
   have l:Hid (s.makes ⟨4,y,v,p,o,q,n,m⟩=(1,[])):=by
    show _=_;rw[E.out];simp only[hat]
   rw[hw]
   clear E hw hat;generalize s.L.length=nl at q6 u;go_wp2_with fail
   go_quiet (fail)
   go_wp2
   go_ret2;rw[l.out]
   exact QX.nil (Qg d.out.bel _)
 | some t =>
   obtain⟨-,I,M,F⟩:=QaO hat
   obtain⟨i,rfl⟩:=Xc I
   obtain⟨gL,va,vc,rfl,v0,v1,v2,-,-⟩:=HR.out i t (by simpa using F)
   have l:Hid (s.makes ⟨4,(i:Int),v,p,o,q,n,m⟩=(code2 (s.want (i:Int) 2 true) (if t.r<s.f.regs then 11 else 0),[])):=by
    show _=_;rw[E.out];simp only[hat]
   clear E hat F;generalize s.want (i:Int) 2 true=c at l;generalize s.L.length=nl at q6 u M;generalize ae:s.f.regs=J at q1 l;generalize t.r=N at v1 l;by_cases H:c=0
   ·subst H;by_cases j:N<J
    ·have D:decide (N<J)=true:=Xt j;have B:Hid (s.makes ⟨4,(i:Int),v,p,o,q,n,m⟩=(11,[])):=by show _=_;rw[l.out,Xs j];rfl
     clear l j;go_wp2_with fail
     go_quiet (fail)
     go_wp2
     go_ret2;rw[B.out]
     exact QX.nil (Qg d.out.bel _)
    ·have D:decide (N<J)=false:=Xu j;have B:Hid (s.makes ⟨4,(i:Int),v,p,o,q,n,m⟩=(0,[])):=by show _=_;rw[l.out,Xr j];rfl
     clear l j;go_wp2_with fail
     go_quiet (fail)
     go_wp2
     go_ret2;rw[B.out]
     exact QX.nil (Qg d.out.bel _)
   ·have ad:(c==0)=false:=beq_eq_false_iff_ne.2 H;have B:Hid (s.makes ⟨4,(i:Int),v,p,o,q,n,m⟩=(c,[])):=by show _=_;rw[l.out,code2,Xr H]
    clear l H;go_wp2_with fail
    go_quiet (fail)
    go_wp2
    go_ret2;rw[B.out]
    exact QX.nil (Qg d.out.bel _)
theorem QgX {s:JSt}{x:QC}{m:Option Addr}(C:∀ k,O k->k<w.heap.size) (B:JOk s) (h:KAt w b O s) (f:x.op=11) :
 Calls prog 81 #[.pointer (some ⟨b,0,none⟩),Qa9 x m ag rc ac] w fun e w'=>QX w O (s.makes x).1 (s.makes x).2 e w':=by
 have E:Hid (s.makes x=(s.want x.a 4 true,[tInt])):=Qci f;have t:=Qa (MkS.start x m ag rc ac C B h);obtain⟨A,l,v,r,q,u,p,o⟩:=x
 simp only at f
 subst f;clear h;go_enter func81,ntmps81
 go_upto_region 56 with fail
 obtain⟨j,d⟩:∃ j,(w.alloc (.cells #[.int .i64 11,.int .i64 l,.int .i64 v,.int .i64 r,.int .i64 q,.int .i64 u,.slice m p.length rc,.slice ag o.length ac] 46)).alloc (.cells #[.int .i64 1,.int .i64 0,.slice none 0 0] 70)=j:=⟨_,Z⟩
 obtain⟨X,n⟩:∃ X,w.heap.size=X:=⟨_,Z⟩
 have g:Hid (MkS w j b X O s ⟨11,l,v,r,q,u,p,o⟩ m ag rc ac (some ⟨X+1,0,none⟩)):=by rw[<-d,<-n];exact t.out
 rw[d,n]
 clear d n t;obtain⟨G,F,H,L,J,I,K⟩:=g.out.cells
 go_wp2_with fail
 refine(Q9 l 4 true g.out.ok.regs g.out.ok.vals g.out.known).mono ?_
 rintro e D ⟨rfl,z,i⟩;have y:Below j.heap.size j D:=by rw[i];exact Qg Zr z
 clear i;generalize s.want l 4 true=c at E;go_wp2
 go_ret2;rw[E.out]
 exact QX.num g.out y
theorem Qg3 {s:JSt}{x:QC}{m:Option Addr}(C:∀ k,O k->k<w.heap.size) (B:JOk s) (h:KAt w b O s) (f:x.op=13) :
 Calls prog 81 #[.pointer (some ⟨b,0,none⟩),Qa9 x m ag rc ac] w fun e w'=>QX w O (s.makes x).1 (s.makes x).2 e w':=by
 have E:Hid (s.makes x=(s.want x.a 1 false,[])):=Qcc f;have t:=Qa (MkS.start x m ag rc ac C B h);obtain⟨A,l,v,r,q,u,p,o⟩:=x
 simp only at f
 subst f;clear h;go_enter func81,ntmps81
 go_upto_region 58 with fail
 obtain⟨j,d⟩:∃ j,(w.alloc (.cells #[.int .i64 13,.int .i64 l,.int .i64 v,.int .i64 r,.int .i64 q,.int .i64 u,.slice m p.length rc,.slice ag o.length ac] 46)).alloc (.cells #[.int .i64 1,.int .i64 0,.slice none 0 0] 70)=j:=⟨_,Z⟩
 obtain⟨X,n⟩:∃ X,w.heap.size=X:=⟨_,Z⟩
 have g:Hid (MkS w j b X O s ⟨13,l,v,r,q,u,p,o⟩ m ag rc ac (some ⟨X+1,0,none⟩)):=by rw[<-d,<-n];exact t.out
 rw[d,n]
 clear d n t;obtain⟨G,F,H,L,J,I,K⟩:=g.out.cells
 go_wp2_with fail
 refine(Q9 l 1 false g.out.ok.regs g.out.ok.vals g.out.known).mono ?_
 rintro e D ⟨rfl,z,i⟩;have y:Below j.heap.size j D:=by rw[i];exact Qg Zr z
 clear i;generalize s.want l 1 false=c at E;go_wp2
 go_ret2;rw[E.out]
 exact QX.nil (g.out.below y).bel
def QlF (b X:Nat) (x:QC) (na:Option Addr) (c1:Int) (c2:Int) (t:Tmp) (v:Value) (w:World):Prop :=
 match ([(40,fun v w=>IV w [c1,c2] v)]:List (Tmp × (Value->World->Prop))).lookup t with
 | some p=>p v w
 | none=>v=(([(0,.pointer (some ⟨b,0,none⟩)),(3,.pointer (some ⟨X,0,none⟩)),(6,.slice na 1 1),(31,.slice na 1 1),(32,.pointer (some ⟨b,0,none⟩)),(33,.pointer (some ⟨X,1,none⟩)),(34,.int .i64 x.a),(35,.int .i64 c1),(36,.pointer (some ⟨b,0,none⟩)),(37,.pointer (some ⟨X,2,none⟩)),(38,.int .i64 x.b),(39,.int .i64 c2),(41,.int .i64 (firstI [c1,c2])),(4,.slice na 1 1),(5,.int .i64 (firstI [c1,c2]))]:List (Tmp × Value)).lookup t).getD undef
theorem kr7 {s:JSt}{x:QC}{J:Option Addr}(j:Hid (MkS w w2 b X O s x J ag rc ac na)){l:Int}{o:Int}(y:Hid (s.want x.a 1 false=l)) (u:Hid (s.want x.b 1 false=o)) (E:Hid (∀ x∈[l,o],-9223372036854775808<=x/\x<=9223372036854775807))
 (a:Act) (m:Nat) (F:a.tmps.size=m) (z:365<=m) (G:a.tmps.getD 0 undef=.pointer (some ⟨b,0,none⟩)) (I:a.tmps.getD 3 undef=.pointer (some ⟨X,0,none⟩)) (M:a.tmps.getD 6 undef=.slice na 1 1) :
 Code.wp prog ((Tryz.f81.body.bind (Qo 7)).getD .skip) (fun e a' w'=>e=.normal/\∃ vs,a'=Zn a vs [31,32,33,34,35,36,37,38,39,40,41,4,5]/\vs 4=.slice na 1 1/\vs 5=.int .i64 (firstI [l,o])/\Below w2.heap.size w2 w') a w2:=by
 conv=>arg 2;whnf
 refine QD (QlF b X x na l o) (fun w=>Below w2.heap.size w2 w) (fun w w'=>Below w.heap.size w w') (outs:=[0,3,6]) (gs:=[]) (bs:=[true,true,true,true,true,true,true,true,true,true,true,true,true]) (by kernel_rfl) (n:=365) F z (by kernel_rfl) ?hR ?hG (Qg Zr 1) ⟨G,I,M,Y⟩ ?hA ?hend
 case hR =>
  intro t v w w' L h;unfold QlF at h |-;split at h
  ·rename_i p r
   simp only[List.lookup_cons,List.lookup_nil] at r
   split at r
   ·cases r;exact IV.below h L
   ·cases r
  ·exact h
 case hG=>exact Y
 case hend=>exact fun vs w' c f=>⟨Z,vs,Z,f 4 (by kernel_rfl),f 5 (by kernel_rfl),c⟩
 case hA =>
  iterate 4
   refine⟨fun a w c f K i=>?_,?_⟩
   ·obtain⟨d,-⟩:=f
    conv at d=>whnf;rhs;whnf
    have C:=(j.out.below c).cells.2.1;go_simp;exact i _ _ Zr c Z
  refine⟨fun a w c f K i=>?_,?_⟩
  ·obtain⟨d,k,-⟩:=f
   conv at d=>whnf;rhs;whnf
   conv at k=>whnf;rhs;whnf
   go_simp;refine(Q9 x.a 1 false j.out.ok.regs j.out.ok.vals (j.out.below c).known).mono ?_;rw[y.out];rintro B A ⟨rfl,q,g⟩;subst g
   go_simp;exact i _ _ (Qg Zr q) (Qg c q) Z
  iterate 3
   refine⟨fun a w c f K i=>?_,?_⟩
   ·obtain⟨d,-⟩:=f
    conv at d=>whnf;rhs;whnf
    have C:=(j.out.below c).cells.2.2.1;go_simp;exact i _ _ Zr c Z
  refine⟨fun a w c f K i=>?_,?_⟩
  ·obtain⟨d,k,-⟩:=f
   conv at d=>whnf;rhs;whnf
   conv at k=>whnf;rhs;whnf
   go_simp;refine(Q9 x.b 1 false j.out.ok.regs j.out.ok.vals (j.out.below c).known).mono ?_;rw[u.out];rintro B A ⟨rfl,q,g⟩;subst g
   go_simp;exact i _ _ (Qg Zr q) (Qg c q) Z
  refine⟨fun a w c f K i=>?_,?_⟩
  ·obtain⟨d,k,-⟩:=f
   conv at d=>whnf;rhs;whnf
   conv at k=>whnf;rhs;whnf
   simp only[Za] at d k
   go_simp;exact i _ _ (QU _ _) (c.alloc c.size _) (QgI w 3 [l,o] E.out 2)
  refine⟨fun a w c f K i=>?_,?_⟩
  ·obtain⟨d,-⟩:=f
   have d:(fun v w=>IV w [l,o] v) (a.tmps.getD 40 undef) w:=d;generalize D:a.tmps.getD 40 undef=H at d;go_simp;refine(QcV (by simp) d).mono ?_;rintro B A ⟨rfl,g⟩;have g:=g.symm;subst g
   go_simp;exact i _ _ Zr c Z
  iterate 2
   refine⟨fun a w c f K i=>?_,?_⟩
   ·obtain⟨d,-⟩:=f
    conv at d=>whnf;rhs;whnf
    go_simp;exact i _ _ Zr c Z
  trivial
def QkN (b X:Nat) (x:QC) (na:Option Addr) (c1:Int) (c2:Int) (t:Tmp) (v:Value) (w:World):Prop :=
 match ([(230,fun v w=>IV w [c1,c2] v)]:List (Tmp × (Value->World->Prop))).lookup t with
 | some p=>p v w
 | none=>v=(([(0,.pointer (some ⟨b,0,none⟩)),(3,.pointer (some ⟨X,0,none⟩)),(222,.pointer (some ⟨b,0,none⟩)),(223,.pointer (some ⟨X,1,none⟩)),(224,.int .i64 x.a),(225,.int .i64 c1),(226,.pointer (some ⟨b,0,none⟩)),(227,.pointer (some ⟨X,2,none⟩)),(228,.int .i64 x.b),(229,.int .i64 c2),(231,.int .i64 (firstI [c1,c2])),(13,.int .i64 (firstI [c1,c2]))]:List (Tmp × Value)).lookup t).getD undef
theorem Ql2 {s:JSt}{x:QC}{J:Option Addr}(j:Hid (MkS w w2 b X O s x J ag rc ac na)){l:Int}{o:Int}(y:Hid (s.want x.a 2 true=l)) (u:Hid (s.want x.b 1 false=o)) (E:Hid (∀ x∈[l,o],-9223372036854775808<=x/\x<=9223372036854775807))
 (a:Act) (m:Nat) (F:a.tmps.size=m) (z:365<=m) (G:a.tmps.getD 0 undef=.pointer (some ⟨b,0,none⟩)) (I:a.tmps.getD 3 undef=.pointer (some ⟨X,0,none⟩)) :
 Code.wp prog ((Tryz.f81.body.bind (Qo 47)).getD .skip) (fun e a' w'=>e=.normal/\∃ vs,a'=Zn a vs [222,223,224,225,226,227,228,229,230,231,13]/\vs 13=.int .i64 (firstI [l,o])/\Below w2.heap.size w2 w') a w2:=by
 conv=>arg 2;whnf
 refine QD (QkN b X x na l o) (fun w=>Below w2.heap.size w2 w) (fun w w'=>Below w.heap.size w w') (outs:=[0,3]) (gs:=[]) (bs:=[true,true,true,true,true,true,true,true,true,true,true]) (by kernel_rfl) (n:=365) F z (by kernel_rfl) ?hR ?hG (Qg Zr 1) ⟨G,I,Y⟩ ?hA ?hend
 case hR =>
  intro t v w w' L h;unfold QkN at h |-;split at h
  ·rename_i p r
   simp only[List.lookup_cons,List.lookup_nil] at r
   split at r
   ·cases r;exact IV.below h L
   ·cases r
  ·exact h
 case hG=>exact Y
 case hend=>exact fun vs w' c f=>⟨Z,vs,Z,f 13 (by kernel_rfl),c⟩
 case hA =>
  iterate 3
   refine⟨fun a w c f K i=>?_,?_⟩
   ·obtain⟨d,-⟩:=f
    conv at d=>whnf;rhs;whnf
    have C:=(j.out.below c).cells.2.1;go_simp;exact i _ _ Zr c Z
  refine⟨fun a w c f K i=>?_,?_⟩
  ·obtain⟨d,k,-⟩:=f
   conv at d=>whnf;rhs;whnf
   conv at k=>whnf;rhs;whnf
   go_simp;refine(Q9 x.a 2 true j.out.ok.regs j.out.ok.vals (j.out.below c).known).mono ?_;rw[y.out];rintro B A ⟨rfl,q,g⟩;subst g
   go_simp;exact i _ _ (Qg Zr q) (Qg c q) Z
  iterate 3
   refine⟨fun a w c f K i=>?_,?_⟩
   ·obtain⟨d,-⟩:=f
    conv at d=>whnf;rhs;whnf
    have C:=(j.out.below c).cells.2.2.1;go_simp;exact i _ _ Zr c Z
  refine⟨fun a w c f K i=>?_,?_⟩
  ·obtain⟨d,k,-⟩:=f
   conv at d=>whnf;rhs;whnf
   conv at k=>whnf;rhs;whnf
   go_simp;refine(Q9 x.b 1 false j.out.ok.regs j.out.ok.vals (j.out.below c).known).mono ?_;rw[u.out];rintro B A ⟨rfl,q,g⟩;subst g
   go_simp;exact i _ _ (Qg Zr q) (Qg c q) Z
  refine⟨fun a w c f K i=>?_,?_⟩
  ·obtain⟨d,k,-⟩:=f
   conv at d=>whnf;rhs;whnf
   conv at k=>whnf;rhs;whnf
   simp only[Za] at d k
   go_simp;exact i _ _ (QU _ _) (c.alloc c.size _) (QgI w 3 [l,o] E.out 2)
  refine⟨fun a w c f K i=>?_,?_⟩
  ·obtain⟨d,-⟩:=f
   have d:(fun v w=>IV w [l,o] v) (a.tmps.getD 230 undef) w:=d;generalize D:a.tmps.getD 230 undef=H at d;go_simp;refine(QcV (by simp) d).mono ?_;rintro B A ⟨rfl,g⟩;have g:=g.symm;subst g
   go_simp;exact i _ _ Zr c Z
  refine⟨fun a w c f K i=>?_,?_⟩
  ·obtain⟨d,-⟩:=f
   conv at d=>whnf;rhs;whnf
   go_simp;exact i _ _ Zr c Z
  trivial
def QkM (b X:Nat) (x:QC) (na:Option Addr) (c1:Int) (c2:Int) (t:Tmp) (v:Value) (w:World):Prop :=
 match ([(257,fun v w=>IV w [c1,c2] v)]:List (Tmp × (Value->World->Prop))).lookup t with
 | some p=>p v w
 | none=>v=(([(0,.pointer (some ⟨b,0,none⟩)),(3,.pointer (some ⟨X,0,none⟩)),(6,.slice na 1 1),(248,.slice na 1 1),(249,.pointer (some ⟨b,0,none⟩)),(250,.pointer (some ⟨X,1,none⟩)),(251,.int .i64 x.a),(252,.int .i64 c1),(253,.pointer (some ⟨b,0,none⟩)),(254,.pointer (some ⟨X,2,none⟩)),(255,.int .i64 x.b),(256,.int .i64 c2),(258,.int .i64 (firstI [c1,c2])),(4,.slice na 1 1),(5,.int .i64 (firstI [c1,c2]))]:List (Tmp × Value)).lookup t).getD undef
theorem Qma {s:JSt}{x:QC}{J:Option Addr}(j:Hid (MkS w w2 b X O s x J ag rc ac na)){l:Int}{o:Int}(y:Hid (s.want x.a 4 true=l)) (u:Hid (s.want x.b 1 false=o)) (E:Hid (∀ x∈[l,o],-9223372036854775808<=x/\x<=9223372036854775807))
 (a:Act) (m:Nat) (F:a.tmps.size=m) (z:365<=m) (G:a.tmps.getD 0 undef=.pointer (some ⟨b,0,none⟩)) (I:a.tmps.getD 3 undef=.pointer (some ⟨X,0,none⟩)) (M:a.tmps.getD 6 undef=.slice na 1 1) :
 Code.wp prog ((Tryz.f81.body.bind (Qo 52)).getD .skip) (fun e a' w'=>e=.normal/\∃ vs,a'=Zn a vs [248,249,250,251,252,253,254,255,256,257,258,4,5]/\vs 4=.slice na 1 1/\vs 5=.int .i64 (firstI [l,o])/\Below w2.heap.size w2 w') a w2:=by
 conv=>arg 2;whnf
 refine QD (QkM b X x na l o) (fun w=>Below w2.heap.size w2 w) (fun w w'=>Below w.heap.size w w') (outs:=[0,3,6]) (gs:=[]) (bs:=[true,true,true,true,true,true,true,true,true,true,true,true,true]) (by kernel_rfl) (n:=365) F z (by kernel_rfl) ?hR ?hG (Qg Zr 1) ⟨G,I,M,Y⟩ ?hA ?hend
 case hR =>
  intro t v w w' L h;unfold QkM at h |-;split at h
  ·rename_i p r
   simp only[List.lookup_cons,List.lookup_nil] at r
   split at r
   ·cases r;exact IV.below h L
   ·cases r
  ·exact h
 case hG=>exact Y
 case hend=>exact fun vs w' c f=>⟨Z,vs,Z,f 4 (by kernel_rfl),f 5 (by kernel_rfl),c⟩
 case hA =>
  iterate 4
   refine⟨fun a w c f K i=>?_,?_⟩
   ·obtain⟨d,-⟩:=f
    conv at d=>whnf;rhs;whnf
    have C:=(j.out.below c).cells.2.1;go_simp;exact i _ _ Zr c Z
  refine⟨fun a w c f K i=>?_,?_⟩
  ·obtain⟨d,k,-⟩:=f
   conv at d=>whnf;rhs;whnf
   conv at k=>whnf;rhs;whnf
   go_simp;refine(Q9 x.a 4 true j.out.ok.regs j.out.ok.vals (j.out.below c).known).mono ?_;rw[y.out];rintro B A ⟨rfl,q,g⟩;subst g
   go_simp;exact i _ _ (Qg Zr q) (Qg c q) Z
  iterate 3
   refine⟨fun a w c f K i=>?_,?_⟩
   ·obtain⟨d,-⟩:=f
    conv at d=>whnf;rhs;whnf
    have C:=(j.out.below c).cells.2.2.1;go_simp;exact i _ _ Zr c Z
  refine⟨fun a w c f K i=>?_,?_⟩
  ·obtain⟨d,k,-⟩:=f
   conv at d=>whnf;rhs;whnf
   conv at k=>whnf;rhs;whnf
   go_simp;refine(Q9 x.b 1 false j.out.ok.regs j.out.ok.vals (j.out.below c).known).mono ?_;rw[u.out];rintro B A ⟨rfl,q,g⟩;subst g
   go_simp;exact i _ _ (Qg Zr q) (Qg c q) Z
  refine⟨fun a w c f K i=>?_,?_⟩
  ·obtain⟨d,k,-⟩:=f
   conv at d=>whnf;rhs;whnf
   conv at k=>whnf;rhs;whnf
   simp only[Za] at d k
   go_simp;exact i _ _ (QU _ _) (c.alloc c.size _) (QgI w 3 [l,o] E.out 2)
  refine⟨fun a w c f K i=>?_,?_⟩
  ·obtain⟨d,-⟩:=f
   have d:(fun v w=>IV w [l,o] v) (a.tmps.getD 257 undef) w:=d;generalize D:a.tmps.getD 257 undef=H at d;go_simp;refine(QcV (by simp) d).mono ?_;rintro B A ⟨rfl,g⟩;have g:=g.symm;subst g
   go_simp;exact i _ _ Zr c Z
  iterate 2
   refine⟨fun a w c f K i=>?_,?_⟩
   ·obtain⟨d,-⟩:=f
    conv at d=>whnf;rhs;whnf
    go_simp;exact i _ _ Zr c Z
  trivial
def QkL (b X:Nat) (x:QC) (na:Option Addr) (c1:Int) (c2:Int) (c3:Int) (t:Tmp) (v:Value) (w:World):Prop :=
 match ([(273,fun v w=>IV w [c1,c2,c3] v)]:List (Tmp × (Value->World->Prop))).lookup t with
 | some p=>p v w
 | none=>v=(([(0,.pointer (some ⟨b,0,none⟩)),(3,.pointer (some ⟨X,0,none⟩)),(261,.pointer (some ⟨b,0,none⟩)),(262,.pointer (some ⟨X,1,none⟩)),(263,.int .i64 x.a),(264,.int .i64 c1),(265,.pointer (some ⟨b,0,none⟩)),(266,.pointer (some ⟨X,2,none⟩)),(267,.int .i64 x.b),(268,.int .i64 c2),(269,.pointer (some ⟨b,0,none⟩)),(270,.pointer (some ⟨X,3,none⟩)),(271,.int .i64 x.c),(272,.int .i64 c3),(274,.int .i64 (firstI [c1,c2,c3])),(4,.slice none 0 0),(5,.int .i64 (firstI [c1,c2,c3]))]:List (Tmp × Value)).lookup t).getD undef
theorem QlW {s:JSt}{x:QC}{P:Option Addr}(k:Hid (MkS w w2 b X O s x P ag rc ac na)){q:Int}{r:Int}{u:Int}(A:Hid (s.want x.a 4 true=q)) (z:Hid (s.want x.b 1 false=r)) (D:Hid (s.want x.c 1 false=u)) (I:Hid (∀ x∈[q,r,u],-9223372036854775808<=x/\x<=9223372036854775807))
 (a:Act) (m:Nat) (J:a.tmps.size=m) (B:365<=m) (L:a.tmps.getD 0 undef=.pointer (some ⟨b,0,none⟩)) (N:a.tmps.getD 3 undef=.pointer (some ⟨X,0,none⟩)) :
 Code.wp prog ((Tryz.f81.body.bind (Qo 54)).getD .skip) (fun e a' w'=>e=.normal/\∃ vs,a'=Zn a vs [261,262,263,264,265,266,267,268,269,270,271,272,273,274,4,5]/\vs 4=.slice none 0 0/\vs 5=.int .i64 (firstI [q,r,u])/\Below w2.heap.size w2 w') a w2:=by
 conv=>arg 2;whnf
 refine QD (QkL b X x na q r u) (fun w=>Below w2.heap.size w2 w) (fun w w'=>Below w.heap.size w w') (outs:=[0,3]) (gs:=[]) (bs:=[true,true,true,true,true,true,true,true,true,true,true,true,true,true,true,true]) (by kernel_rfl) (n:=365) J B (by kernel_rfl) ?hR ?hG (Qg Zr 1) ⟨L,N,Y⟩ ?hA ?hend
 case hR =>
  intro t v w w' Q h;unfold QkL at h |-;split at h
  ·rename_i p y
   simp only[List.lookup_cons,List.lookup_nil] at y
   split at y
   ·cases y;exact IV.below h Q
   ·cases y
  ·exact h
 case hG=>exact Y
 case hend=>exact fun vs w' d f=>⟨Z,vs,Z,f 4 (by kernel_rfl),f 5 (by kernel_rfl),d⟩
 case hA =>
  iterate 3
   refine⟨fun a w d f K j=>?_,?_⟩
   ·obtain⟨g,-⟩:=f
    conv at g=>whnf;rhs;whnf
    have F:=(k.out.below d).cells.2.1;go_simp;exact j _ _ Zr d Z
  refine⟨fun a w d f K j=>?_,?_⟩
  ·obtain⟨g,o,-⟩:=f
   conv at g=>whnf;rhs;whnf
   conv at o=>whnf;rhs;whnf
   go_simp;refine(Q9 x.a 4 true k.out.ok.regs k.out.ok.vals (k.out.below d).known).mono ?_;rw[A.out];rintro E C ⟨rfl,l,i⟩;subst i
   go_simp;exact j _ _ (Qg Zr l) (Qg d l) Z
  iterate 3
   refine⟨fun a w d f K j=>?_,?_⟩
   ·obtain⟨g,-⟩:=f
    conv at g=>whnf;rhs;whnf
    have F:=(k.out.below d).cells.2.2.1;go_simp;exact j _ _ Zr d Z
  refine⟨fun a w d f K j=>?_,?_⟩
  ·obtain⟨g,o,-⟩:=f
   conv at g=>whnf;rhs;whnf
   conv at o=>whnf;rhs;whnf
   go_simp;refine(Q9 x.b 1 false k.out.ok.regs k.out.ok.vals (k.out.below d).known).mono ?_;rw[z.out];rintro E C ⟨rfl,l,i⟩;subst i
   go_simp;exact j _ _ (Qg Zr l) (Qg d l) Z
  iterate 3
   refine⟨fun a w d f K j=>?_,?_⟩
   ·obtain⟨g,-⟩:=f
    conv at g=>whnf;rhs;whnf
    have F:=(k.out.below d).cells.2.2.2.1;go_simp;exact j _ _ Zr d Z
  refine⟨fun a w d f K j=>?_,?_⟩
  ·obtain⟨g,o,-⟩:=f
   conv at g=>whnf;rhs;whnf
   conv at o=>whnf;rhs;whnf
   go_simp;refine(Q9 x.c 1 false k.out.ok.regs k.out.ok.vals (k.out.below d).known).mono ?_;rw[D.out];rintro E C ⟨rfl,l,i⟩;subst i
   go_simp;exact j _ _ (Qg Zr l) (Qg d l) Z
  refine⟨fun a w d f K j=>?_,?_⟩
  ·obtain⟨g,o,G,-⟩:=f
   conv at g=>whnf;rhs;whnf
   conv at o=>whnf;rhs;whnf
   conv at G=>whnf;rhs;whnf
   simp only[Za] at g o G
   go_simp;exact j _ _ (QU _ _) (d.alloc d.size _) (QgI w 3 [q,r,u] I.out 3)
  refine⟨fun a w d f K j=>?_,?_⟩
  ·obtain⟨g,-⟩:=f
   have g:(fun v w=>IV w [q,r,u] v) (a.tmps.getD 273 undef) w:=g;generalize H:a.tmps.getD 273 undef=M at g;go_simp;refine(QcV (by simp) g).mono ?_;rintro E C ⟨rfl,i⟩;have i:=i.symm;subst i
   go_simp;exact j _ _ Zr d Z
  refine⟨fun a w d f K j=>?_,?_⟩
  ·clear f;go_simp;exact j _ _ Zr d Z
  refine⟨fun a w d f K j=>?_,?_⟩
  ·obtain⟨g,-⟩:=f
   conv at g=>whnf;rhs;whnf
   go_simp;exact j _ _ Zr d Z
  trivial
theorem Qhl {s:JSt}{x:QC}{l:Option Addr}(H:∀ k,O k->k<w.heap.size) (G:JOk s) (h:KAt w b O s) (f:x.op=2) :
 Calls prog 81 #[.pointer (some ⟨b,0,none⟩),Qa9 x l ag rc ac] w fun e w'=>QX w O (s.makes x).1 (s.makes x).2 e w':=by
 have E:Hid (s.makes x=(code2 (s.want x.a 1 false) (s.want x.b 1 false),[tInt])):=QbV f;have A:=Qa (MkS.start x l ag rc ac H G h);obtain⟨C,g,i,z,u,B,t,r⟩:=x
 simp only at f
 subst f;clear h;go_enter func81,ntmps81
 go_upto_region 7 with fail
 obtain⟨n,d⟩:∃ n,(w.alloc (.cells #[.int .i64 2,.int .i64 g,.int .i64 i,.int .i64 z,.int .i64 u,.int .i64 B,.slice l t.length rc,.slice ag r.length ac] 46)).alloc (.cells #[.int .i64 1,.int .i64 0,.slice none 0 0] 70)=n:=⟨_,Z⟩
 obtain⟨X,p⟩:∃ X,w.heap.size=X:=⟨_,Z⟩
 have m:Hid (MkS w n b X O s ⟨2,g,i,z,u,B,t,r⟩ l ag rc ac (some ⟨X+1,0,none⟩)):=by rw[<-d,<-p];exact A.out
 rw[d,p]
 clear d p A;obtain⟨L,J,M,U,P,N,T⟩:=m.out.cells
 have F:Hid (∀ y∈[s.want g 1 false,s.want i 1 false],-9223372036854775808<=y/\y<=9223372036854775807):=fun y v=>by simp only[List.mem_cons,List.not_mem_nil,or_false] at v;rcases v with rfl | rfl<;>exact QcP _ _ _ _
 refine Code.wp_mono ?_ (kr7 m (show Hid (s.want g 1 false=s.want g 1 false) from Z) (show Hid (s.want i 1 false=s.want i 1 false) from Z) F _ _ Z (Xg (by kernel_rfl)) Z Z Z);rintro R Q S ⟨rfl,K,rfl,o,q,I⟩;simp only[Zn,Act.put,List.setIfInBounds_toArray,List.set_cons_zero,List.set_cons_succ,o,q]
 have j:=E.out;rw[<-Qek] at j
 generalize firstI [s.want g 1 false,s.want i 1 false]=c at j |-;have D:=Qa j;clear j E;go_wp2
 go_ret2;rw[D.out]
 exact QX.num m.out I
theorem QfJ {s:JSt}{x:QC}{l:Option Addr}(H:∀ k,O k->k<w.heap.size) (G:JOk s) (h:KAt w b O s) (f:x.op=9) :
 Calls prog 81 #[.pointer (some ⟨b,0,none⟩),Qa9 x l ag rc ac] w fun e w'=>QX w O (s.makes x).1 (s.makes x).2 e w':=by
 have E:Hid (s.makes x=(code2 (s.want x.a 4 true) (s.want x.b 1 false),[tInt])):=Qbv f;have A:=Qa (MkS.start x l ag rc ac H G h);obtain⟨C,g,i,z,u,B,t,r⟩:=x
 simp only at f
 subst f;clear h;go_enter func81,ntmps81
 go_upto_region 52 with fail
 obtain⟨n,d⟩:∃ n,(w.alloc (.cells #[.int .i64 9,.int .i64 g,.int .i64 i,.int .i64 z,.int .i64 u,.int .i64 B,.slice l t.length rc,.slice ag r.length ac] 46)).alloc (.cells #[.int .i64 1,.int .i64 0,.slice none 0 0] 70)=n:=⟨_,Z⟩
 obtain⟨X,p⟩:∃ X,w.heap.size=X:=⟨_,Z⟩
 have m:Hid (MkS w n b X O s ⟨9,g,i,z,u,B,t,r⟩ l ag rc ac (some ⟨X+1,0,none⟩)):=by rw[<-d,<-p];exact A.out
 rw[d,p]
 clear d p A;obtain⟨L,J,M,U,P,N,T⟩:=m.out.cells
 have F:Hid (∀ y∈[s.want g 4 true,s.want i 1 false],-9223372036854775808<=y/\y<=9223372036854775807):=fun y v=>by simp only[List.mem_cons,List.not_mem_nil,or_false] at v;rcases v with rfl | rfl<;>exact QcP _ _ _ _
 refine Code.wp_mono ?_ (Qma m (show Hid (s.want g 4 true=s.want g 4 true) from Z) (show Hid (s.want i 1 false=s.want i 1 false) from Z) F _ _ Z (Xg (by kernel_rfl)) Z Z Z);rintro R Q S ⟨rfl,K,rfl,o,q,I⟩;simp only[Zn,Act.put,List.setIfInBounds_toArray,List.set_cons_zero,List.set_cons_succ,o,q]
 have j:=E.out;rw[<-Qek] at j
 generalize firstI [s.want g 4 true,s.want i 1 false]=c at j |-;have D:=Qa j;clear j E;go_wp2
 go_ret2;rw[D.out]
 exact QX.num m.out I
theorem Qfh {s:JSt}{x:QC}{m:Option Addr}(H:∀ k,O k->k<w.heap.size) (G:JOk s) (h:KAt w b O s) (f:x.op=10) :
 Calls prog 81 #[.pointer (some ⟨b,0,none⟩),Qa9 x m ag rc ac] w fun e w'=>QX w O (s.makes x).1 (s.makes x).2 e w':=by
 have E:Hid (s.makes x=(code2 (s.want x.a 4 true) (code2 (s.want x.b 1 false) (s.want x.c 1 false)),[])):=QaV f;have A:=Qa (MkS.start x m ag rc ac H G h);obtain⟨C,g,j,i,v,B,u,t⟩:=x
 simp only at f
 subst f;clear h;go_enter func81,ntmps81
 go_upto_region 54 with fail
 obtain⟨o,d⟩:∃ o,(w.alloc (.cells #[.int .i64 10,.int .i64 g,.int .i64 j,.int .i64 i,.int .i64 v,.int .i64 B,.slice m u.length rc,.slice ag t.length ac] 46)).alloc (.cells #[.int .i64 1,.int .i64 0,.slice none 0 0] 70)=o:=⟨_,Z⟩
 obtain⟨X,q⟩:∃ X,w.heap.size=X:=⟨_,Z⟩
 have n:Hid (MkS w o b X O s ⟨10,g,j,i,v,B,u,t⟩ m ag rc ac (some ⟨X+1,0,none⟩)):=by rw[<-d,<-q];exact A.out
 rw[d,q]
 clear d q A;obtain⟨L,J,M,U,P,N,T⟩:=n.out.cells
 have F:Hid (∀ y∈[s.want g 4 true,s.want j 1 false,s.want i 1 false],-9223372036854775808<=y/\y<=9223372036854775807):=fun y z=>by simp only[List.mem_cons,List.not_mem_nil,or_false] at z;rcases z with rfl | rfl | rfl<;>exact QcP _ _ _ _
 refine Code.wp_mono ?_ (QlW n (show Hid (s.want g 4 true=s.want g 4 true) from Z) (show Hid (s.want j 1 false=s.want j 1 false) from Z) (show Hid (s.want i 1 false=s.want i 1 false) from Z) F _ _ Z (Xg (by kernel_rfl)) Z Z);rintro R Q S ⟨rfl,K,rfl,p,r,I⟩;simp only[Zn,Act.put,List.setIfInBounds_toArray,List.set_cons_zero,List.set_cons_succ,p,r]
 have l:=E.out;rw[<-Qkq] at l
 generalize firstI [s.want g 4 true,s.want j 1 false,s.want i 1 false]=c at l |-;have D:=Qa l;clear l E;go_wp2
 go_ret2;rw[D.out]
 exact QX.nil (n.out.below I).bel
def Qk2 (b X gL nl cL i:Nat) (O:Nat->Prop) (r:Int) (t:Tmp) (v:Value) (w:World):Prop :=
 match ([(245,fun v w=>∃ a,v=.slice a 1 1/\(Qi 6).In w (fun g=>¬ O g) [(mkT 4 r []:TT 6)] [.slice a 1 1]),(4,fun v w=>∃ a,v=.slice a 1 1/\(Qi 6).In w (fun g=>¬ O g) [(mkT 4 r []:TT 6)] [.slice a 1 1])]:List (Tmp × (Value->World->Prop))).lookup t with
 | some p=>p v w
 | none=>v=(([(0,.pointer (some ⟨b,0,none⟩)),(3,.pointer (some ⟨X,0,none⟩)),(235,.pointer (some ⟨b,0,none⟩)),(236,.pointer (some ⟨b,0,none⟩)),(237,.pointer (some ⟨b,6,none⟩)),(238,.slice (some ⟨gL,0,none⟩) nl cL),(239,.pointer (some ⟨X,1,none⟩)),(240,.int .i64 (i:Int)),(241,.pointer (some ⟨gL,i*3,none⟩)),(242,.pointer (some ⟨gL,i*3+1,none⟩)),(243,.int .i64 r),(244,.agg #[.int .i64 4,.int .i64 r,.slice none 0 0]),(5,.int .i64 0)]:List (Tmp × Value)).lookup t).getD undef
theorem Ql9 {s:JSt}{x:QC}{P:Option Addr}(A:Hid (MkS w w2 b X O s x P ag rc ac na)){z u:Nat}{r:Int}(Q:w2.cell? ⟨b,6,none⟩=some (.slice (some ⟨z,0,none⟩) u cL)) (I:w2.cell? ⟨z,i*3+1,none⟩=some (.int .i64 r)) (M:(i:Int)<u) (q:x.a=(i:Int)) (D:Hid (-9223372036854775808<=r/\r<=9223372036854775807))
 (a:Act) (m:Nat) (H:a.tmps.size=m) (y:365<=m) (J:a.tmps.getD 0 undef=.pointer (some ⟨b,0,none⟩)) (N:a.tmps.getD 3 undef=.pointer (some ⟨X,0,none⟩)) :
 Code.wp prog ((Tryz.f81.body.bind (Qo 50)).getD .skip) (fun e a' w'=>e=.normal/\∃ vs,a'=Zn a vs [235,236,237,238,239,240,241,242,243,244,245,4,5]/\(fun v w=>∃ a,v=.slice a 1 1/\(Qi 6).In w (fun g=>¬ O g) [(mkT 4 r []:TT 6)] [.slice a 1 1]) (vs 4) w'/\vs 5=.int .i64 0/\Below w2.heap.size w2 w') a w2:=by
 conv=>arg 2;whnf
 refine QD (Qk2 b X z u cL i O r) (fun w=>Below w2.heap.size w2 w) (fun w w'=>Below w.heap.size w w') (outs:=[0,3]) (gs:=[]) (bs:=[true,true,true,true,true,true,true,true,true,true,true,true,true]) (by kernel_rfl) (n:=365) H y (by kernel_rfl) ?hR ?hG (Qg Zr 1) ⟨J,N,Y⟩ ?hA ?hend
 case hR =>
  intro t v w w' B h;unfold Qk2 at h |-;split at h
  ·rename_i p o
   simp only[List.lookup_cons,List.lookup_nil] at o
   split at o
   ·cases o;exact(by obtain⟨a,e,h⟩:=h;exact⟨a,e,Ya h B⟩)
   ·split at o
    ·cases o;exact(by obtain⟨a,e,h⟩:=h;exact⟨a,e,Ya h B⟩)
    ·cases o
  ·exact h
 case hG=>exact Y
 case hend=>exact fun vs w' f j=>⟨Z,vs,Z,j 4 (by kernel_rfl),j 5 (by kernel_rfl),f⟩
 case hA =>
  iterate 5
   refine⟨fun a w f j K l=>?_,?_⟩
   ·obtain⟨k,-⟩:=j
    conv at k=>whnf;rhs;whnf
    have C:=Qp Q f;go_simp;exact l _ _ Zr f Z
  refine⟨fun a w f j K l=>?_,?_⟩
  ·obtain⟨k,-⟩:=j
   conv at k=>whnf;rhs;whnf
   have E:=(A.out.below f).cells.2.1;rw[q] at E
   go_simp;exact l _ _ Zr f Z
  refine⟨fun a w f j K l=>?_,?_⟩
  ·obtain⟨k,G,-⟩:=j
   conv at k=>whnf;rhs;whnf
   conv at G=>whnf;rhs;whnf
   go_simp;exact l _ _ Zr f Z
  iterate 2
   refine⟨fun a w f j K l=>?_,?_⟩
   ·obtain⟨k,-⟩:=j
    conv at k=>whnf;rhs;whnf
    have C:=Qp I f;go_simp;exact l _ _ Zr f Z
  refine⟨fun a w f j K l=>?_,?_⟩
  ·obtain⟨k,-⟩:=j
   conv at k=>whnf;rhs;whnf
   simp only[Za] at k
   go_simp;exact l _ _ Zr f Z
  refine⟨fun a w f j K l=>?_,?_⟩
  ·obtain⟨k,-⟩:=j
   conv at k=>whnf;rhs;whnf
   simp only[Za] at k
   go_simp;exact l _ _ (QU _ _) (f.alloc f.size _) ⟨_,Z,Qdw w O (A.out.below f).lt (t:=(mkT 4 r []:TT 6)) (a:=none) (c:=0) (d:=1) (QfY _ _ _ _ _) (Qid D.out)⟩
  refine⟨fun a w f j K l=>?_,?_⟩
  ·obtain⟨k,-⟩:=j
   have k:(fun v w=>∃ a,v=.slice a 1 1/\(Qi 6).In w (fun g=>¬ O g) [(mkT 4 r []:TT 6)] [.slice a 1 1]) (a.tmps.getD 245 undef) w:=k;generalize F:a.tmps.getD 245 undef=L at k;go_simp;exact l _ _ Zr f k
  refine⟨fun a w f j K l=>?_,?_⟩
  ·clear j;go_simp;exact l _ _ Zr f Z
  trivial
theorem Qfe {s:JSt}{x:QC}{H:Option Addr}(hO:∀ k,O k->k<w.heap.size) (hJ:JOk s) (h:KAt w b O s) (o:x.op=8) :
 Calls prog 81 #[.pointer (some ⟨b,0,none⟩),Qa9 x H ag rc ac] w fun e w'=>QX w O (s.makes x).1 (s.makes x).2 e w':=by
 have E:Hid (s.makes x=(match s.at x.a with | none=>(1,[]) | some t=>(code2 (s.want x.a 2 true) (s.want x.b 1 false),[mkT 4 t.r []]))):=Qa1 o;have T:=Qa (MkS.start x H ag rc ac hO hJ h);obtain⟨ab,d,l,A,u,B,q,p⟩:=x
 simp only at o
 subst o;clear h;go_enter func81,ntmps81
 go_upto_region 47 with fail
 obtain⟨K,g⟩:∃ K,(w.alloc (.cells #[.int .i64 8,.int .i64 d,.int .i64 l,.int .i64 A,.int .i64 u,.int .i64 B,.slice H q.length rc,.slice ag p.length ac] 46)).alloc (.cells #[.int .i64 1,.int .i64 0,.slice none 0 0] 70)=K:=⟨_,Yz⟩
 obtain⟨X,N⟩:∃ X,w.heap.size=X:=⟨_,Yz⟩
 have m:Hid (MkS w K b X O s ⟨8,d,l,A,u,B,q,p⟩ H ag rc ac (some ⟨X+1,0,none⟩)):=by rw[<-g,<-N];exact T.out
 rw[g,N]
 clear g N T;obtain⟨x0,W,x2,x3,x4,x6,x7⟩:=m.out.cells
 have Q:Hid (∀ y∈[s.want d 2 true,s.want l 1 false],-9223372036854775808<=y/\y<=9223372036854775807):=fun y P=>by simp only[List.mem_cons,List.not_mem_nil,or_false] at P;rcases P with rfl | rfl<;>exact QcP _ _ _ _
 refine Code.wp_mono ?_ (Ql2 m (show Hid (s.want d 2 true=s.want d 2 true) from Yz) (show Hid (s.want l 1 false=s.want l 1 false) from Yz) Q _ _ Yz (Xg (by kernel_rfl)) Yz Yz);rintro ee aa w3 ⟨rfl,vs,rfl,j,F⟩;simp only[Zn,Act.put,List.setIfInBounds_toArray,List.set_cons_zero,List.set_cons_succ,j]
 have V:Hid (MkS w w3 b X O s ⟨8,d,l,A,u,B,q,p⟩ H ag rc ac (some ⟨X+1,0,none⟩)):=m.out.below F;rw[Qek]
 clear F j m Q x0 W x2 x3 x4 x6 x7;have m:=V;clear V;by_cases n:code2 (s.want d 2 true) (s.want l 1 false)=0
 ·obtain⟨C,g⟩:=Qao n
  obtain⟨t,f,-,-⟩:=Qay C
  have J:Hid (s.makes ⟨8,d,l,A,u,B,q,p⟩=(0,[mkT 4 t.r []])):=by
   show _=_;rw[E.out];simp only[f,n]
  rw[n]
  clear E n C g;obtain⟨-,v,D,G⟩:=QaO f
  obtain⟨i,rfl⟩:=Xc v
  clear f v;obtain⟨pm,cm,a1,c1,a2,c2,a3,c3,hh,aL,cL,R⟩:=m.out.known.read
  obtain⟨q0,q1,q2,q3,q4,q5,M⟩:=R.cells
  obtain⟨gL,va,vc,rfl,v0,S,v2,-,z⟩:=R.row i t (by simpa using G)
  have HR:Hid (-9223372036854775808<=t.r/\t.r<=9223372036854775807):=z.1;clear R q0 q1 q2 q3 q4 q5 G v0 v2 z;generalize s.L.length=nl at M D;go_upto_region 50 with fail
  refine Code.wp_mono ?_ (Ql9 m M S D Yz HR _ _ Yz (Xg (by kernel_rfl)) Yz Yz);rintro ee aa w4 ⟨rfl,vs,rfl,⟨a4,I,U⟩,j,F⟩;simp only[Zn,Act.put,List.setIfInBounds_toArray,List.set_cons_zero,List.set_cons_succ,I,j]
  have Z:Hid (QX w O 0 [(mkT 4 t.r []:TT 6)] (.returned (.tuple #[.slice a4 1 1,.int .i64 0])) w4):=⟨_,1,1,Yz,fun _=>⟨Yz,Ze,U⟩,(m.out.below F).bel⟩;clear U F I j S M;go_wp2
  go_ret2;rw[J.out]
  exact Z.out
 ·have J:Hid ((s.makes ⟨8,d,l,A,u,B,q,p⟩).1=code2 (s.want d 2 true) (s.want l 1 false)):=by
   show _=_;rw[E.out]
   cases f:s.at d with
   | none =>
     have:s.want d 2 true=1:=by unfold JSt.want;rw[f]
     simp only[this];rfl
   | some t=>rfl
  clear E;generalize code2 (s.want d 2 true) (s.want l 1 false)=c at J n |-;have ad:(c==0)=false:=beq_eq_false_iff_ne.2 n;have HC:=Qa n;clear n;go_wp2
  go_ret2;rw[J.out]
  exact QX.bad HC.out m.out.bel _ _ _
def Qk7 (w2:World) (b X gL nl cL i gk ok nk ck k uc:Nat) (u:TT 5) (ua:Option Addr) (t:Tmp) (v:Value) (w:World):Prop :=
 match ([(12,fun v w=>∃ B,v=.pointer (some ⟨B,0,none⟩)/\w2.heap.size<=B/\Blk w B #[.int .i64 0,.int .i64 0,.slice none 0 0] 70)]:List (Tmp × (Value->World->Prop))).lookup t with
 | some p=>p v w
 | none=>v=(([(0,.pointer (some ⟨b,0,none⟩)),(3,.pointer (some ⟨X,0,none⟩)),(178,.pointer (some ⟨b,0,none⟩)),(179,.pointer (some ⟨b,0,none⟩)),(180,.pointer (some ⟨b,6,none⟩)),(181,.slice (some ⟨gL,0,none⟩) nl cL),(182,.pointer (some ⟨X,1,none⟩)),(183,.int .i64 (i:Int)),(184,.pointer (some ⟨gL,i*3,none⟩)),(185,.pointer (some ⟨gL,i*3+2,none⟩)),(186,.slice (some ⟨gk,ok,none⟩) nk ck),(187,.pointer (some ⟨X,4,none⟩)),(188,.int .i64 (k:Int)),(189,.pointer (some ⟨gk,ok+k*3,none⟩)),(190,.agg #[.int .i64 u.kind,.int .i64 u.r,.slice ua u.len uc])]:List (Tmp × Value)).lookup t).getD undef
theorem QlG {s:JSt}{x:QC}{V:Option Addr}(M:Hid (MkS w w2 b X O s x V ag rc ac na)){H F j ok q N D:Nat}{u:TT 5}{A:Option Addr}(W:w2.cell? ⟨b,6,none⟩=some (.slice (some ⟨H,0,none⟩) F cL)) (P:w2.cell? ⟨H,i*3+2,none⟩=some (.slice (some ⟨j,ok,none⟩) q N)) (l:w2.cell? ⟨j,ok+k*3,none⟩=some (.int .i64 u.kind)) (L:w2.cell? ⟨j,ok+k*3+1,none⟩=some (.int .i64 u.r)) (J:w2.cell? ⟨j,ok+k*3+2,none⟩=some (.slice A u.len D)) (T:(i:Int)<F) (aa:(k:Int)<q) (y:x.a=(i:Int)) (z:x.k=(k:Int)){Q:Exit->Act->World->Prop}
 (a:Act) (m:Nat) (R:a.tmps.size=m) (G:365<=m) (S:a.tmps.getD 0 undef=.pointer (some ⟨b,0,none⟩)) (U:a.tmps.getD 3 undef=.pointer (some ⟨X,0,none⟩))
 (hend:∀ ops vs w',vs 190=.agg #[.int .i64 u.kind,.int .i64 u.r,.slice A u.len D]->(fun v w=>∃ B,v=.pointer (some ⟨B,0,none⟩)/\w2.heap.size<=B/\Blk w B #[.int .i64 0,.int .i64 0,.slice none 0 0] 70) (vs 12) w'->Below w2.heap.size w2 w'->wpList prog ops Q (Qdh 14 ((Tryz.f81.body.bind (Qo 38)).getD .skip)) (Zn a vs [178,179,180,181,182,183,184,185,186,187,188,189,190,12]) w') :
 Code.wp prog ((Tryz.f81.body.bind (Qo 38)).getD .skip) Q a w2:=by
 conv=>arg 2;whnf
 refine Qw 14 (Qk7 w2 b X H F cL i j ok q N k D u A) (fun w=>Below w2.heap.size w2 w) (fun w w'=>Below w.heap.size w w') (outs:=[0,3]) (gs:=[]) (bs:=[true,true,true,true,true,true,true,true,true,true,true,true,true,true]) (by kernel_rfl) (n:=365) R G (by kernel_rfl) (by kernel_rfl) ?hR ?hG (Qg Zr 1) ⟨S,U,Y⟩ ?hA ?hend
 case hR =>
  intro t v w w' hr h;unfold Qk7 at h |-;split at h
  ·rename_i p o
   simp only[List.lookup_cons,List.lookup_nil] at o
   split at o
   ·cases o;exact(by obtain⟨B,e,h1,I⟩:=h;exact⟨B,e,h1,(hr.block B (XC I)).trans I⟩)
   ·cases o
  ·exact h
 case hG=>exact Y
 case hend=>exact fun ops vs w' c d=>hend ops vs w' (d 190 (by kernel_rfl)) (d 12 (by kernel_rfl)) c
 case hA =>
  iterate 5
   refine⟨fun a w c d K f=>?_,?_⟩
   ·obtain⟨g,-⟩:=d
    conv at g=>whnf;rhs;whnf
    have l:=Qp W c;go_simp;exact f _ _ Zr c Z
  refine⟨fun a w c d K f=>?_,?_⟩
  ·obtain⟨g,-⟩:=d
   conv at g=>whnf;rhs;whnf
   have C:=(M.out.below c).cells.2.1;rw[y] at C
   go_simp;exact f _ _ Zr c Z
  refine⟨fun a w c d K f=>?_,?_⟩
  ·obtain⟨g,E,-⟩:=d
   conv at g=>whnf;rhs;whnf
   conv at E=>whnf;rhs;whnf
   go_simp;exact f _ _ Zr c Z
  iterate 3
   refine⟨fun a w c d K f=>?_,?_⟩
   ·obtain⟨g,-⟩:=d
    conv at g=>whnf;rhs;whnf
    have l:=Qp P c;go_simp;exact f _ _ Zr c Z
  refine⟨fun a w c d K f=>?_,?_⟩
  ·obtain⟨g,-⟩:=d
   conv at g=>whnf;rhs;whnf
   have C:=(M.out.below c).cells.2.2.2.2.1;rw[z] at C
   go_simp;exact f _ _ Zr c Z
  refine⟨fun a w c d K f=>?_,?_⟩
  ·obtain⟨g,E,-⟩:=d
   conv at g=>whnf;rhs;whnf
   conv at E=>whnf;rhs;whnf
   go_simp;exact f _ _ Zr c Z
  refine⟨fun a w c d K f=>?_,?_⟩
  ·obtain⟨g,-⟩:=d
   conv at g=>whnf;rhs;whnf
   have l:=Qp l c;have L:=Qp L c;have J:=Qp J c;go_simp;exact f _ _ Zr c Z
  refine⟨fun a w c d K f=>?_,?_⟩
  ·clear d;go_simp;exact f _ _ (QU _ _) (c.alloc c.size _) ⟨_,Z,c.size,Qm _ _ _⟩
  trivial
theorem Qhc {s:JSt}{x:QC}{rg:Option Addr}(hO:∀ k,O k->k<w.heap.size) (hJ:JOk s) (h:KAt w b O s) (ah:0<=x.k/\x.k<=7) (V:x.op=6) :
 Calls prog 81 #[.pointer (some ⟨b,0,none⟩),Qa9 x rg ag rc ac] w fun e w'=>QX w O (s.makes x).1 (s.makes x).2 e w':=by
 have E:Hid (s.makes x=(match s.at x.a with
  | none=>(1,[])
  | some t=>if s.want x.a 3 true=0 then (match t.2.2[x.k.toNat]? with
   | none=>(9,[])
   | some u=>(0,[u.at 5]))
   else (s.want x.a 3 true,[]))):=Qbh V
 have S0:=Qa (MkS.start x rg ag rc ac hO hJ h);obtain⟨av,m,xb,xc,xk,xn,P,W⟩:=x
 simp only at V
 subst V;clear h;go_enter func81,ntmps81
 go_upto_region 33 with fail
 obtain⟨w2,U⟩:∃ w2,(w.alloc (.cells #[.int .i64 6,.int .i64 m,.int .i64 xb,.int .i64 xc,.int .i64 xk,.int .i64 xn,.slice rg P.length rc,.slice ag W.length ac] 46)).alloc (.cells #[.int .i64 1,.int .i64 0,.slice none 0 0] 70)=w2:=⟨_,Yz⟩
 obtain⟨X,hX⟩:∃ X,w.heap.size=X:=⟨_,Yz⟩
 have d:Hid (MkS w w2 b X O s ⟨6,m,xb,xc,xk,xn,P,W⟩ rg ag rc ac (some ⟨X+1,0,none⟩)):=by rw[<-U,<-hX];exact S0.out
 rw[U,hX]
 clear U hX S0;obtain⟨C,F,q,G,y,v,D⟩:=d.out.cells
 have ar:=d.out.ok.regs;have M:=d.out.ok.vals;go_wp2_with fail
 refine(Q9 m 3 true d.out.ok.regs d.out.ok.vals d.out.known).mono ?_
 rintro e z ⟨rfl,n3,am⟩;have S3:Hid (MkS w z b X O s ⟨6,m,xb,xc,xk,xn,P,W⟩ rg ag rc ac (some ⟨X+1,0,none⟩)):=d.out.below (by rw[am];exact Qg Zr n3);clear am d C F q G y v D;have d:=S3;clear S3;obtain⟨C,F,q,G,y,v,D⟩:=d.out.cells
 simp only at C F q G y v D ah
 cases hat:s.at m with
 | none =>
   have j:s.want m 3 true=1:=by unfold JSt.want;rw[hat]
   have J:Hid (s.makes ⟨6,m,xb,xc,xk,xn,P,W⟩=(1,[])):=by
    show _=_;rw[E.out];simp only[hat]
   rw[j]
   clear E j hat;go_wp2
   go_ret2;rw[J.out]
   exact QX.nil d.out.bel
 | some t =>
   by_cases j:s.want m 3 true=0
   ·obtain⟨k,rfl⟩:=Xc ah.1
    obtain⟨-,aq,ae,T⟩:=QaO hat
    obtain⟨i,rfl⟩:=Xc aq
    obtain⟨pm,cm,a1,c1,a2,c2,a3,c3,hh,aL,cL,R⟩:=d.out.known.read
    obtain⟨q0,q1,q2,q3,q4,q5,q6⟩:=R.cells
    obtain⟨gL,va,vc,rfl,v0,v1,v2,v3,al⟩:=R.row i t (by simpa using T)
    have an:Hid (TRd z (fun g=>¬ O g) (some ⟨gL,0,none⟩) s.L):=R.row;clear R q0 q1 q2 q3 q4 q5 v0 v1;have f:t.len=t.2.2.length:=rfl
    cases hu:t.2.2[k]? with
    | none =>
      have J:Hid (s.makes ⟨6,(i:Int),xb,xc,(k:Int),xn,P,W⟩=(9,[])):=by
       show _=_;rw[E.out];simp only[hat,if_pos j,Int.toNat_natCast,hu]
      have ab:(t.len:Int)<=k:=by rw[f];have:=List.getElem?_eq_none_iff.1 hu;omega
      rw[j]
      clear E j hat hu f T;generalize t.len=tl at v2 ab;generalize S:s.L.length=nl at q6 ae M;go_wp2_with fail
      go_quiet (fail)
      go_wp2
      go_ret2;rw[J.out]
      exact QX.nil (Qg d.out.bel _)
    | some u =>
      have ak:(k:Int)<t.len:=by rw[f];have:=(Zi hu).1;omega
      obtain⟨gk,ax,H,uc,rfl,-,u0,u1,u2,u3⟩:=v3 k u hu
      have aj:u.ok:=al.2 u (Zm hu);have HU:Hid (TIn z (fun g=>¬ O g) u H/\u.ok):=⟨u3,aj⟩
      have ay:Hid ((u.at 5).count<=100000):=by
       have h1:=Zz (d.out.ok.types t (QaO hat).1);have h2:=t.count_kid (Zm hu);have h3:=TT.at_count 5 u;show _<=_;omega
      have J:Hid (s.makes ⟨6,(i:Int),xb,xc,(k:Int),xn,P,W⟩=(0,[u.at 5])):=by
       show _=_;rw[E.out];simp only[hat,if_pos j,Int.toNat_natCast,hu]
      have ab:¬ (t.len:Int)<=k:=by omega
      rw[j]
      clear E j hat hu f T v3 al u3 aj;generalize t.len=tl at v2 ab ak;generalize S:s.L.length=nl at q6 ae M;have aw:Hid (s.L.length=nl):=S;clear S;go_wp2_with fail
      go_quiet (fail)
      have S4:=Qa (d.out.below (Qg Zr nq));have K:Below z.heap.size z (z.drewN nq):=Qg Zr nq;have A:Hid (TIn (z.drewN nq) (fun g=>¬ O g) u H/\u.ok):=⟨HU.out.1.below K,HU.out.2⟩;have n:Hid (TRd (z.drewN nq) (fun g=>¬ O g) (some ⟨gL,0,none⟩) s.L):=an.out.below K;have af:=Qp q6 K;have ad:=Qp v2 K;have aa:=Qp u0 K;have N:=Qp u1 K;have Q:=Qp u2 K;clear K;generalize z.drewN nq=w4 at S4 A n af ad aa N Q |-;clear q6 v2 u0 u1 u2 HU an d C F q G y v D;have d:=S4;clear S4;obtain⟨C,F,q,G,y,v,D⟩:=d.out.cells
      simp only at C F q G y v D
      go_upto_region 38 with fail
      refine QlG d af ad aa N Q ae ak Yz Yz _ _ Yz (Xg (by kernel_rfl)) Yz Yz ?_;rintro ao vs w5 o ⟨B,I,hB,l⟩ b5;show wpList _ ao _ [_] (Zn _ vs [178,179,180,181,182,183,184,185,186,187,188,189,190,12]) w5;simp only[Zn,Act.put,List.setIfInBounds_toArray,List.set_cons_zero,List.set_cons_succ,o,I]
      have B6:Hid (Blk (((w5.setCell ⟨B,0,none⟩ (.int .i64 u.kind)).setCell ⟨B,1,none⟩ (.int .i64 u.r)).setCell ⟨B,2,none⟩ (.slice H u.len uc)) B #[.int .i64 u.kind,.int .i64 u.r,.slice H u.len uc] 70):=Blk.set3 l _ _ _
      have b6:Hid (Below w4.heap.size w4 (((w5.setCell ⟨B,0,none⟩ (.int .i64 u.kind)).setCell ⟨B,1,none⟩ (.int .i64 u.r)).setCell ⟨B,2,none⟩ (.slice H u.len uc))) :=
       ((b5.setCell (p:=⟨B,0,none⟩) hB _).setCell (p:=⟨B,1,none⟩) hB _).setCell (p:=⟨B,2,none⟩) hB _
      have e0:=Qb l 0 _ Yz;have e1:=Qb l 1 _ Yz;have e2:=Qb l 2 _ Yz;have ef:∀ i,w5.frozen? ⟨B,i,none⟩=false:=fun i=>Qn l i;clear l hB b5 o I af ad aa N Q;go_upto_region 39 with fail
      generalize (((w5.setCell ⟨B,0,none⟩ (.int .i64 u.kind)).setCell ⟨B,1,none⟩ (.int .i64 u.r)).setCell ⟨B,2,none⟩ (.slice H u.len uc))=w6 at B6 b6 |-;have S6:=Qa (d.out.below b6.out);have ai:Hid (TIn w6 (fun g=>¬ O g) u H/\u.ok):=⟨A.out.1.below b6.out,A.out.2⟩;have au:Hid (TRd w6 (fun g=>¬ O g) (some ⟨gL,0,none⟩) s.L):=n.out.below b6.out;clear d A n e0 e1 e2 ef C F q G y v D;have d:=S6;clear S6;obtain⟨C,F,q,G,y,v,D⟩:=d.out.cells
      simp only at C F q G y v D
      have e0:=Qb B6.out 0 _ Yz;have e1:=Qb B6.out 1 _ Yz;have e2:=Qb B6.out 2 _ Yz
      have Z:Hid (QX w O 0 [u.at 5] (.returned (.tuple #[.slice (some ⟨w6.heap.size,0,none⟩) 1 1,.int .i64 0])) (w6.alloc (.cells #[.int .i64 u.kind,.int .i64 u.r,.slice H u.len uc] 70))) :=
       ⟨_,1,1,Yz,fun _=>⟨Yz,Ze,QgT w6 O d.out.lt ai.out.1 ai.out.2⟩,d.out.bel.alloc d.out.bel.size _⟩
      clear B6 b6;go_wp2
      go_ret2;rw[J.out]
      exact Z.out
   ·have ap:(s.want m 3 true==0)=false:=beq_eq_false_iff_ne.2 j
    have J:Hid (s.makes ⟨6,m,xb,xc,xk,xn,P,W⟩=(s.want m 3 true,[])):=by
     show _=_;rw[E.out];simp only[hat,if_neg j]
    have HW:=Qa j;clear E hat j;generalize s.want m 3 true=c at J ap HW |-;go_wp2
    go_ret2;rw[J.out]
    exact QX.nil d.out.bel
def Qln (b X B gL nl cL j uc yc:Nat) (u y:TT 6) (ua ya:Option Addr) (q:Bool) (t:Tmp) (v:Value) (w:World):Prop :=
 v=(([(0,.pointer (some ⟨b,0,none⟩)),(3,.pointer (some ⟨X,0,none⟩)),(12,.pointer (some ⟨B,0,none⟩)),(209,.agg #[.int .i64 u.kind,.int .i64 u.r,.slice ua u.len uc]),(210,.pointer (some ⟨b,0,none⟩)),(211,.pointer (some ⟨b,0,none⟩)),(212,.pointer (some ⟨b,6,none⟩)),(213,.slice (some ⟨gL,0,none⟩) nl cL),(214,.pointer (some ⟨X,2,none⟩)),(215,.int .i64 (j:Int)),(216,.pointer (some ⟨gL,j*3,none⟩)),(217,.agg #[.int .i64 y.kind,.int .i64 y.r,.slice ya y.len yc]),(218,.bool q),(219,.bool (!q))]:List (Tmp × Value)).lookup t).getD undef
theorem QlK {s:JSt}{x:QC}{rg:Option Addr}(HS:Hid (MkS w w2 b X O s x rg ag rc ac na)){i D p G:Nat}{u y:TT 6}{k l:Option Addr}{q:Bool}{R:Nat->Prop}(L:w2.cell? ⟨B,0,none⟩=some (.int .i64 u.kind)) (e1:w2.cell? ⟨B,1,none⟩=some (.int .i64 u.r)) (e2:w2.cell? ⟨B,2,none⟩=some (.slice k u.len p)) (y0:w2.cell? ⟨b,6,none⟩=some (.slice (some ⟨i,0,none⟩) D cL)) (v0:w2.cell? ⟨i,j*3,none⟩=some (.int .i64 y.kind)) (V:w2.cell? ⟨i,j*3+1,none⟩=some (.int .i64 y.r)) (S:w2.cell? ⟨i,j*3+2,none⟩=some (.slice l y.len G)) (U:(j:Int)<D) (C:x.b=(j:Int)) (J:Hid (TIn w2 Q u k)) (W:Hid (TIn w2 R y l)) (HC:Hid (u.count<=100000)) (P:Hid (q=true↔u=y))
 (a:Act) (m:Nat) (T:a.tmps.size=m) (F:365<=m) (h0:a.tmps.getD 0 undef=.pointer (some ⟨b,0,none⟩)) (h3:a.tmps.getD 3 undef=.pointer (some ⟨X,0,none⟩)) (o:a.tmps.getD 12 undef=.pointer (some ⟨B,0,none⟩)) :
 Code.wp prog ((Tryz.f81.body.bind (Qo 43)).getD .skip) (fun e a' w'=>e=.normal/\∃ vs,a'=Zn a vs [209,210,211,212,213,214,215,216,217,218,219]/\vs 219=.bool (!q)/\Below w2.heap.size w2 w') a w2:=by
 conv=>arg 2;whnf
 refine QD (Qln b X B i D cL j p G u y k l q) (fun w=>Below w2.heap.size w2 w) (fun w w'=>Below w.heap.size w w') (outs:=[0,3,12]) (gs:=[]) (bs:=[true,true,true,true,true,true,true,true,true,true,true]) (by kernel_rfl) (n:=365) T F (by kernel_rfl) ?hR ?hG (Qg Zr 1) ⟨h0,h3,o,Y⟩ ?hA ?hend
 case hR=>exact fun t v w w' _ h=>h
 case hG=>exact Y
 case hend=>exact fun vs w' c d=>⟨Z,vs,Z,d 219 (by kernel_rfl),c⟩
 case hA =>
  iterate 6
   refine⟨fun a w c d K g=>?_,?_⟩
   ·obtain⟨f,-⟩:=d
    conv at f=>whnf;rhs;whnf
    have I:=Qp L c;have u1:=Qp e1 c;have u2:=Qp e2 c;have u3:=Qp y0 c;go_simp;exact g _ _ Zr c Z
  refine⟨fun a w c d K g=>?_,?_⟩
  ·obtain⟨f,-⟩:=d
   conv at f=>whnf;rhs;whnf
   have N:=(HS.out.below c).cells.2.2.1;rw[C] at N
   go_simp;exact g _ _ Zr c Z
  refine⟨fun a w c d K g=>?_,?_⟩
  ·obtain⟨f,z,-⟩:=d
   conv at f=>whnf;rhs;whnf
   conv at z=>whnf;rhs;whnf
   go_simp;exact g _ _ Zr c Z
  refine⟨fun a w c d K g=>?_,?_⟩
  ·obtain⟨f,-⟩:=d
   conv at f=>whnf;rhs;whnf
   have I:=Qp v0 c;have u1:=Qp V c;have u2:=Qp S c;go_simp;exact g _ _ Zr c Z
  refine⟨fun a w c d K g=>?_,?_⟩
  ·obtain⟨f,z,-⟩:=d
   conv at f=>whnf;rhs;whnf
   conv at z=>whnf;rhs;whnf
   go_simp;refine(samet_any 6 u y k l p G w (J.out.below c).all (W.out.below c).all HC.out).mono ?_;rintro r7 w7 ⟨⟨M,rfl,E⟩,H⟩
   have A:M=q:=Bool.eq_iff_iff.2 (E.trans P.out.symm);subst A;go_simp;exact g _ _ H (c.trans (H.mono c.size)) Z
  refine⟨fun a w c d K g=>?_,?_⟩
  ·obtain⟨f,-⟩:=d
   conv at f=>whnf;rhs;whnf
   go_simp;exact g _ _ Zr c Z
  trivial
theorem Qhj {s:JSt}{x:QC}{rg:Option Addr}(hO:∀ k,O k->k<w.heap.size) (hJ:JOk s) (h:KAt w b O s) (ax:0<=x.k/\x.k<=7) (ar:x.op=7) :
 Calls prog 81 #[.pointer (some ⟨b,0,none⟩),Qa9 x rg ag rc ac] w fun e w'=>QX w O (s.makes x).1 (s.makes x).2 e w':=by
 have E:Hid (s.makes x=(match s.at x.a with
  | none=>(1,[])
  | some t=>if s.want x.a 3 true=0 then (match t.2.2[x.k.toNat]? with
   | none=>(9,[])
   | some u=>(match s.at x.b with
     | none=>(1,[])
     | some v=>if bdec (u.at 5=v) then (0,[]) else (9,[])))
   else (s.want x.a 3 true,[]))):=QbR ar
 have S0:=Qa (MkS.start x rg ag rc ac hO hJ h);obtain⟨br,D,A,V,xk,W,J,U⟩:=x
 simp only at ar
 subst ar;clear h;go_enter func81,ntmps81
 go_upto_region 33 with fail
 obtain⟨w2,aq⟩:∃ w2,(w.alloc (.cells #[.int .i64 7,.int .i64 D,.int .i64 A,.int .i64 V,.int .i64 xk,.int .i64 W,.slice rg J.length rc,.slice ag U.length ac] 46)).alloc (.cells #[.int .i64 1,.int .i64 0,.slice none 0 0] 70)=w2:=⟨_,Z⟩
 obtain⟨X,hX⟩:∃ X,w.heap.size=X:=⟨_,Z⟩
 have d:Hid (MkS w w2 b X O s ⟨7,D,A,V,xk,W,J,U⟩ rg ag rc ac (some ⟨X+1,0,none⟩)):=by rw[<-aq,<-hX];exact S0.out
 rw[aq,hX]
 clear aq hX S0;obtain⟨P,S,K,T,N,M,Q⟩:=d.out.cells
 have bq:=d.out.ok.regs;have ai:=d.out.ok.vals;go_wp2_with fail
 refine(Q9 D 3 true d.out.ok.regs d.out.ok.vals d.out.known).mono ?_
 rintro e w3 ⟨rfl,n3,bd⟩;have S3:Hid (MkS w w3 b X O s ⟨7,D,A,V,xk,W,J,U⟩ rg ag rc ac (some ⟨X+1,0,none⟩)):=d.out.below (by rw[bd];exact Qg Zr n3);clear bd d P S K T N M Q;have d:=S3;clear S3;obtain⟨P,S,K,T,N,M,Q⟩:=d.out.cells
 simp only at P S K T N M Q ax
 cases hat:s.at D with
 | none =>
   have n:s.want D 3 true=1:=by unfold JSt.want;rw[hat]
   have m:Hid (s.makes ⟨7,D,A,V,xk,W,J,U⟩=(1,[])):=by
    show _=_;rw[E.out];simp only[hat]
   rw[n]
   clear E n hat;go_wp2
   go_ret2;rw[m.out]
   exact QX.nil d.out.bel
 | some t =>
   by_cases n:s.want D 3 true=0
   ·obtain⟨k,rfl⟩:=Xc ax.1
    obtain⟨-,bp,aw,ao⟩:=QaO hat
    obtain⟨i,rfl⟩:=Xc bp
    obtain⟨pm,cm,a1,c1,a2,c2,a3,c3,hh,aL,cL,R⟩:=d.out.known.read
    obtain⟨q0,q1,q2,q3,q4,q5,q6⟩:=R.cells
    obtain⟨gL,va,vc,rfl,v0,v1,v2,v3,a8⟩:=R.row i t (by simpa using ao)
    have bj:Hid (TRd w3 (fun g=>¬ O g) (some ⟨gL,0,none⟩) s.L):=R.row;clear R q0 q1 q2 q3 q4 q5 v0 v1;have l:t.len=t.2.2.length:=rfl
    cases hu:t.2.2[k]? with
    | none =>
      have m:Hid (s.makes ⟨7,(i:Int),A,V,(k:Int),W,J,U⟩=(9,[])):=by
       show _=_;rw[E.out];simp only[hat,if_pos n,Int.toNat_natCast,hu]
      have av:(t.len:Int)<=k:=by rw[l];have:=List.getElem?_eq_none_iff.1 hu;omega
      rw[n]
      clear E n hat hu l ao;generalize t.len=tl at v2 av;generalize an:s.L.length=nl at q6 aw ai;go_wp2_with fail
      go_quiet (fail)
      go_wp2
      go_ret2;rw[m.out]
      exact QX.nil (Qg d.out.bel _)
    | some u =>
      have a5:(k:Int)<t.len:=by rw[l];have:=(Zi hu).1;omega
      obtain⟨gk,b3,ua,uc,rfl,-,u0,u1,u2,u3⟩:=v3 k u hu
      have a4:u.ok:=a8.2 u (Zm hu);have HU:Hid (TIn w3 (fun g=>¬ O g) u ua/\u.ok):=⟨u3,a4⟩
      have bn:Hid ((u.at 5).count<=100000):=by
       have h1:=Zz (d.out.ok.types t (QaO hat).1);have h2:=t.count_kid (Zm hu);have h3:=TT.at_count 5 u;show _<=_;omega
      have m:Hid (s.makes ⟨7,(i:Int),A,V,(k:Int),W,J,U⟩=(match s.at A with | none=>(1,[]) | some v=>if bdec (u.at 5=v) then (0,[]) else (9,[]))):=by
       show _=_;rw[E.out];simp only[hat,if_pos n,Int.toNat_natCast,hu]
      have av:¬ (t.len:Int)<=k:=by omega
      rw[n]
      clear E n hat hu l ao v3 a8 u3 a4;generalize t.len=tl at v2 av a5;generalize an:s.L.length=nl at q6 aw ai;have ad:Hid (s.L.length=nl):=an;clear an;go_wp2_with fail
      go_quiet (fail)
      have S4:=Qa (d.out.below (Qg Zr nq));have b4:Below w3.heap.size w3 (w3.drewN nq):=Qg Zr nq;have ab:Hid (TIn (w3.drewN nq) (fun g=>¬ O g) u ua/\u.ok):=⟨HU.out.1.below b4,HU.out.2⟩;have G:Hid (TRd (w3.drewN nq) (fun g=>¬ O g) (some ⟨gL,0,none⟩) s.L):=bj.out.below b4;have C:=Qp q6 b4;have o:=Qp v2 b4;have au:=Qp u0 b4;have ak:=Qp u1 b4;have am:=Qp u2 b4;clear b4;generalize w3.drewN nq=w4 at S4 ab G C o au ak am |-;clear q6 v2 u0 u1 u2 HU bj d P S K T N M Q;have d:=S4;clear S4;obtain⟨P,S,K,T,N,M,Q⟩:=d.out.cells
      simp only at P S K T N M Q
      go_upto_region 38 with fail
      refine QlG d C o au ak am aw a5 Z Z _ _ Z (Xg (by kernel_rfl)) Z Z ?_;rintro bl vs w5 I ⟨B,af,hB,z⟩ b5;show wpList _ bl _ [_] (Zn _ vs [178,179,180,181,182,183,184,185,186,187,188,189,190,12]) w5;simp only[Zn,Act.put,List.setIfInBounds_toArray,List.set_cons_zero,List.set_cons_succ,I,af]
      have B6:Hid (Blk (((w5.setCell ⟨B,0,none⟩ (.int .i64 u.kind)).setCell ⟨B,1,none⟩ (.int .i64 u.r)).setCell ⟨B,2,none⟩ (.slice ua u.len uc)) B #[.int .i64 u.kind,.int .i64 u.r,.slice ua u.len uc] 70):=Blk.set3 z _ _ _
      have b6:Hid (Below w4.heap.size w4 (((w5.setCell ⟨B,0,none⟩ (.int .i64 u.kind)).setCell ⟨B,1,none⟩ (.int .i64 u.r)).setCell ⟨B,2,none⟩ (.slice ua u.len uc))) :=
       ((b5.setCell (p:=⟨B,0,none⟩) hB _).setCell (p:=⟨B,1,none⟩) hB _).setCell (p:=⟨B,2,none⟩) hB _
      have e0:=Qb z 0 _ Z;have e1:=Qb z 1 _ Z;have e2:=Qb z 2 _ Z;have ef:∀ i,w5.frozen? ⟨B,i,none⟩=false:=fun i=>Qn z i;clear z hB b5 I af C o au ak am;go_upto_region 39 with fail
      generalize (((w5.setCell ⟨B,0,none⟩ (.int .i64 u.kind)).setCell ⟨B,1,none⟩ (.int .i64 u.r)).setCell ⟨B,2,none⟩ (.slice ua u.len uc))=H at B6 b6 |-;have S6:=Qa (d.out.below b6.out);have az:Hid (TIn H (fun g=>¬ O g) u ua/\u.ok):=⟨ab.out.1.below b6.out,ab.out.2⟩;have bh:Hid (TRd H (fun g=>¬ O g) (some ⟨gL,0,none⟩) s.L):=G.out.below b6.out;clear d ab G e0 e1 e2 ef P S K T N M Q;have d:=S6;clear S6;obtain⟨P,S,K,T,N,M,Q⟩:=d.out.cells
      simp only at P S K T N M Q
      have e0:=Qb B6.out 0 _ Z;have e1:=Qb B6.out 1 _ Z;have e2:=Qb B6.out 2 _ Z;have ap:u.height<=5:=by have h9:u.height<5:=TT.height_lt u;omega
      rw[<-TT.at_kind 5 u] at e0
      rw[<-TT.at_r 5 u] at e1
      rw[<-TT.at_len 5 u ap] at e2
      have al:Hid (TIn H (fun g=>¬ O g) (u.at 5) ua):=az.out.1.at 5 ap;have a6:Hid ((u.at 5).count<=100000):=bn.out;obtain⟨bw,bu,bv,b2,bz,b0,bs,bx,b1,bo,bt,R'⟩:=d.out.known.read
      obtain⟨-,-,-,-,-,-,q6⟩:=R'.cells
      have ah:Hid (TRd H (fun g=>¬ O g) bo s.L):=R'.row;rw[ad.out] at q6
      clear R' az bh B6 ap;generalize u.at 5=u6 at e0 e1 e2 al a6 m;by_cases f:A<0
      ·have a7:decide (A<0)=true:=Xt f
       have E3:Hid (s.makes ⟨7,(i:Int),A,V,(k:Int),W,J,U⟩=(1,[])):=by
        show _=_
        have:s.at A=none:=by unfold JSt.at;rw[Xs f]
        rw[m.out,this]
       clear m f;go_wp2_with fail
       go_quiet (fail)
       go_wp2
       go_ret2;rw[E3.out]
       exact QX.nil (Qg d.out.bel _)
      obtain⟨j,rfl⟩:=Xc (show 0<=A by omega)
      have a7:decide ((j:Int)<0)=false:=Xu (by omega);by_cases a0:j<nl
      ·have ae:s.L[j]?=some (s.L[j]'(by rw[ad.out];exact a0)):=Zg _;generalize s.L[j]'(by rw[ad.out];exact a0)=y at ae;have aj:s.at (j:Int)=some y:=by unfold JSt.at;rw[Xr f];exact ae
       have E3:Hid (s.makes ⟨7,(i:Int),(j:Int),V,(k:Int),W,J,U⟩=if bdec (u6=y) then (0,[]) else (9,[])):=by
        show _=_;rw[m.out,aj]
       obtain⟨gY,ya,yc,rfl,v0,v1,v2,v3,-⟩:=ah.out j y ae
       have a9:decide ((nl:Int)<=j)=false:=Xu (by omega);have bf:(j:Int)<nl:=by omega
       have HY:Hid (TIn H (fun g=>¬ O g) y ya):=v3;clear m f ae aj v3 ah;go_wp2_with fail
       go_quiet (fail)
       have F:Below H.heap.size H (H.drewN nq):=Qg Zr nq;have S7:=Qa (d.out.below F);have bg:Hid (TIn (H.drewN nq) (fun g=>¬ O g) u6 ua):=al.out.below F;have ba:Hid (TIn (H.drewN nq) (fun g=>¬ O g) y ya):=HY.out.below F;have C:=Qp q6 F;have be:=Qp e0 F;have bk:=Qp e1 F;have bc:=Qp e2 F;have bi:=Qp v0 F;have bb:=Qp v1 F;have o:=Qp v2 F;clear F b6;generalize H.drewN nq=w7 at S7 bg ba C be bk bc bi bb o |-;clear q6 e0 e1 e2 v0 v1 v2 d al HY P S K T N M Q;have HQ:Hid (bdec (u6=y)=true↔u6=y):=Zj;go_upto_region 43 with fail
       refine Code.wp_mono ?_ (QlK S7 be bk bc C bi bb o bf Z bg ba a6 HQ _ _ Z (Xg (by kernel_rfl)) Z Z Z);rintro ee aa w8 ⟨rfl,vs,rfl,hv,ay⟩;simp only[Zn,Act.put,List.setIfInBounds_toArray,List.set_cons_zero,List.set_cons_succ,hv]
       have B8:=Qa (S7.out.below ay).bel;clear ay hv HQ;generalize bdec (u6=y)=q at E3 |-
       cases q with
       | true =>
         go_wp2
         go_ret2;rw[E3.out]
         exact QX.nil B8.out
       | false =>
         go_wp2
         go_ret2;rw[E3.out]
         exact QX.nil B8.out
      ·have E3:Hid (s.makes ⟨7,(i:Int),(j:Int),V,(k:Int),W,J,U⟩=(1,[])):=by
        show _=_
        have:s.at (j:Int)=none:=by unfold JSt.at;rw[Xr f,XT,Xk (by rw[ad.out];omega)]
        rw[m.out,this]
       have a9:decide ((nl:Int)<=j)=true:=Xt (by omega);clear m f;go_wp2_with fail
       go_quiet (fail)
       go_wp2
       go_ret2;rw[E3.out]
       exact QX.nil (Qg d.out.bel _)
   ·have bm:(s.want D 3 true==0)=false:=beq_eq_false_iff_ne.2 n
    have m:Hid (s.makes ⟨7,D,A,V,xk,W,J,U⟩=(s.want D 3 true,[])):=by
     show _=_;rw[E.out];simp only[hat,if_neg n]
    have HW:=Qa n;clear E hat n;generalize s.want D 3 true=c at m bm HW |-;go_wp2
    go_ret2;rw[m.out]
    exact QX.nil d.out.bel
structure Tup (wA wr:World) (B:Nat) (O:Nat->Prop) (r:Int) (v:Value) (l:List (TT 6)):Prop where
 bel:Below wA.heap.size wA wr
 hB:wA.heap.size<=B
 box:Blk wr B #[.int .i64 3,.int .i64 r,v] 70
 row:∃ xs,wr.ownsRow (B+1) 70 3 v l.length xs/\∀ i x,l[i]?=some x->(Lay.tt 6).In wr (fun g=>¬ O g/\g<wA.heap.size) x ((xs.drop (i*3)).take 3)
section
variable {wA wr w':World}{B:Nat}{O:Nat->Prop}{r:Int}{v:Value}{l:List (TT 6)}
theorem Tup.below (h:Tup wA wr B O r v l) (k:Below wr.heap.size wr w'):Tup wA w' B O r v l:=by
 obtain⟨d,o,c,f,⟨m,s⟩,j⟩:=h
 refine⟨d.trans (k.mono d.size),o,(k.block B (XC c)).trans c,f,⟨m,?_⟩,fun i x n=>Ya (j i x n) k⟩
 rcases s with t | ⟨g,b,a,rfl,p,e,q⟩
 ·exact Or.inl t
 ·exact Or.inr ⟨g,b,a,Z,p,(k.block g (XC e)).trans e,q⟩
theorem Tup.form (h:Tup wA wr B O r v l):∃ a c xs,v=.slice a l.length c/\wr.ownsRow (B+1) 70 3 (.slice a l.length c) l.length xs/\(∀ i x,l[i]?=some x->(Lay.tt 6).In wr (fun g=>¬ O g/\g<wA.heap.size) x ((xs.drop (i*3)).take 3))/\wr.cell? ⟨B,2,none⟩=some (.slice a l.length c):=by
 obtain⟨o,p,j,xs,b,f⟩:=h
 obtain⟨n,k⟩:=id b
 rcases k with ⟨rfl,e⟩|⟨g,d,m,rfl,t,s,q⟩
 ·refine⟨none,0,xs,by rw[e],by rw[e] at b |-;exact b,f,?_⟩
  rw[Qb j 2 _ Z,e];rfl
 ·exact⟨some ⟨g,0,none⟩,d,xs,Z,b,f,Qb j 2 _ Z⟩
theorem Tup.tree (h:Tup wA wr B O r v l) (C:∀ k,O k->k<wA.heap.size):∃ a c,v=.slice a l.length c/\TIn wr (fun g=>¬ O g) (mkT 3 r l:TT 7) a/\∀ x∈l,x.ok:=by
 obtain⟨a,c,w,rfl,E,q,-⟩:=h.form
 refine⟨a,c,Z,fun i x b=>?_,fun x b=>?_⟩
 ·obtain⟨P,D⟩:=E
  have s:i<l.length:=(Zi b).1;rcases D with ⟨_,Q⟩|⟨g,A,z,e,M,F,L,N,K,I⟩
  ·omega
  ·obtain⟨o,f,p,m,t⟩:=q i x b
   have J:=h.hB
   have d:∀ j u,j<3->((w.drop (i*3)).take 3)[j]?=some u->wr.cell? ⟨g,i*3+j,none⟩=some u:=fun j u H n=>by
    rw[XR,Xs H,List.getElem?_drop,<-I,XR,Xs (by omega),Array.getElem?_toList] at n
    exact Qb F _ u n
   rw[p] at d
   simp only[Value.slice.injEq] at e
   refine⟨g,0,o,f,e.1,fun G=>by have:=C g G;omega,?_,?_,?_,m.mono (fun k y _=>y.1)⟩
   ·rw[XK];exact d 0 _ (by omega) Z
   ·rw[XK];exact d 1 _ (by omega) Z
   ·rw[XK];exact d 2 _ (by omega) Z
 ·obtain⟨i,s⟩:=List.getElem?_of_mem b
  obtain⟨o,f,p,m,t⟩:=q i x s
  exact t
theorem Tup.push {w9:World}{t:TT 6}{s:Option Addr}{z:Nat}(b:Below wA.heap.size wA wr) (F:wA.heap.size<=B) (j:Blk wr B #[.int .i64 3,.int .i64 r,.slice a l.length c] 70)
 (m:∀ i x,l[i]?=some x->(Lay.tt 6).In wr (fun g=>¬ O g/\g<wA.heap.size) x ((xs.drop (i*3)).take 3)) (p:xs.length=l.length*3) (P:TIn wr (fun g=>¬ O g/\g<wA.heap.size) t s) (v:t.ok) (d:∀ k,(Value.slice a l.length c).ownBlock=some k->B+1<=k)
 (N:w9.ownsRow (B+1) 70 3 (.slice (some ⟨g,0,none⟩) (l.length+1) cap) (l.length+1) (xs++[.int .i64 t.kind,.int .i64 t.r,.slice s t.len z])) (n:wr.grownBy w9 (Value.slice a l.length c).ownBlock) :
 w9.cell? ⟨B,2,none⟩=some (.slice a l.length c)/\w9.frozen? ⟨B,2,none⟩=false/\Tup wA (w9.setCell ⟨B,2,none⟩ (.slice (some ⟨g,0,none⟩) (l.length+1) cap)) B O r (.slice (some ⟨g,0,none⟩) (l.length+1) cap) (l++[t]):=by
 have u:B<wr.heap.size:=XC j;have w:w9.heap[B]?=some (.cells #[.int .i64 3,.int .i64 r,.slice a l.length c] 70 (0,0)):=(n.block B u (fun e=>by have:=d B e.symm;omega)).trans j
 have f:∀ {x:TT 6} {A:List Value},(Lay.tt 6).In wr (fun g=>¬ O g/\g<wA.heap.size) x A->(Lay.tt 6).In (w9.setCell ⟨B,2,none⟩ (.slice (some ⟨g,0,none⟩) (l.length+1) cap)) (fun g=>¬ O g/\g<wA.heap.size) x A:=fun {x A} h =>
  (Lay.tt 6).keep (fun k o H=>(Xd _ _ _ _ (show k≠B by have:=o.2;omega)).trans (n.block k H (fun e=>by have:=d k e.symm;have:=o.2;omega))) (fun _ o _=>o) h
 refine⟨Qb w 2 _ Z,Qn w 2,?_,F,?_,xs++[.int .i64 t.kind,.int .i64 t.r,.slice s t.len z],?_,?_⟩
 ·refine⟨n.os.trans b.os,n.tape.trans b.tape,n.output.trans b.output,by have:=n.size;have:=b.size;simp;omega,fun k o=>?_⟩
  have G:=b.size;rw[Xd _ _ _ _ (show k≠B by omega),n.block k (by omega) (fun e=>by have:=d k e.symm;omega)]
  exact b.block k o
 ·show (w9.setCell ⟨B,2,none⟩ _).heap[B]?=_;rw[Qq w];rfl
 ·obtain⟨K,L⟩:=N
  rw[List.length_append]
  refine⟨K,?_⟩
  rcases L with ⟨e,_⟩|⟨Q,E,y,e,I,M,q⟩
  ·cases e
  ·cases e
   exact Or.inr ⟨g,cap,y,Z,I,(Xd _ _ _ _ (show g≠B by omega)).trans M,q⟩
 ·intro i x h;rw[List.getElem?_append] at h
  split at h
  ·rename_i J
   rw[List.drop_append_of_le_length (by omega),List.take_append_of_le_length (by simp;omega)]
   exact f (m i x h)
  ·rename_i J
   have C:=(Zi h).1;have D:i=l.length:=by simp at C;omega
   subst D;rw[Nat.sub_self] at h
   have h:t=x:=by simpa using h
   subst h;rw[List.drop_append,List.drop_of_length_le (by omega),p,Nat.sub_self,List.drop_zero,List.nil_append]
   exact f ⟨s,z,Z,P,v⟩
end
theorem Qc1 {s:JSt}(a:l[k]?=some x):s.fields (l.drop k)=match s.at x with
 | none=>none
 | some t=>match s.fields (l.drop (k+1)) with
   | none=>none
   | some r=>some (t::r):=by
 obtain⟨b,e⟩:=Zi a
 rw[List.drop_eq_getElem_cons b,e,JSt.fields]
 cases s.at x with
 | none=>rfl
 | some t=>cases s.fields (l.drop (k+1))<;>rfl
theorem Qcn {s:JSt}{l:List Int}:∀ (k:Nat) (ts:List (TT 6)),k<=l.length->ts.length=k->(∀ (i:Nat) (x:Int),l[i]?=some x->i<k->s.at x=ts[i]?)->s.fields l=(s.fields (l.drop k)).map (ts++·)
 | 0,ts,_,h,_=>by
   have:ts=[]:=Xf.1 h
   subst this;simp
 | k+1,ts,hk,h,hs=>by
   have a:k<l.length:=by omega
   have d:l[k]?=some l[k]:=Zg a;have g:ts[k]?=some (ts[k]'(by omega)):=Zg _;have f:=Qcn (s:=s) (l:=l) k (ts.take k) (by omega) (by rw[List.length_take];omega) (fun i x e b=>by rw[hs i x e (by omega),XR,Xs b]);rw[f,Qc1 d,hs k _ d (by omega),g]
   simp only
   cases s.fields (l.drop (k+1)) with
   | none=>rfl
   | some r =>
     simp only[Option.map_some]
     congr 1
     have:ts=ts.take k++[ts[k]'(by omega)]:=by
      have c:=List.take_append_drop k ts;rw[List.drop_eq_getElem_cons (by omega),List.drop_of_length_le (by omega)] at c
      exact c.symm
     rw[<-List.singleton_append,<-List.append_assoc,<-this]
def Qk0 (w2:World) (b X gL nl cL i:Nat) (r:Int) (t:Tmp) (v:Value) (w:World):Prop :=
 match ([(9,fun v w=>∃ B,v=.pointer (some ⟨B,0,none⟩)/\w2.heap.size<=B/\Blk w B #[.int .i64 0,.int .i64 0,.slice none 0 0] 70)]:List (Tmp × (Value->World->Prop))).lookup t with
 | some p=>p v w
 | none=>v=(([(0,.pointer (some ⟨b,0,none⟩)),(3,.pointer (some ⟨X,0,none⟩)),(98,.pointer (some ⟨b,0,none⟩)),(99,.pointer (some ⟨b,0,none⟩)),(100,.pointer (some ⟨b,6,none⟩)),(101,.slice (some ⟨gL,0,none⟩) nl cL),(102,.pointer (some ⟨X,1,none⟩)),(103,.int .i64 (i:Int)),(104,.pointer (some ⟨gL,i*3,none⟩)),(105,.pointer (some ⟨gL,i*3+1,none⟩)),(106,.int .i64 r),(107,.agg #[.int .i64 3,.int .i64 r,.slice none 0 0])]:List (Tmp × Value)).lookup t).getD undef
theorem QlS {s:JSt}{x:QC}{H:Option Addr}(I:Hid (MkS w w2 b X O s x H ag rc ac na)){q l:Nat}{r:Int}(J:w2.cell? ⟨b,6,none⟩=some (.slice (some ⟨q,0,none⟩) l cL)) (D:w2.cell? ⟨q,i*3+1,none⟩=some (.int .i64 r)) (F:(i:Int)<l) (k:x.a=(i:Int)){Q:Exit->Act->World->Prop}
 (a:Act) (m:Nat) (C:a.tmps.size=m) (o:365<=m) (E:a.tmps.getD 0 undef=.pointer (some ⟨b,0,none⟩)) (G:a.tmps.getD 3 undef=.pointer (some ⟨X,0,none⟩))
 (hend:∀ ops vs w',vs 107=.agg #[.int .i64 3,.int .i64 r,.slice none 0 0]->(fun v w=>∃ B,v=.pointer (some ⟨B,0,none⟩)/\w2.heap.size<=B/\Blk w B #[.int .i64 0,.int .i64 0,.slice none 0 0] 70) (vs 9) w'->Below w2.heap.size w2 w'->wpList prog ops Q (Qdh 11 ((Tryz.f81.body.bind (Qo 21)).getD .skip)) (Zn a vs [98,99,100,101,102,103,104,105,106,107,9]) w') :
 Code.wp prog ((Tryz.f81.body.bind (Qo 21)).getD .skip) Q a w2:=by
 conv=>arg 2;whnf
 refine Qw 11 (Qk0 w2 b X q l cL i r) (fun w=>Below w2.heap.size w2 w) (fun w w'=>Below w.heap.size w w') (outs:=[0,3]) (gs:=[]) (bs:=[true,true,true,true,true,true,true,true,true,true,true]) (by kernel_rfl) (n:=365) C o (by kernel_rfl) (by kernel_rfl) ?hR ?hG (Qg Zr 1) ⟨E,G,Y⟩ ?hA ?hend
 case hR =>
  intro t v w w' M h;unfold Qk0 at h |-;split at h
  ·rename_i p j
   simp only[List.lookup_cons,List.lookup_nil] at j
   split at j
   ·cases j;exact(by obtain⟨B,e,L,u⟩:=h;exact⟨B,e,L,(M.block B (XC u)).trans u⟩)
   ·cases j
  ·exact h
 case hG=>exact Y
 case hend=>exact fun ops vs w' c d=>hend ops vs w' (d 107 (by kernel_rfl)) (d 9 (by kernel_rfl)) c
 case hA =>
  iterate 5
   refine⟨fun a w c d K f=>?_,?_⟩
   ·obtain⟨g,-⟩:=d
    conv at g=>whnf;rhs;whnf
    have y:=Qp J c;go_simp;exact f _ _ Zr c Z
  refine⟨fun a w c d K f=>?_,?_⟩
  ·obtain⟨g,-⟩:=d
   conv at g=>whnf;rhs;whnf
   have z:=(I.out.below c).cells.2.1;rw[k] at z
   go_simp;exact f _ _ Zr c Z
  refine⟨fun a w c d K f=>?_,?_⟩
  ·obtain⟨g,A,-⟩:=d
   conv at g=>whnf;rhs;whnf
   conv at A=>whnf;rhs;whnf
   go_simp;exact f _ _ Zr c Z
  iterate 2
   refine⟨fun a w c d K f=>?_,?_⟩
   ·obtain⟨g,-⟩:=d
    conv at g=>whnf;rhs;whnf
    have y:=Qp D c;go_simp;exact f _ _ Zr c Z
  refine⟨fun a w c d K f=>?_,?_⟩
  ·obtain⟨g,-⟩:=d
   conv at g=>whnf;rhs;whnf
   simp only[Za] at g
   go_simp;exact f _ _ Zr c Z
  refine⟨fun a w c d K f=>?_,?_⟩
  ·clear d;go_simp;exact f _ _ (QU _ _) (c.alloc c.size _) ⟨_,Z,c.size,Qm _ _ _⟩
  trivial
def QkJ (w2:World) (b X B tn tc gL nl cL lg lo N lc k j uc:Nat) (u:TT 6) (ta ua:Option Addr) (t:Tmp) (v:Value) (w:World):Prop :=
 match ([(147,fun v w=>∃ G,v=.slice (some ⟨G,0,none⟩) 1 1/\w2.heap.size<=G/\Blk w G #[.int .i64 u.kind,.int .i64 u.r,.slice ua u.len uc] 70)]:List (Tmp × (Value->World->Prop))).lookup t with
 | some p=>p v w
 | none=>v=(([(0,.pointer (some ⟨b,0,none⟩)),(3,.pointer (some ⟨X,0,none⟩)),(9,.pointer (some ⟨B,0,none⟩)),(10,.int .i64 (k:Int)),(134,.pointer (some ⟨B,2,none⟩)),(135,.slice ta tn tc),(136,.pointer (some ⟨b,0,none⟩)),(137,.pointer (some ⟨b,0,none⟩)),(138,.pointer (some ⟨b,6,none⟩)),(139,.slice (some ⟨gL,0,none⟩) nl cL),(140,.pointer (some ⟨X,7,none⟩)),(141,.slice (some ⟨lg,lo,none⟩) N lc),(142,.int .i64 (k:Int)),(143,.pointer (some ⟨lg,lo+k,none⟩)),(144,.int .i64 (j:Int)),(145,.pointer (some ⟨gL,j*3,none⟩)),(146,.agg #[.int .i64 u.kind,.int .i64 u.r,.slice ua u.len uc])]:List (Tmp × Value)).lookup t).getD undef
theorem QlV {q C i A D I x:Nat}{u:TT 6}{z s:Option Addr}(t2:w2.cell? ⟨B,2,none⟩=some (.slice z q C)) (y0:w2.cell? ⟨b,6,none⟩=some (.slice (some ⟨i,0,none⟩) A cL)) (U:w2.cell? ⟨X,7,none⟩=some (.slice (some ⟨D,lo,none⟩) N I)) (L:w2.cell? ⟨D,lo+k,none⟩=some (.int .i64 (j:Int))) (v0:w2.cell? ⟨i,j*3,none⟩=some (.int .i64 u.kind)) (R:w2.cell? ⟨i,j*3+1,none⟩=some (.int .i64 u.r)) (M:w2.cell? ⟨i,j*3+2,none⟩=some (.slice s u.len x)) (J:(k:Int)<N) (P:(j:Int)<A){Q:Exit->Act->World->Prop}
 (a:Act) (m:Nat) (O:a.tmps.size=m) (E:365<=m) (S:a.tmps.getD 0 undef=.pointer (some ⟨b,0,none⟩)) (W:a.tmps.getD 3 undef=.pointer (some ⟨X,0,none⟩)) (V:a.tmps.getD 9 undef=.pointer (some ⟨B,0,none⟩)) (o:a.tmps.getD 10 undef=.int .i64 (k:Int))
 (hend:∀ ops vs w',vs 135=.slice z q C->(fun v w=>∃ G,v=.slice (some ⟨G,0,none⟩) 1 1/\w2.heap.size<=G/\Blk w G #[.int .i64 u.kind,.int .i64 u.r,.slice s u.len x] 70) (vs 147) w'->Below w2.heap.size w2 w'->wpList prog ops Q (Qdh 14 ((Tryz.f81.body.bind (Qo 27)).getD .skip)) (Zn a vs [134,135,136,137,138,139,140,141,142,143,144,145,146,147]) w') :
 Code.wp prog ((Tryz.f81.body.bind (Qo 27)).getD .skip) Q a w2:=by
 conv=>arg 2;whnf
 refine Qw 14 (QkJ w2 b X B q C i A cL D lo N I k j x u z s) (fun w=>Below w2.heap.size w2 w) (fun w w'=>Below w.heap.size w w') (outs:=[0,3,9,10]) (gs:=[]) (bs:=[true,true,true,true,true,true,true,true,true,true,true,true,true,true]) (by kernel_rfl) (n:=365) O E (by kernel_rfl) (by kernel_rfl) ?hR ?hG (Qg Zr 1) ⟨S,W,V,o,Y⟩ ?hA ?hend
 case hR =>
  intro t v w w' hr h;unfold QkJ at h |-;split at h
  ·rename_i p l
   simp only[List.lookup_cons,List.lookup_nil] at l
   split at l
   ·cases l;exact(by obtain⟨G,e,h1,H⟩:=h;exact⟨G,e,h1,(hr.block G (XC H)).trans H⟩)
   ·cases l
  ·exact h
 case hG=>exact Y
 case hend=>exact fun ops vs w' c d=>hend ops vs w' (d 135 (by kernel_rfl)) (d 147 (by kernel_rfl)) c
 case hA =>
  iterate 9
   refine⟨fun a w c d K g=>?_,?_⟩
   ·obtain⟨f,-⟩:=d
    conv at f=>whnf;rhs;whnf
    have F:=Qp t2 c;have u1:=Qp y0 c;have T:=Qp U c;go_simp;exact g _ _ Zr c Z
  refine⟨fun a w c d K g=>?_,?_⟩
  ·obtain⟨f,y,-⟩:=d
   conv at f=>whnf;rhs;whnf
   conv at y=>whnf;rhs;whnf
   go_simp;exact g _ _ Zr c Z
  refine⟨fun a w c d K g=>?_,?_⟩
  ·obtain⟨f,-⟩:=d
   conv at f=>whnf;rhs;whnf
   have F:=Qp L c;go_simp;exact g _ _ Zr c Z
  refine⟨fun a w c d K g=>?_,?_⟩
  ·obtain⟨f,y,-⟩:=d
   conv at f=>whnf;rhs;whnf
   conv at y=>whnf;rhs;whnf
   go_simp;exact g _ _ Zr c Z
  refine⟨fun a w c d K g=>?_,?_⟩
  ·obtain⟨f,-⟩:=d
   conv at f=>whnf;rhs;whnf
   have F:=Qp v0 c;have u1:=Qp R c;have T:=Qp M c;go_simp;exact g _ _ Zr c Z
  refine⟨fun a w c d K g=>?_,?_⟩
  ·obtain⟨f,-⟩:=d
   conv at f=>whnf;rhs;whnf
   simp only[Za] at f
   go_simp;exact g _ _ (QU _ _) (c.alloc c.size _) ⟨_,Z,c.size,Qm _ _ _⟩
  trivial
theorem Qfl {s:JSt}{x:QC}{rg:Option Addr}(hO:∀ k,O k->k<w.heap.size) (hJ:JOk s) (h:KAt w b O s){QA:Nat->Prop}(aq:intsL.In w QA x.args [.slice ag x.args.length ac]) (D:x.args.length<=8) (bg:x.op=5) :
 Calls prog 81 #[.pointer (some ⟨b,0,none⟩),Qa9 x rg ag rc ac] w fun e w'=>QX w O (s.makes x).1 (s.makes x).2 e w':=by
 have ao:=Qa aq;clear aq
 have E:Hid (s.makes x=(match s.at x.a with
  | none=>(1,[])
  | some t=>if s.want x.a 2 true=0 then (match s.fields x.args with
   | none=>(1,[])
   | some l=>if 4<TT.height (n:=7) (mkT 3 t.r l) then (19,[]) else (0,[TT.at (n:=7) 5 (mkT 3 t.r l)]))
   else (s.want x.a 2 true,[]))):=Qaw bg
 have S0:=Qa (MkS.start x rg ag rc ac hO hJ h);obtain⟨dg,xa,xb,xc,xk,xn,xr,f⟩:=x
 simp only at bg
 subst bg;clear h;go_enter func81,ntmps81
 go_upto_region 18 with fail
 obtain⟨w2,bf⟩:∃ w2,(w.alloc (.cells #[.int .i64 5,.int .i64 xa,.int .i64 xb,.int .i64 xc,.int .i64 xk,.int .i64 xn,.slice rg xr.length rc,.slice ag f.length ac] 46)).alloc (.cells #[.int .i64 1,.int .i64 0,.slice none 0 0] 70)=w2:=⟨_,Yz⟩
 obtain⟨X,hX⟩:∃ X,w.heap.size=X:=⟨_,Yz⟩
 have m:Hid (MkS w w2 b X O s ⟨5,xa,xb,xc,xk,xn,xr,f⟩ rg ag rc ac (some ⟨X+1,0,none⟩)):=by rw[<-bf,<-hX];exact S0.out
 rw[bf,hX]
 clear bf hX S0;obtain⟨x0,x1,x2,x3,x4,x6,x7⟩:=m.out.cells
 have de:=m.out.ok.regs;have cn:=m.out.ok.vals;simp only at x0 x1 x2 x3 x4 x6 x7 D
 have b1:Hid (intsL.In w2 QA f [.slice ag f.length ac]):=Ya ao.out m.out.bel;clear ao;go_wp2_with fail
 refine(Q9 xa 2 true m.out.ok.regs m.out.ok.vals m.out.known).mono ?_
 rintro e S ⟨rfl,n3,ce⟩;have ba:Below w2.heap.size w2 S:=by rw[ce];exact Qg Zr n3
 have S3:Hid (MkS w S b X O s ⟨5,xa,xb,xc,xk,xn,xr,f⟩ rg ag rc ac (some ⟨X+1,0,none⟩)):=m.out.below ba;have HA:Hid (intsL.In S QA f [.slice ag f.length ac]):=Ya b1.out ba;clear ce ba m b1 x0 x1 x2 x3 x4 x6 x7;have m:=S3;clear S3
 cases A:s.at xa with
 | none =>
   have hw:s.want xa 2 true=1:=by unfold JSt.want;rw[A]
   have E2:Hid (s.makes ⟨5,xa,xb,xc,xk,xn,xr,f⟩=(1,[])):=by
    show _=_;rw[E.out];simp only[A]
   rw[hw]
   clear E hw A;go_wp2
   go_ret2;rw[E2.out]
   exact QX.nil m.out.bel
 | some t =>
   by_cases hw:s.want xa 2 true=0
   ·obtain⟨-,dd,cj,bt⟩:=QaO A
    obtain⟨i,rfl⟩:=Xc dd
    obtain⟨pm,cm,a1,c1,a2,c2,a3,c3,hh,aL,cL,R⟩:=m.out.known.read
    obtain⟨-,-,-,-,-,-,q6⟩:=R.cells
    obtain⟨gL,va,vc,rfl,-,v1,-,-,bz⟩:=R.row i t (by simpa using bt)
    have cl:Hid (TRd S (fun g=>¬ O g) (some ⟨gL,0,none⟩) s.L):=R.row;have cf:Hid (-9223372036854775808<=t.r/\t.r<=9223372036854775807):=bz.1
    have E2:Hid (s.makes ⟨5,(i:Int),xb,xc,xk,xn,xr,f⟩=(match s.fields f with | none=>(1,[]) | some l=>if 4<TT.height (n:=7) (mkT 3 t.r l) then (19,[]) else (0,[TT.at (n:=7) 5 (mkT 3 t.r l)]))):=by
     show _=_;rw[E.out];simp only[A,if_pos hw]
    rw[hw]
    clear E hw A bt R bz;generalize bn:s.L.length=nl at q6 cj cn;have bb:Hid (s.L.length=nl):=bn;generalize t.r=r at v1 E2 cf;clear bn;go_upto_region 21 with fail
    refine QlS m q6 v1 cj Yz _ _ Yz (Xg (by kernel_rfl)) Yz Yz ?_;rintro bd vs w5 ad ⟨B,br,hB,W⟩ b5;show wpList _ bd _ [_] (Zn _ vs [98,99,100,101,102,103,104,105,106,107,9]) w5;simp only[Zn,Act.put,List.setIfInBounds_toArray,List.set_cons_zero,List.set_cons_succ,ad,br]
    have T6:Hid (Tup S (((w5.setCell ⟨B,0,none⟩ (.int .i64 3)).setCell ⟨B,1,none⟩ (.int .i64 r)).setCell ⟨B,2,none⟩ (.slice none 0 0)) B O r (.slice none 0 0) []) :=
     ⟨((b5.setCell (p:=⟨B,0,none⟩) hB _).setCell (p:=⟨B,1,none⟩) hB _).setCell (p:=⟨B,2,none⟩) hB _,hB,Blk.set3 W _ _ _,[],⟨Yz,Or.inl ⟨Yz,Yz⟩⟩,fun i x hx=>by simp at hx⟩
    have e0:=Qb W 0 _ Yz;have e1:=Qb W 1 _ Yz;have e2:=Qb W 2 _ Yz;have ef:∀ i,w5.frozen? ⟨B,i,none⟩=false:=fun i=>Qn W i;clear W hB b5 ad br v1;go_upto_region 22 with fail
    generalize (((w5.setCell ⟨B,0,none⟩ (.int .i64 3)).setCell ⟨B,1,none⟩ (.int .i64 r)).setCell ⟨B,2,none⟩ (.slice none 0 0))=w6 at T6 |-;clear e0 e1 e2 ef;have cy:Hid (f.length<=8):=D;go_wp2_with fail
    go_loopw [10] (fun u wr=>∃ k v l,u=.int .i64 (k:Nat)/\k<=f.length/\Tup S wr B O r v l/\l.length=k/\∀ (i:Nat) (x:Int),f[i]?=some x->i<k->s.at x=l[i]?) (fun u _=>f.length - (intOf u).toNat)
    case atStart=>exact⟨0,_,[],Yz,Xb _,T6.out,Yz,fun i x _ h=>by omega⟩
    case round =>
     obtain⟨k,v,l,rfl,T,hT,hl,A⟩:=hrel
     have I:Hid (Tup S wr B O r v l):=hT;have C:Hid (l.length=k):=hl;have aa:=Qa A;have S7:=Qa (m.out.below hT.bel);have co:=Qp q6 hT.bel;have bx:Hid (TRd wr (fun g=>¬ O g) (some ⟨gL,0,none⟩) s.L):=cl.out.below hT.bel;have c6:Hid (intsL.In wr QA f [.slice ag f.length ac]):=Ya HA.out hT.bel;have dp:Hid (S.heap.size<=wr.heap.size):=hT.bel.size;clear hT hl A T6;obtain⟨x0,x1,x2,x3,x4,x6,x7⟩:=S7.out.cells
     simp only at x0 x1 x2 x3 x4 x6 x7
     by_cases K:k<f.length
     ·have U:f[k]?=some f[k]:=Zg K;obtain⟨lg,lo,rfl,-,-,z0⟩:=ZK c6.out K
      have ex:f.getD k 0=f[k]:=by simp[List.getD,K]
      rw[ex] at z0
      generalize f[k]=y at U z0;have av:(k:Int)<f.length:=by omega
      have dh:(0:Int)<=k:=by omega
      have HF:=Qa (Qcn (s:=s) (l:=f) k l T C.out aa.out);have ar:=Qa (Qc1 (s:=s) U);clear ex;by_cases P:y<0
      ·have cq:decide (y<0)=true:=Xt P
       have E3:Hid (s.makes ⟨5,(i:Int),xb,xc,xk,xn,xr,f⟩=(1,[])):=by
        show _=_;have ha:s.at y=none:=by unfold JSt.at;rw[Xs P]
        rw[E2.out,HF.out,ar.out,ha];rfl
       have be:=Qa (m.out.bel.trans (I.out.bel.mono m.out.bel.size));clear E2 P U HF ar;generalize f.length=N at x7 av K T D;go_wp2_with fail
       go_quiet (fail)
       go_wp2
       go_ret2;rw[E3.out]
       exact QX.nil (Qg be.out _)
      obtain⟨j,rfl⟩:=Xc (show 0<=y by omega)
      have cq:decide ((j:Int)<0)=false:=Xu (by omega);by_cases bp:j<nl
      ·have aj:s.L[j]?=some (s.L[j]'(by rw[bb.out];exact bp)):=Zg _;generalize s.L[j]'(by rw[bb.out];exact bp)=u at aj;have a9:s.at (j:Int)=some u:=by unfold JSt.at;rw[Xr P];exact aj
       obtain⟨gY,ua,uc,eY,v0,v1,v2,v3,a6⟩:=bx.out j u aj
       cases eY
       have cu:Hid (∃ bc bh,wr.cell? ⟨gL,j*3+2,none⟩=some (.slice bc u.len bh)/\TIn S (fun g=>¬ O g) u bc/\u.ok):=by
        obtain⟨gZ,za,zc,eZ,dl,du,cv,dc,cx⟩:=cl.out j u aj
        cases eZ
        exact⟨za,zc,Qp cv I.out.bel,dc,cx⟩
       have b2:decide ((nl:Int)<=j)=false:=Xu (by omega);have ci:(j:Int)<nl:=by omega
       have bu:Hid (∀ (i:Nat) (x:Int),f[i]?=some x->i<k+1->s.at x=(l++[u])[i]?):=by
        intro i x hi di;by_cases e:i=k
        ·subst e;rw[U] at hi
         cases hi
         rw[XQ (by rw[C.out];omega),C.out,Nat.sub_self]
         exact a9
        ·rw[XP (by rw[C.out];omega)]
         exact aa.out i x hi (by omega)
       have ct:Hid (u.ok):=a6;clear P U a9 HF ar v3 a6 aa aj;obtain⟨ta,tc,ds,rfl,am,ah,t2⟩:=I.out.form
       have a4:=I.out.box;have cw:=Qa a4;have db:=Qa ah;have da:=Qa am;have c9:Hid (S.heap.size<=B):=I.out.hB;have ab:Hid (Below S.heap.size S wr):=I.out.bel;rw[C.out] at t2
       clear a4 ah am cw db da;have b0:Hid (f.length=f.length):=rfl;generalize bm:f.length=N at x7 av K T D;have cg:Hid (f.length=N):=bm;clear bm b0;go_wp2_with fail
       go_quiet (fail)
       have b8:Below wr.heap.size wr (wr.drewN nq):=Qg Zr nq;have bi:=Qp t2 b8;have bv:=Qp co b8;have cb:=Qp x7 b8;have ca:=Qp z0 b8;have bo:=Qp v0 b8;have b6:=Qp v1 b8;have cd:=Qp v2 b8;have V:=Qa b8;clear b8;go_upto_region 27 with fail
       refine QlV bi bv cb ca bo b6 cd av ci _ _ Yz (Xg (by kernel_rfl)) Yz Yz Yz Yz ?_;rintro bd vs w9 au ⟨G,ap,hG,b3⟩ b9;show wpList _ bd _ [_,_,_] (Zn _ vs [134,135,136,137,138,139,140,141,142,143,144,145,146,147]) w9;simp only[Zn,Act.put,List.setIfInBounds_toArray,List.set_cons_zero,List.set_cons_succ,au,ap]
       have aw:Below wr.heap.size wr w9:=V.out.trans (b9.mono V.out.size);obtain⟨dn,dm,a8,e9,o,Q,cs⟩:=(I.out.below aw).form
       cases e9
       have J:=(I.out.below aw).box;have M:=(I.out.below aw).bel;obtain⟨bc,bh,al,ck,-⟩:=cu.out
       rw[v2] at al
       cases al
       have PU:Hid (∀ g ay F,F.ownsRow (B+1) 70 3 (.slice (some ⟨g,0,none⟩) (k+1) ay) (k+1) (a8++[.int .i64 u.kind,.int .i64 u.r,.slice ua u.len uc])->w9.grownBy F (Value.slice ta k tc).ownBlock ->
        F.cell? ⟨B,2,none⟩=some (.slice ta k tc)/\F.frozen? ⟨B,2,none⟩=false/\Tup S (F.setCell ⟨B,2,none⟩ (.slice (some ⟨g,0,none⟩) (k+1) ay)) B O r (.slice (some ⟨g,0,none⟩) (k+1) ay) (l++[u])):=by
        intro g ay F p1 p2;rw[<-C.out] at p1 p2 |-
        refine Tup.push M c9.out J Q o.1 ?_ ct.out ?_ p1 p2
        ·exact(ck.mono (O':=fun g=>¬ O g/\g<S.heap.size) (fun k T hl=>⟨T,hl⟩)).keep (fun k T _=>M.block k T.2) (fun _ T _=>T)
        ·intro k' az;obtain⟨-,q2⟩:=o
         rcases q2 with ⟨e,_⟩|⟨g',df,dk,e,dj,dq,q⟩
         ·rw[e] at az;simp[Value.ownBlock] at az
         ·rw[e] at az
          simp[Value.ownBlock] at az
          omega
       have a0:Hid (w9.ownsRow (B+1) 70 3 (.slice ta k tc) k a8):=by rw[C.out] at o;exact o
       have ak:Hid (∀ (j:Nat) (v:Value),[Value.int .i64 u.kind,.int .i64 u.r,.slice ua u.len uc][j]?=some v->w9.cell? ((⟨G,0,none⟩:Addr).add j)=some v):=by
        intro j v hv;rw[Go.WideShapes.add_plain,XK]
        exact Qb b3 j v (by simpa using hv)
       have ae:Hid (B+1<=w9.heap.size):=by show _<=_;have:=XC J;omega
       have cz:Hid (f.length - (k+1)<f.length - k):=by show _<_;rw[cg.out];omega
       obtain⟨i0,hi,c0,c7,c5⟩:=pInfoT
       clear o Q cs J M ck b3 hG b9 aw au ap t2 bi co bv x7 cb z0 ca v0 bo v1 b6 v2 cd I;go_wp2_with (at_builtin;refine wpList_append_lies _ Yz (.tmp 135) (.tmp 147) 33 Yz (B+1) 70 i0 (.agg #[.int .i64 0,.int .i64 0,.slice none 0 0]) 3 40 pUnderT hi c0 c7 c5 Yz (by decide) _ _ _ Yz a0.out ⟨G,0,none⟩ 1 1 [.int .i64 u.kind,.int .i64 u.r,.slice ua u.len uc] Yz Yz ak.out (Qfi _ _ _ _ _) (by decide) (by unfold maxLen;omega) (by omega) ae.out w9.heap.size Yz ?_)
       intro g2 cc F p1 p2 p3 p4;obtain⟨dt,dr,bk⟩:=PU.out g2 cc F p1 p2
       have ch:=Qa bk;clear p1 p2 p3 p4 bk PU a0 ak ae;go_wp2
       go_roundw
       case rel=>exact⟨k+1,_,l++[u],by go_num,by first | omega | (rw[cg.out];omega),ch.out,by rw[List.length_append,C.out];rfl,bu.out⟩
       case measure=>simp only[intOf];have:=cz.out;omega
      ·have E3:Hid (s.makes ⟨5,(i:Int),xb,xc,xk,xn,xr,f⟩=(1,[])):=by
        show _=_;have ha:s.at (j:Int)=none:=by unfold JSt.at;rw[Xr P,XT,Xk (by rw[bb.out];omega)]
        rw[E2.out,HF.out,ar.out,ha];rfl
       have be:=Qa (m.out.bel.trans (I.out.bel.mono m.out.bel.size));have b2:decide ((nl:Int)<=j)=true:=Xt (by omega);clear E2 P U HF ar;generalize f.length=N at x7 av K T D;go_wp2_with fail
       go_quiet (fail)
       go_wp2
       go_ret2;rw[E3.out]
       exact QX.nil (Qg be.out _)
     ·have c4:k=f.length:=by omega
      have hF:s.fields f=some l:=by
       rw[Qcn (s:=s) (l:=f) k l T C.out aa.out,List.drop_of_length_le (by omega),JSt.fields]
       simp
      obtain⟨bw,cr⟩:=Qax hF
      have a7:TT.count (n:=7) (mkT 3 r l)<=100000:=by
       have h1:=sum_le_mul (l.map TT.count) 4681 (fun c hc=>by
        obtain⟨z,hz,rfl⟩:=List.mem_map.1 hc
        exact Zz (m.out.ok.types z (cr z hz)))
       rw[XN] at h1
       show 1+(l.map TT.count).sum<=100000;have h2:l.length*4681<=8*4681:=Xp _ (by rw[bw];exact cy.out);omega
      have E3:Hid (s.makes ⟨5,(i:Int),xb,xc,xk,xn,xr,f⟩=if 4<TT.height (n:=7) (mkT 3 r l) then (19,[]) else (0,[TT.at (n:=7) 5 (mkT 3 r l)])):=by
       show _=_;rw[E2.out,hF]
      obtain⟨ta,tc,rfl,af,a5⟩:=I.out.tree m.out.lt
      have ai:=Qa af;have bl:=Qa a7;have cp:=Qa a5;have e0:=Qb I.out.box 0 _ Yz;have e1:=Qb I.out.box 1 _ Yz;have e2:=Qb I.out.box 2 _ Yz;have b4:¬ (k:Int)<f.length:=by omega
      have ab:Hid (Below w.heap.size w wr):=m.out.bel.trans (I.out.bel.mono m.out.bel.size);have b7:Hid (∀ k,O k->k<wr.heap.size):=S7.out.lt;clear E2 hF bw cr a7 af a5 aa I c4 C;generalize bj:l.length=ll at e2;have bq:Hid (l.length=ll):=bj
      have DC:Hid (Calls prog 120 #[.agg #[.int .i64 3,.int .i64 r,.slice ta ll tc],.int .i64 4] wr fun e w'=>e=.returned (.int .i64 ((min (TT.height (n:=7) (mkT 3 r l)) 5:Nat):Int))/\Below wr.heap.size wr w'):=by
       have:=deepOf_any 7 (mkT 3 r l) ta tc wr 4 ai.out.all bl.out (by decide)
       have e9:Tv (mkT 3 r l:TT 7) ta tc=.agg #[.int .i64 3,.int .i64 r,.slice ta ll tc]:=by rw[<-bq.out];rfl
       rw[e9] at this
       exact this
      clear bj;generalize f.length=N at x7 K b4 T D;go_wp2_with fail
      refine(DC.out).mono ?_
      rintro e w8 ⟨rfl,H⟩;have V:Hid (Below w.heap.size w w8):=ab.out.trans (H.mono ab.out.size);have f0:=Qp e0 H;have f1:=Qp e1 H;have f2:=Qp e2 H;by_cases ax:4<TT.height (n:=7) (mkT 3 r l)
      ·have E4:Hid (s.makes ⟨5,(i:Int),xb,xc,xk,xn,xr,f⟩=(19,[])):=by show _=_;rw[E3.out,Xs ax]
       have an:decide ((4:Int)<((min (TT.height (n:=7) (mkT 3 r l)) 5:Nat):Int))=true:=Xt (by omega);clear E3 ax DC H e0 e1 e2;generalize ((min (TT.height (n:=7) (mkT 3 r l)) 5:Nat):Int)=hv at an |-;go_wp2
       go_ret2;rw[E4.out]
       exact QX.nil V.out
      ·have E4:Hid (s.makes ⟨5,(i:Int),xb,xc,xk,xn,xr,f⟩=(0,[TT.at (n:=7) 5 (mkT 3 r l)])):=by show _=_;rw[E3.out,Xr ax]
       have an:decide ((4:Int)<((min (TT.height (n:=7) (mkT 3 r l)) 5:Nat):Int))=false:=Xu (by omega)
       have Z:Hid (QX w O 0 [TT.at (n:=7) 5 (mkT 3 r l)] (.returned (.tuple #[.slice (some ⟨w8.heap.size,0,none⟩) 1 1,.int .i64 0])) (w8.alloc (.cells #[.int .i64 3,.int .i64 r,.slice ta ll tc] 70))):=by
        refine⟨_,1,1,Yz,fun _=>⟨Yz,Ze,?_⟩,V.out.alloc V.out.size _⟩
        have bs:TT.height (n:=7) (mkT 3 r l)<=5:=by omega
        have:=Qdw w8 O (fun k T=>Zl (b7.out k T) H.size) (t:=TT.at (n:=7) 5 (mkT 3 r l)) (a:=ta) (c:=tc) (d:=1) ((ai.out.below H).at 5 bs) (TT.at_ok 5 ⟨cf.out,cp.out⟩)
        rw[<-bq.out]
        rw[TT.at_kind,TT.at_r,TT.at_len 5 _ bs] at this
        exact this
       clear E3 ax DC H e0 e1 e2;generalize ((min (TT.height (n:=7) (mkT 3 r l)) 5:Nat):Int)=hv at an |-;go_wp2
       go_ret2;rw[E4.out]
       exact Z.out
   ·have c8:(s.want xa 2 true==0)=false:=beq_eq_false_iff_ne.2 hw
    have E2:Hid (s.makes ⟨5,xa,xb,xc,xk,xn,xr,f⟩=(s.want xa 2 true,[])):=by
     show _=_;rw[E.out];simp only[A,if_neg hw]
    have HW:=Qa hw;clear E A hw;generalize s.want xa 2 true=c at E2 c8 HW |-;go_wp2
    go_ret2;rw[E2.out]
    exact QX.nil m.out.bel
end Go.Proofs.YtlnkdhnibcenbaeGreat
