import Derived.Test.YtofjjohefamljafGreatP4
set_option maxHeartbeats 16000000
set_option maxRecDepth 100000
namespace Go.Proofs.YtofjjohefamljafGreat
open Go.ChangeShapes Go.WideShapes Go.ChangeAt Go.RowKit _root_.Go.Proofs.Tryz
set_option linter.unusedSimpArgs false
set_option linter.unusedVariables false
variable {w w' w6 wr wc w1:World}{n c b B g m k i j X cm rc ac rl al fi N bh q R bi cap most lo id d f x ci na ca o lm G pages:Nat}{O O' Q2 OO:Nat→Prop}{a p ra aa pm pi pa:Option Addr}{v u v0:Value}{t bt e:TypeId}{xa xb xc xk xn words fu pg:Int}{Q:Exit→Act→World→Prop}{P:Program}{l:List Oper}{bs:List Bool}{cs xs:List Value}{inp:List Int}{x0:Operand}
theorem XA:type_of% @wp_ret:=@wp_ret
theorem XW:type_of% @wp_seq_k:=@wp_seq_k
theorem Qc3 (x:MTo) (u y:Option Addr) (A s:Nat) (w:World) (h:QdZ w All x u A y s) (b1:x.regs.length<=4294967296) (b2:x.args.length<=4294967296) :
 Calls prog 176 #[.agg #[.int .i64 x.block,.slice u x.regs.length A,.slice y x.args.length s]] w fun e w'=>∃ p c p2 c2,e=.returned (.agg #[.int .i64 x.block,.slice p x.regs.length c,.slice p2 x.args.length c2])/\QdZ w' (Qaq w.heap.size) x p c p2 c2/\Below w.heap.size w w':=by
 have S:Hid _:=h.regs;have hg:Hid _:=h.args;have aa:=h.bnd;clear h;refine Qv (n:=12) func176 Z Z Z <| fun a hF=>?_
 have g:=Ye w;replace hF:Fr 12 a [(0,.agg #[.int .i64 x.block,.slice u x.regs.length A,.slice y x.args.length s])]:=hF;refine XW fun K1 af=>rg hF fun Q=>sB g Y Z Z <| fun w2 l ab hN=>QmE ab Y Z <| fun E R o hN=>Yb fun a4 H=>af _ _ <| XW fun K5 ae=>?_
 have J:Fr 12 a4 [(0,.agg #[.int .i64 x.block,.slice u x.regs.length A,.slice y x.args.length s]),(1,.pointer (some ⟨l,0,none⟩)),(2,.pointer (some ⟨R,0,none⟩))]:=(H.keep (H.keep (H.keep H.nil (t:=2) Z) (t:=1) Z) (t:=0) Z);have ag:a4.tmps.getD 1 undef=.pointer (some ⟨l,0,none⟩):=H.sl 1 _ Z;refine Qa0 7 ([(1,fun v _=>v=.pointer (some ⟨l,0,none⟩)),(3,fun v _=>v=.pointer (some ⟨l,1,none⟩)),(4,fun v _=>v=.slice u x.regs.length A),(5,fun v w'=>∃ p c,v=.slice p x.regs.length c/\intsL.In w' (Qaq E.heap.size) x.regs [.slice p x.regs.length c]),(6,fun v _=>v=.pointer (some ⟨l,2,none⟩)),(7,fun v _=>v=.slice y x.args.length s),(8,fun v w'=>∃ p c,v=.slice p x.args.length c/\intsL.In w' (Qaq E.heap.size) x.args [.slice p x.args.length c]),(9,fun v _=>v=.pointer (some ⟨l,1,none⟩))]:Qcf) (fun w'=>Wd w w' [(R,#[.int .i64 0,.slice none 0 0,.slice none 0 0],69),(l,#[.int .i64 x.block,.slice u x.regs.length A,.slice y x.args.length s],69)]/\Below E.heap.size E w') (fun w w'=>Below w.heap.size w w') (outs:=[1]) (gs:=[]) (bs:=[true,true,true,true,true,true,true]) (by kernel_rfl) J Z (by kernel_rfl) (by kernel_rfl) ?hR ?hG ⟨o.drewN 1,ZR (m:=1) Zr⟩ ⟨ag,Y⟩ ?hA ?hend
 case hR=>exact⟨fun _ _ _ _ h=>h,fun _ _ _ _ h=>h,fun _ _ _ _ h=>h,fun v w w' S h=>by obtain⟨p,c,h1,h2⟩:=h;exact⟨p,c,h1,Ya h2 S⟩,fun _ _ _ _ h=>h,fun _ _ _ _ h=>h,fun v w w' S h=>by obtain⟨p,c,h1,h2⟩:=h;exact⟨p,c,h1,Ya h2 S⟩,fun _ _ _ _ h=>h,Y⟩
 case hG=>exact Y
 case hA =>
  iterate 2
   refine⟨fun a w g i K B=>?_,?_⟩
   ·obtain⟨r,-⟩:=i
    conv at r=>whnf;rhs;whnf
    have u0:w.cell? ⟨l,1,none⟩=some (.slice u x.regs.length A):=Qa (g.1.get 1 Z) 1 _ Z;go_simp;exact B _ _ Zr g Z
  refine⟨fun a w g i K B=>?_,?_⟩
  ·obtain⟨r,-⟩:=i
   conv at r=>whnf;rhs;whnf
   go_simp;refine(ZX _ _ _ w (Ya S.out g.1.bel) b1).mono ?_
   rintro e w9 ⟨p9,c9,rfl,h9,F⟩;exact B _ _ F ⟨g.1.below F,Xl g.2 F⟩ ⟨p9,c9,Z,Yc h9 (fun k i _=>Zt g.2.size i)⟩
  iterate 2
   refine⟨fun a w g i K B=>?_,?_⟩
   ·obtain⟨r,-⟩:=i
    conv at r=>whnf;rhs;whnf
    have u0:w.cell? ⟨l,2,none⟩=some (.slice y x.args.length s):=Qa (g.1.get 1 Z) 2 _ Z;go_simp;exact B _ _ Zr g Z
  refine⟨fun a w g i K B=>?_,?_⟩
  ·obtain⟨r,-⟩:=i
   conv at r=>whnf;rhs;whnf
   go_simp;refine(ZX _ _ _ w (Ya hg.out g.1.bel) b2).mono ?_
   rintro e w9 ⟨p9,c9,rfl,h9,F⟩;exact B _ _ F ⟨g.1.below F,Xl g.2 F⟩ ⟨p9,c9,Z,Yc h9 (fun k i _=>Zt g.2.size i)⟩
  refine⟨fun a w g i K B=>?_,?_⟩
  ·obtain⟨r,-⟩:=i
   conv at r=>whnf;rhs;whnf
   go_simp;exact B _ _ Zr g Z
  trivial
 case hend =>
  intro Q a7 w7 P hE X;obtain⟨U,I,q,b⟩:=hE 5 Z
  replace q:a7.tmps.getD 5 undef=.slice U x.regs.length I:=q;obtain⟨L,W,z,f⟩:=hE 8 Z
  replace z:a7.tmps.getD 8 undef=.slice L x.args.length W:=z;have V:a7.tmps.getD 9 undef=.pointer (some ⟨l,1,none⟩):=hE 9 Z;have ad:Fr 12 a7 [(9,.pointer (some ⟨l,1,none⟩)),(8,.slice L x.args.length W),(5,.slice U x.regs.length I),(0,.agg #[.int .i64 x.block,.slice u x.regs.length A,.slice y x.args.length s]),(1,.pointer (some ⟨l,0,none⟩)),(2,.pointer (some ⟨R,0,none⟩))]:=(((X.cons q).cons z).cons V);clear q z V;have M:Wd w w7 [(R,#[.int .i64 0,.slice none 0 0,.slice none 0 0],69),(l,#[.int .i64 x.block,.slice u x.regs.length A,.slice y x.args.length s],69)]:=P.1;have D:R<E.heap.size:=(o.get 0 Z).lt;have j:l<E.heap.size:=(o.get 1 Z).lt;have O:w.heap.size<=E.heap.size:=o.bel.size;clear X P hE J H;clear o;refine St.go ad <| s1k 1 inf1Ints M Z Z Z Z Z Z <| fun w8 d T=>?_
  replace b:=Yd b d j;replace f:=Yd f d j;clear d M;refine sfTo2 Y Z Z <| s1k 1 inf1Ints T Z Z Z Z Z Z <| fun w9 d G=>?_
  replace b:=Yd b d j;replace f:=Yd f d j;clear d T;refine Yb fun aj ac=>ae _ _ <| XW fun al N=>rg ac fun Q=>sS 1 3 underlying69 Z infTo G Y Z Z Z Z <| sTk 0 G Z Z infTo Z Z Z <| fun ak d C=>?_
  replace b:=Yd b d D;replace f:=Yd f d D;clear d G;refine Yb fun ai ah=>N _ _ ?_;refine XA ?_;with_reducible repeat first | refine Qg ?_ | refine Qd ?_
  exact QJ 0 ah C Z Z Z underlying69 Z infTo ⟨_,_,_,_,Z,⟨Yc b (fun k i _=>Zt O i),Yc f (fun k i _=>Zt O i),aa⟩,C.bel⟩
theorem Qfk (x:Qz) (i:IP) (w:World) (h:IIn w All x i) (b1:x.regs.length<=4294967296) (b2:x.args.length<=4294967296) :
 Calls prog 147 #[.agg #[.int .i64 x.op,.int .i64 x.a,.int .i64 x.b,.int .i64 x.c,.int .i64 x.k,.int .i64 x.n,.slice i.pR x.regs.length i.cR,.slice i.pA x.args.length i.cA]] w fun e w'=>∃ i':IP,e=.returned (.agg #[.int .i64 x.op,.int .i64 x.a,.int .i64 x.b,.int .i64 x.c,.int .i64 x.k,.int .i64 x.n,.slice i'.pR x.regs.length i'.cR,.slice i'.pA x.args.length i'.cA])/\IIn w' (Qaq w.heap.size) x i'/\Below w.heap.size w w':=by
 have S:Hid _:=h.regs;have hg:Hid _:=h.args;have aa:=h.bnd;clear h;refine Qv (n:=12) func147 Z Z Z <| fun a hF=>?_
 have j:=Ye w;replace hF:Fr 12 a [(0,.agg #[.int .i64 x.op,.int .i64 x.a,.int .i64 x.b,.int .i64 x.c,.int .i64 x.k,.int .i64 x.n,.slice i.pR x.regs.length i.cR,.slice i.pA x.args.length i.cA])]:=hF;refine XW fun K1 af=>rg hF fun Q=>sB j Y Z Z <| fun w2 o ab hN=>Qj0 ab Y Z <| fun E R r hN=>Yb fun a4 J=>af _ _ <| XW fun K5 ae=>?_
 have L:Fr 12 a4 [(0,.agg #[.int .i64 x.op,.int .i64 x.a,.int .i64 x.b,.int .i64 x.c,.int .i64 x.k,.int .i64 x.n,.slice i.pR x.regs.length i.cR,.slice i.pA x.args.length i.cA]),(1,.pointer (some ⟨o,0,none⟩)),(2,.pointer (some ⟨R,0,none⟩))]:=(J.keep (J.keep (J.keep J.nil (t:=2) Z) (t:=1) Z) (t:=0) Z);have ag:a4.tmps.getD 1 undef=.pointer (some ⟨o,0,none⟩):=J.sl 1 _ Z;refine Qa0 7 ([(1,fun v _=>v=.pointer (some ⟨o,0,none⟩)),(3,fun v _=>v=.pointer (some ⟨o,6,none⟩)),(4,fun v _=>v=.slice i.pR x.regs.length i.cR),(5,fun v w'=>∃ p c,v=.slice p x.regs.length c/\intsL.In w' (Qaq E.heap.size) x.regs [.slice p x.regs.length c]),(6,fun v _=>v=.pointer (some ⟨o,7,none⟩)),(7,fun v _=>v=.slice i.pA x.args.length i.cA),(8,fun v w'=>∃ p c,v=.slice p x.args.length c/\intsL.In w' (Qaq E.heap.size) x.args [.slice p x.args.length c]),(9,fun v _=>v=.pointer (some ⟨o,6,none⟩))]:Qcf) (fun w'=>Wd w w' [(R,#[.int .i64 0,.int .i64 0,.int .i64 0,.int .i64 0,.int .i64 0,.int .i64 0,.slice none 0 0,.slice none 0 0],65),(o,#[.int .i64 x.op,.int .i64 x.a,.int .i64 x.b,.int .i64 x.c,.int .i64 x.k,.int .i64 x.n,.slice i.pR x.regs.length i.cR,.slice i.pA x.args.length i.cA],65)]/\Below E.heap.size E w') (fun w w'=>Below w.heap.size w w') (outs:=[1]) (gs:=[]) (bs:=[true,true,true,true,true,true,true]) (by kernel_rfl) L Z (by kernel_rfl) (by kernel_rfl) ?hR ?hG ⟨r.drewN 1,ZR (m:=1) Zr⟩ ⟨ag,Y⟩ ?hA ?hend
 case hR=>exact⟨fun _ _ _ _ h=>h,fun _ _ _ _ h=>h,fun _ _ _ _ h=>h,fun v w w' S h=>by obtain⟨p,c,h1,h2⟩:=h;exact⟨p,c,h1,Ya h2 S⟩,fun _ _ _ _ h=>h,fun _ _ _ _ h=>h,fun v w w' S h=>by obtain⟨p,c,h1,h2⟩:=h;exact⟨p,c,h1,Ya h2 S⟩,fun _ _ _ _ h=>h,Y⟩
 case hG=>exact Y
 case hA =>
  iterate 2
   refine⟨fun a w j l K z=>?_,?_⟩
   ·obtain⟨u,-⟩:=l
    conv at u=>whnf;rhs;whnf
    have u0:w.cell? ⟨o,6,none⟩=some (.slice i.pR x.regs.length i.cR):=Qa (j.1.get 1 Z) 6 _ Z;go_simp;exact z _ _ Zr j Z
  refine⟨fun a w j l K z=>?_,?_⟩
  ·obtain⟨u,-⟩:=l
   conv at u=>whnf;rhs;whnf
   go_simp;refine(ZX _ _ _ w (Ya S.out j.1.bel) b1).mono ?_
   rintro e w9 ⟨p9,c9,rfl,h9,F⟩;exact z _ _ F ⟨j.1.below F,Xl j.2 F⟩ ⟨p9,c9,Z,Yc h9 (fun k l _=>Zt j.2.size l)⟩
  iterate 2
   refine⟨fun a w j l K z=>?_,?_⟩
   ·obtain⟨u,-⟩:=l
    conv at u=>whnf;rhs;whnf
    have u0:w.cell? ⟨o,7,none⟩=some (.slice i.pA x.args.length i.cA):=Qa (j.1.get 1 Z) 7 _ Z;go_simp;exact z _ _ Zr j Z
  refine⟨fun a w j l K z=>?_,?_⟩
  ·obtain⟨u,-⟩:=l
   conv at u=>whnf;rhs;whnf
   go_simp;refine(ZX _ _ _ w (Ya hg.out j.1.bel) b2).mono ?_
   rintro e w9 ⟨p9,c9,rfl,h9,F⟩;exact z _ _ F ⟨j.1.below F,Xl j.2 F⟩ ⟨p9,c9,Z,Yc h9 (fun k l _=>Zt j.2.size l)⟩
  refine⟨fun a w j l K z=>?_,?_⟩
  ·obtain⟨u,-⟩:=l
   conv at u=>whnf;rhs;whnf
   go_simp;exact z _ _ Zr j Z
  trivial
 case hend =>
  intro Q X w7 P W V;obtain⟨H,C,s,d⟩:=W 5 Z
  replace s:X.tmps.getD 5 undef=.slice H x.regs.length C:=s;obtain⟨D,I,y,g⟩:=W 8 Z
  replace y:X.tmps.getD 8 undef=.slice D x.args.length I:=y;have U:X.tmps.getD 9 undef=.pointer (some ⟨o,6,none⟩):=W 9 Z;have ad:Fr 12 X [(9,.pointer (some ⟨o,6,none⟩)),(8,.slice D x.args.length I),(5,.slice H x.regs.length C),(0,.agg #[.int .i64 x.op,.int .i64 x.a,.int .i64 x.b,.int .i64 x.c,.int .i64 x.k,.int .i64 x.n,.slice i.pR x.regs.length i.cR,.slice i.pA x.args.length i.cA]),(1,.pointer (some ⟨o,0,none⟩)),(2,.pointer (some ⟨R,0,none⟩))]:=(((V.cons s).cons y).cons U);clear s y U;have M:Wd w w7 [(R,#[.int .i64 0,.int .i64 0,.int .i64 0,.int .i64 0,.int .i64 0,.int .i64 0,.slice none 0 0,.slice none 0 0],65),(o,#[.int .i64 x.op,.int .i64 x.a,.int .i64 x.b,.int .i64 x.c,.int .i64 x.k,.int .i64 x.n,.slice i.pR x.regs.length i.cR,.slice i.pA x.args.length i.cA],65)]:=P.1;have B:R<E.heap.size:=(r.get 0 Z).lt;have q:o<E.heap.size:=(r.get 1 Z).lt;have O:w.heap.size<=E.heap.size:=r.bel.size;clear V P W L J;clear r;refine St.go ad <| s1k 1 inf1Ints M Z Z Z Z Z Z <| fun w8 f T=>?_
  replace d:=Yd d f q;replace g:=Yd g f q;clear f M;refine sfIns7 Y Z Z <| s1k 1 inf1Ints T Z Z Z Z Z Z <| fun w9 f G=>?_
  replace d:=Yd d f q;replace g:=Yd g f q;clear f T;refine Yb fun aj ac=>ae _ _ <| XW fun al N=>rg ac fun Q=>sS 1 8 underlying65 Z infIns G Y Z Z Z Z <| sTk 0 G Z Z infIns Z Z Z <| fun ak f A=>?_
  replace d:=Yd d f B;replace g:=Yd g f B;clear f G;refine Yb fun ai ah=>N _ _ ?_;refine XA ?_;with_reducible repeat first | refine Qg ?_ | refine Qd ?_
  exact QJ 0 ah A Z Z Z underlying65 Z infIns ⟨⟨H,C,D,I⟩,Z,⟨Yc d (fun k l _=>Zt O l),Yc g (fun k l _=>Zt O l),aa⟩,A.bel⟩
theorem QeX (x:Qax) (i:EP) (w:World) (h:EIn w All x i) (b1:x.yes.regs.length<=4294967296) (b2:x.yes.args.length<=4294967296) (b3:x.no.regs.length<=4294967296) (b4:x.no.args.length<=4294967296) (b5:x.args.length<=4294967296) :
 Calls prog 148 #[.agg #[.int .i64 x.op,.int .i64 x.a,.int .i64 x.yes.block,.slice i.pYR x.yes.regs.length i.cYR,.slice i.pYA x.yes.args.length i.cYA,.int .i64 x.no.block,.slice i.pNR x.no.regs.length i.cNR,.slice i.pNA x.no.args.length i.cNA,.slice i.pA x.args.length i.cA]] w fun e w'=>∃ i':EP,e=.returned (.agg #[.int .i64 x.op,.int .i64 x.a,.int .i64 x.yes.block,.slice i'.pYR x.yes.regs.length i'.cYR,.slice i'.pYA x.yes.args.length i'.cYA,.int .i64 x.no.block,.slice i'.pNR x.no.regs.length i'.cNR,.slice i'.pNA x.no.args.length i'.cNA,.slice i'.pA x.args.length i'.cA])/\EIn w' (Qaq w.heap.size) x i'/\Below w.heap.size w w':=by
 have hy:Hid _:=h.yes;have hn:Hid _:=h.no;have hg:Hid _:=h.args;have aq:=h.bnd;clear h;refine Qv (n:=16) func148 Z Z Z <| fun a hF=>?_
 have g:=Ye w;replace hF:Fr 16 a [(0,.agg #[.int .i64 x.op,.int .i64 x.a,.int .i64 x.yes.block,.slice i.pYR x.yes.regs.length i.cYR,.slice i.pYA x.yes.args.length i.cYA,.int .i64 x.no.block,.slice i.pNR x.no.regs.length i.cNR,.slice i.pNA x.no.args.length i.cNA,.slice i.pA x.args.length i.cA])]:=hF;refine XW fun K1 ak=>rg hF fun ag=>sB g Y Z Z <| fun w2 s am hN=>Qlx am Y Z <| fun w3 B3 F hN=>Yb fun a4 h4=>ak _ _ <| XW fun K5 aj=>?_
 have af:Fr 16 a4 [(0,.agg #[.int .i64 x.op,.int .i64 x.a,.int .i64 x.yes.block,.slice i.pYR x.yes.regs.length i.cYR,.slice i.pYA x.yes.args.length i.cYA,.int .i64 x.no.block,.slice i.pNR x.no.regs.length i.cNR,.slice i.pNA x.no.args.length i.cNA,.slice i.pA x.args.length i.cA]),(1,.pointer (some ⟨s,0,none⟩)),(2,.pointer (some ⟨B3,0,none⟩))]:=(h4.keep (h4.keep (h4.keep h4.nil (t:=2) Z) (t:=1) Z) (t:=0) Z);have ar:a4.tmps.getD 1 undef=.pointer (some ⟨s,0,none⟩):=h4.sl 1 _ Z;refine Qa0 10 ([(1,fun v _=>v=.pointer (some ⟨s,0,none⟩)),(3,fun v _=>v=.pointer (some ⟨s,2,none⟩)),(4,fun v _=>v=.agg #[.int .i64 x.yes.block,.slice i.pYR x.yes.regs.length i.cYR,.slice i.pYA x.yes.args.length i.cYA]),(5,fun v w'=>∃ p c U R,v=.agg #[.int .i64 x.yes.block,.slice p x.yes.regs.length c,.slice U x.yes.args.length R]/\QdZ w' (Qaq w3.heap.size) x.yes p c U R),(6,fun v _=>v=.pointer (some ⟨s,5,none⟩)),(7,fun v _=>v=.agg #[.int .i64 x.no.block,.slice i.pNR x.no.regs.length i.cNR,.slice i.pNA x.no.args.length i.cNA]),(8,fun v w'=>∃ p c U R,v=.agg #[.int .i64 x.no.block,.slice p x.no.regs.length c,.slice U x.no.args.length R]/\QdZ w' (Qaq w3.heap.size) x.no p c U R),(9,fun v _=>v=.pointer (some ⟨s,8,none⟩)),(10,fun v _=>v=.slice i.pA x.args.length i.cA),(11,fun v w'=>∃ p c,v=.slice p x.args.length c/\intsL.In w' (Qaq w3.heap.size) x.args [.slice p x.args.length c]),(12,fun v _=>v=.pointer (some ⟨s,2,none⟩))]:Qcf) (fun w'=>Wd w w' [(B3,#[.int .i64 0,.int .i64 0,.int .i64 0,.slice none 0 0,.slice none 0 0,.int .i64 0,.slice none 0 0,.slice none 0 0,.slice none 0 0],71),(s,#[.int .i64 x.op,.int .i64 x.a,.int .i64 x.yes.block,.slice i.pYR x.yes.regs.length i.cYR,.slice i.pYA x.yes.args.length i.cYA,.int .i64 x.no.block,.slice i.pNR x.no.regs.length i.cNR,.slice i.pNA x.no.args.length i.cNA,.slice i.pA x.args.length i.cA],71)]/\Below w3.heap.size w3 w') (fun w w'=>Below w.heap.size w w') (outs:=[1]) (gs:=[]) (bs:=[true,true,true,true,true,true,true,true,true,true]) (by kernel_rfl) af Z (by kernel_rfl) (by kernel_rfl) ?hR ?hG ⟨F.drewN 1,ZR (m:=1) Zr⟩ ⟨ar,Y⟩ ?hA ?hend
 case hR=>exact⟨fun _ _ _ _ h=>h,fun _ _ _ _ h=>h,fun _ _ _ _ h=>h,fun v w w' hr h=>by obtain⟨p,c,U,R,h1,T⟩:=h;exact⟨p,c,U,R,h1,⟨Ya T.regs hr,Ya T.args hr,T.bnd⟩⟩,fun _ _ _ _ h=>h,fun _ _ _ _ h=>h,fun v w w' hr h=>by obtain⟨p,c,U,R,h1,T⟩:=h;exact⟨p,c,U,R,h1,⟨Ya T.regs hr,Ya T.args hr,T.bnd⟩⟩,fun _ _ _ _ h=>h,fun _ _ _ _ h=>h,fun v w w' hr h=>by obtain⟨p,c,h1,T⟩:=h;exact⟨p,c,h1,Ya T hr⟩,fun _ _ _ _ h=>h,Y⟩
 case hG=>exact Y
 case hA =>
  iterate 2
   refine⟨fun a w g j K A=>?_,?_⟩
   ·obtain⟨z,-⟩:=j
    conv at z=>whnf;rhs;whnf
    have u0:w.cell? ⟨s,2,none⟩=some (.int .i64 x.yes.block):=Qa (g.1.get 1 Z) 2 _ Z;have u1:w.cell? ⟨s,3,none⟩=some (.slice i.pYR x.yes.regs.length i.cYR):=Qa (g.1.get 1 Z) 3 _ Z;have u2:w.cell? ⟨s,4,none⟩=some (.slice i.pYA x.yes.args.length i.cYA):=Qa (g.1.get 1 Z) 4 _ Z;go_simp;exact A _ _ Zr g Z
  refine⟨fun a w g j K A=>?_,?_⟩
  ·obtain⟨z,-⟩:=j
   conv at z=>whnf;rhs;whnf
   go_simp;refine(Qc3 _ _ _ _ _ w ⟨Ya hy.out.regs g.1.bel,Ya hy.out.args g.1.bel,hy.out.bnd⟩ b1 b2).mono ?_
   rintro e w9 ⟨p9,c9,p8,c8,rfl,Q,C⟩;exact A _ _ C ⟨g.1.below C,Xl g.2 C⟩ ⟨p9,c9,p8,c8,Z,⟨Yc Q.regs (fun k j _=>Zt g.2.size j),Yc Q.args (fun k j _=>Zt g.2.size j),Q.bnd⟩⟩
  iterate 2
   refine⟨fun a w g j K A=>?_,?_⟩
   ·obtain⟨z,-⟩:=j
    conv at z=>whnf;rhs;whnf
    have u0:w.cell? ⟨s,5,none⟩=some (.int .i64 x.no.block):=Qa (g.1.get 1 Z) 5 _ Z;have u1:w.cell? ⟨s,6,none⟩=some (.slice i.pNR x.no.regs.length i.cNR):=Qa (g.1.get 1 Z) 6 _ Z;have u2:w.cell? ⟨s,7,none⟩=some (.slice i.pNA x.no.args.length i.cNA):=Qa (g.1.get 1 Z) 7 _ Z;go_simp;exact A _ _ Zr g Z
  refine⟨fun a w g j K A=>?_,?_⟩
  ·obtain⟨z,-⟩:=j
   conv at z=>whnf;rhs;whnf
   go_simp;refine(Qc3 _ _ _ _ _ w ⟨Ya hn.out.regs g.1.bel,Ya hn.out.args g.1.bel,hn.out.bnd⟩ b3 b4).mono ?_
   rintro e w9 ⟨p9,c9,p8,c8,rfl,Q,C⟩;exact A _ _ C ⟨g.1.below C,Xl g.2 C⟩ ⟨p9,c9,p8,c8,Z,⟨Yc Q.regs (fun k j _=>Zt g.2.size j),Yc Q.args (fun k j _=>Zt g.2.size j),Q.bnd⟩⟩
  iterate 2
   refine⟨fun a w g j K A=>?_,?_⟩
   ·obtain⟨z,-⟩:=j
    conv at z=>whnf;rhs;whnf
    have u0:w.cell? ⟨s,8,none⟩=some (.slice i.pA x.args.length i.cA):=Qa (g.1.get 1 Z) 8 _ Z;go_simp;exact A _ _ Zr g Z
  refine⟨fun a w g j K A=>?_,?_⟩
  ·obtain⟨z,-⟩:=j
   conv at z=>whnf;rhs;whnf
   go_simp;refine(ZX _ _ _ w (Ya hg.out g.1.bel) b5).mono ?_
   rintro e w9 ⟨p9,c9,rfl,Q,C⟩;exact A _ _ C ⟨g.1.below C,Xl g.2 C⟩ ⟨p9,c9,Z,Yc Q (fun k j _=>Zt g.2.size j)⟩
  refine⟨fun a w g j K A=>?_,?_⟩
  ·obtain⟨z,-⟩:=j
   conv at z=>whnf;rhs;whnf
   go_simp;exact A _ _ Zr g Z
  trivial
 case hend =>
  intro ag a7 w7 ab hE ah;obtain⟨G,N,E,L,V,⟨l,r,al⟩⟩:=hE 5 Z
  replace V:a7.tmps.getD 5 undef=.agg #[.int .i64 x.yes.block,.slice G x.yes.regs.length N,.slice E x.yes.args.length L]:=V;obtain⟨J,P,B,M,S,⟨q,o,ao⟩⟩:=hE 8 Z
  replace S:a7.tmps.getD 8 undef=.agg #[.int .i64 x.no.block,.slice J x.no.regs.length P,.slice B x.no.args.length M]:=S;obtain⟨H,I,y,f⟩:=hE 11 Z
  replace y:a7.tmps.getD 11 undef=.slice H x.args.length I:=y;have W:a7.tmps.getD 12 undef=.pointer (some ⟨s,2,none⟩):=hE 12 Z;have ai:Fr 16 a7 [(12,.pointer (some ⟨s,2,none⟩)),(11,.slice H x.args.length I),(8,.agg #[.int .i64 x.no.block,.slice J x.no.regs.length P,.slice B x.no.args.length M]),(5,.agg #[.int .i64 x.yes.block,.slice G x.yes.regs.length N,.slice E x.yes.args.length L]),(0,.agg #[.int .i64 x.op,.int .i64 x.a,.int .i64 x.yes.block,.slice i.pYR x.yes.regs.length i.cYR,.slice i.pYA x.yes.args.length i.cYA,.int .i64 x.no.block,.slice i.pNR x.no.regs.length i.cNR,.slice i.pNA x.no.args.length i.cNA,.slice i.pA x.args.length i.cA]),(1,.pointer (some ⟨s,0,none⟩)),(2,.pointer (some ⟨B3,0,none⟩))]:=((((ah.cons V).cons S).cons y).cons W);clear V S y W;have ae:Wd w w7 [(B3,#[.int .i64 0,.int .i64 0,.int .i64 0,.slice none 0 0,.slice none 0 0,.int .i64 0,.slice none 0 0,.slice none 0 0,.slice none 0 0],71),(s,#[.int .i64 x.op,.int .i64 x.a,.int .i64 x.yes.block,.slice i.pYR x.yes.regs.length i.cYR,.slice i.pYA x.yes.args.length i.cYA,.int .i64 x.no.block,.slice i.pNR x.no.regs.length i.cNR,.slice i.pNA x.no.args.length i.cNA,.slice i.pA x.args.length i.cA],71)]:=ab.1;have u:B3<w3.heap.size:=(F.get 0 Z).lt;have d:s<w3.heap.size:=(F.get 1 Z).lt;have O:w.heap.size<=w3.heap.size:=F.bel.size;clear ah ab hE af h4;clear F;refine St.go ai <| sTk 1 ae Z Z infTo Z Z Z <| fun w8 b ac=>?_
  replace f:=Yd f b d;replace l:=Yd l b d;replace r:=Yd r b d;replace q:=Yd q b d;replace o:=Yd o b d;clear b ae;refine sfEnd3 Y Z Z <| sTk 1 ac Z Z infTo Z Z Z <| fun w9 b ad=>?_
  replace f:=Yd f b d;replace l:=Yd l b d;replace r:=Yd r b d;replace q:=Yd q b d;replace o:=Yd o b d;clear b ac;refine sfEnd4 Y Z Z <| s1k 1 inf1Ints ad Z Z Z Z Z Z <| fun av b D=>?_
  replace f:=Yd f b d;replace l:=Yd l b d;replace r:=Yd r b d;replace q:=Yd q b d;replace o:=Yd o b d;clear b ad;refine Yb fun ax ap=>aj _ _ <| XW fun aw aa=>rg ap fun ag=>sS 1 9 underlying71 Z infEnd D Y Z Z Z Z <| sTk 0 D Z Z infEnd Z Z Z <| fun au b X=>?_
  replace f:=Yd f b u;replace l:=Yd l b u;replace r:=Yd r b u;replace q:=Yd q b u;replace o:=Yd o b u;clear b D;refine Yb fun ay an=>aa _ _ ?_;refine XA ?_;with_reducible repeat first | refine Qg ?_ | refine Qd ?_
  exact QJ 0 an X Z Z Z underlying71 Z infEnd ⟨⟨G,N,E,L,J,P,B,M,H,I⟩,Z,⟨⟨Yc l (fun k j _=>Zt O j),Yc r (fun k j _=>Zt O j),hy.out.bnd⟩,⟨Yc q (fun k j _=>Zt O j),Yc o (fun k j _=>Zt O j),hn.out.bnd⟩,Yc f (fun k j _=>Zt O j),aq⟩,X.bel⟩
abbrev FV:Value:=.func (.func 185) #[] #[]
theorem Qg0 (n:Nat) (G:Qdg 185 n) (l m:List (TT n)) (a b:Option Addr) (c d:Nat) (w:World) (D:LIn w All l a) (K:LIn w All m b) (aa:l.length<=100000) (u:∀ x∈l,x.count<=100000) :
 Calls prog 184 #[.slice a l.length c,.slice b m.length d,FV] w fun e w'=>Q4 e (l=m)/\Below w.heap.size w w':=by
 have IH:Hid (Qdg 185 n):=G;have hl:Hid (LIn w All l a):=D;have hm:Hid (LIn w All m b):=K;have X:Hid (∀ x∈l,x.count<=100000):=u;clear G D K u;by_cases s:l.length=m.length
 ·have H:((l.length:Int) != (m.length:Int))=false:=by simp;omega
  have E:Hid (l.length=m.length):=s;clear s;go_enter func184,ntmps184
  go_wp2_with fail
  go_loopw [17] (fun i wr=>∃ q:Nat,q<=l.length/\i=.int .i64 q/\(∀ j,j<q->l[j]?=m[j]?)/\Below w.heap.size w wr) (fun i _=>l.length - (intOf i).toNat)
  case atStart=>exact⟨0,Xb _,Z,fun j hj=>by omega,Zr⟩
  case round =>
   obtain⟨q,hq,rfl,v,I⟩:=hrel
   have A:Hid (∀ j,j<q->l[j]?=m[j]?):=v;have B:Hid (Below w.heap.size w wr):=I;clear v I;by_cases Q:q<l.length
   ·have z:l[q]?=some l[q]:=Zg Q;have W:q<m.length:=by have:=E.out;omega
    have N:m[q]?=some m[q]:=Zg W;generalize l[q]=x at z;generalize m[q]=y at N;obtain⟨g,o,S,T,rfl,_,V,d1,d2,hk⟩:=LIn.at (hl.out.below B.out) z
    obtain⟨g',o',O,d',rfl,_,P,d4,d5,J⟩:=LIn.at (hm.out.below B.out) N
    have C:Hid (∀ F,Below wr.heap.size wr F->Calls prog 185 #[Tv x S T,Tv y O d'] F fun e w'=>Q4 e (x=y)/\Below F.heap.size F w') :=
     fun F I=>IH.out x y S O T d' _ (hk.below I) (J.below I) (X.out x (Zm z))
    have t:Hid (l[q]?=some x):=z;have k:Hid (m[q]?=some y):=N;have hg:g<wr.heap.size:=Xi wr ⟨g,o+q*3,none⟩ V;have ad:g'<wr.heap.size:=Xi wr ⟨g',o'+q*3,none⟩ P;clear hk J z N;simp only[Tv] at C
    generalize x.kind=kx at C V;generalize x.r=rx at C d1;generalize x.len=lx at C d2;generalize y.kind=ky at C P;generalize y.r=ry at C d4;generalize y.len=ly at C d5;have ab:(0:Int)<=q:=by omega
    have U:(q:Int)<l.length:=by omega
    have ac:(q:Int)<m.length:=by omega
    go_wp2_with fail
    have M:Below wr.heap.size wr ((wr.alloc (.cells #[.int .i64 kx,.int .i64 rx,.slice S lx T] 92)).alloc (.cells #[.int .i64 ky,.int .i64 ry,.slice O ly d'] 92)):=((Below.refl _ wr).alloc Ze _).alloc (by simp) _;refine(C.out _ M).mono ?_
    rintro r w5 ⟨⟨p,rfl,L⟩,b5⟩;have HB:Hid (Below w.heap.size w w5):=(B.out.trans (M.mono B.out.size)).trans (b5.mono (Zt B.out.size M.size));clear C b5 B V d1 d2 P d4 d5 M
    cases p with
    | true =>
      have f:x=y:=L.1 Z
      have A2:Hid (∀ j,j<q+1->l[j]?=m[j]?):=fun j hj=>by
       by_cases e:j=q
       ·subst e;rw[t.out,k.out,f]
       ·exact A.out j (by omega)
      clear L f t k A;go_wp2
      go_roundw
      case rel=>exact⟨q+1,by omega,by go_num,A2.out,HB.out⟩
      case measure=>simp[intOf];omega
    | false =>
      have f:Hid (¬ l=m):=fun h=>by
       have h1:=t.out;rw[h,k.out] at h1
       have:=L.2 (Xn h1).symm
       cases this
      clear L t k A;go_wp2
      go_ret;exact⟨Q4.no f.out,HB.out⟩
   ·have R:Hid (l=m):=by
     have:=E.out
     refine List.ext_getElem? (fun i=>?_);by_cases hi:i<q
     ·exact A.out i hi
     ·rw[Xk (by omega),Xk (by omega)]
    have U:¬ (q:Int)<l.length:=by omega
    clear A;go_wp2
    go_ret;exact⟨Q4.yes R.out,B.out⟩
 ·have H:((l.length:Int) != (m.length:Int))=true:=by simp;omega
  have E:Hid (l.length≠m.length):=s;clear s;go_enter func184,ntmps184
  go_wp2
  go_ret;exact⟨Q4.no (fun h=>E.out (by rw[h])),Zr⟩
theorem same_any:∀ n,Qdg 185 n:=by
 intro n
 induction n with
 | zero=>intro t;exact Empty.elim t
 | succ n ih =>
   intro t u a b c d w z y K;have i:∀ x∈t.2.2,x.count<=100000:=fun x H=>by have:=t.count_kid H;omega
   have f:t.2.2.length<=100000:=by have:=t.len_lt_count;rw[t.len_eq] at this;omega
   have C:Hid (∀ g,Below w.heap.size w g->Calls prog 184 #[.slice a t.2.2.length c,.slice b u.2.2.length d,FV] g fun e L=>Q4 e (t.2.2=u.2.2)/\Below g.heap.size g L) :=
    fun g D=>Qg0 n ih t.2.2 u.2.2 a b c d g (z.below D) (y.below D) f i
   rw[TT.eq_iff]
   simp only[Tv,TT.len_eq] at C |-
   generalize t.2.2.length=p at C |-;generalize u.2.2.length=q at C |-;generalize (t.2.2=u.2.2)=E at C |-;generalize t.kind=k;generalize t.r=r;generalize u.kind=s;generalize u.r=o;clear i f K z y ih t u;by_cases j:k=s
   ·subst j;by_cases l:r=o
    ·subst l;go_enter func185,ntmps185
     go_wp2_with fail
     have m:Below w.heap.size w ((w.alloc (.cells #[.int .i64 k,.int .i64 r,.slice a p c] 92)).alloc (.cells #[.int .i64 k,.int .i64 r,.slice b q d] 92)):=((Below.refl _ w).alloc Ze _).alloc (by simp) _;refine(C.out _ m).mono ?_
     rintro e I ⟨⟨v,rfl,A⟩,F⟩;have B:Hid (Below w.heap.size w I):=m.trans (F.mono m.size);have V:Hid (v=true↔E):=A;clear F C A m
     cases v
     all_goals
      go_wp2
      go_ret
     ·exact⟨Q4.no (fun h=>by have:=V.out.2 h.2.2;cases this),B.out⟩
     ·exact⟨Q4.yes (by have:=V.out;simpa using this),B.out⟩
    ·have G:(r==o)=false:=by simpa using l
     have R:Hid (¬ r=o):=l;clear l;go_enter func185,ntmps185
     go_wp2_with fail
     go_ret;exact⟨Q4.no (fun h=>R.out h.2.1),((Below.refl _ w).alloc Ze _).alloc (by simp) _⟩
   ·have J:(k==s)=false:=by simpa using j
    have R:Hid (¬ k=s):=j;clear j;go_enter func185,ntmps185
    go_wp2_with fail
    go_ret;exact⟨Q4.no (fun h=>R.out h.1),((Below.refl _ w).alloc Ze _).alloc (by simp) _⟩
theorem Qgf {A B:Prop}(h:A↔B):bdec A=bdec B:=by rw[propext h]
theorem QjV {f:FuncId}{args:Array Value}{A:Prop}(h:Calls prog f args w fun e w'=>Q4 e A/\Below w.heap.size w w'):Rd prog f args w (.bool (bdec A)) :=
 h.mono fun e w' h=>by
  obtain⟨⟨q,rfl,a⟩,b⟩:=h
  exact⟨by rw[Qhs a],b⟩
theorem QeN {l m:List (TT n)}{q:Option Addr}(b:(QM n).In w All l [.slice p l.length c]) (e:(QM n).In w All m [.slice q m.length d]) (a:Qdk l):Rd prog 184 #[.slice p l.length c,.slice q m.length d,.func (.func 185) #[] #[]] w (.bool (bdec (l=m))) :=
 QjV (Qg0 n (same_any n) l m p q c d w (ZV b).1 (ZV e).1 (by have:=a.1;omega) a.2)
structure TP where
 p:Option Addr
 c:Nat
structure YIn (w:World) (O:Nat->Prop){n:Nat}(x:TT n) (i:TP):Prop where
 tree:TIn w O x i.p
 ok:x.ok
section
variable {w w':World}{O O':Nat->Prop}{n:Nat}{x:TT n}{i:TP}
theorem YIn.keep (hb:∀ k,O k->k<w.heap.size->w'.heap[k]?=w.heap[k]?) (a:∀ k,O k->k<w.heap.size->O' k) (h:YIn w O x i):YIn w' O' x i:=⟨h.tree.keep hb a,h.ok⟩
theorem YIn.below (h:YIn w O x i) (a:Below w.heap.size w w'):YIn w' O x i:=h.keep (fun k _ b=>a.block k b) (fun _ h _=>h)
theorem YIn.mono (h:YIn w O x i) (a:∀ k,O k->k<w.heap.size->O' k):YIn w O' x i:=h.keep (fun k _ _=>rfl) a
theorem QhB (h:YIn w O x i):(Lay.tt n).In w O x [.int .i64 x.kind,.int .i64 x.r,.slice i.p x.len i.c]:=⟨i.p,i.c,Z,h.tree,h.ok⟩
theorem QjO {l:List (TT n)}(h:(Lay.tt n).list.In w O l [.slice p m c]){q:Nat}(f:l[q]?=some x) :
 ∃ (g o:Nat) (i:TP),p=some ⟨g,o,none⟩/\w.rangeAt g (o+q*3) [.int .i64 x.kind,.int .i64 x.r,.slice i.p x.len i.c]/\YIn w O x i:=by
 obtain⟨g,o,y,e,A,z,d,k⟩:=Yf h f
 obtain⟨a,c,rfl,t,u⟩:=k
 have s:(Lay.tt n).size=3:=rfl;rw[s] at d
 exact⟨g,o,⟨a,c⟩,e,fun j v b=>(d j (by have:=(Zi b).1;simpa using this)).trans b,t,u⟩
end
theorem Wd.of {a w:World}(b:Below a.heap.size a w):Wd a w []:=⟨b,fun i x h=>by simp at h,fun i x h=>by simp at h,fun i j x y h=>by simp at h⟩
section
variable {α:Type}{A:Lay α}{e:TypeId}{w w':World}{lo g n q s:Nat}{l:List α}{xs:List Value}{x:α}{ds:List Value}
theorem QaS.start (q:A.size=s) (h:w.ownsRow lo e s (.slice (some ⟨g,0,none⟩) m m) m xs):QaS A e w lo (.slice (some ⟨g,0,none⟩) 0 m) (l.take 0) []:=by
 subst q;obtain⟨t,p⟩:=h
 rcases p with ⟨a,_⟩|⟨r,j,c,a,o,k,n,f,d,b⟩
 ·simp at a
 ·simp only[Value.slice.injEq,Option.some.injEq,Addr.mk.injEq,and_true,true_and] at a
  obtain⟨rfl,rfl⟩:=a
  exact⟨⟨by simp,.inr ⟨g,m,c,Z,o,k,Xb _,f,d,by simp⟩⟩,fun i x h=>by simp at h⟩
theorem QaS.blk (h:QaS A e w lo (.slice (some ⟨g,0,none⟩) q n) l xs) (o:A.size=s):∃ c,Blk w g c e/\c.size=n*s:=by
 subst o;obtain⟨u,m⟩:=h.own
 rcases m with ⟨a,_⟩|⟨t,i,b,a,r,j,k,p,f,d⟩
 ·simp at a
 ·simp only[Value.slice.injEq,Option.some.injEq,Addr.mk.injEq,and_true,true_and] at a
  obtain⟨rfl,-,rfl⟩:=a
  exact⟨b,j,f⟩
theorem QaS.fillq (h:QaS A e w lo (.slice (some ⟨g,0,none⟩) q n) (l.take q) xs) (f:A.size=s) (i:q<l.length) (hn:l.length=n) (b:l[q]?=some x) (c:A.In w (fun k=>lo<=k/\k≠g) x ds) (d:w'=w.setCells g (0+q*s) ds) :
 ∃ xs',QaS A e w' lo (.slice (some ⟨g,0,none⟩) (q+1) n) (l.take (q+1)) xs':=by
 subst f d;have a:(l.take q).length=q:=by simp;omega
 have T:l.take (q+1)=l.take q++[x]:=by rw[XV,b];rfl
 have:=QaS.fill (l:=l.take q) (g:=g) (n:=n) (by rw[a];exact h) c (by omega)
 rw[a] at this
 rw[T,XK]
 exact⟨_,this⟩
theorem QaS.done (h:QaS A e w lo (.slice (some ⟨g,0,none⟩) q n) (l.take q) xs) (a:q=l.length):A.list.In w (Qaq lo) l [.slice (some ⟨g,0,none⟩) l.length n]:=by
 have:=h.lay
 subst a;rw[List.take_length] at this
 exact this
end
section
variable {n:Nat}{a:Act}{L:List (Tmp × Value)}{w0 w:World}{Bs:List (Nat × Array Value × TypeId)}{Q:Exit->Act->World->Prop}{ops:Array Oper}{rest:List Oper}{t:Tmp}{u v:Value}{ty ty2 ty3:TypeId}{pos:String}{aft:Array Edge}{gd:Option (Nat × Bool)}{x y:Operand}
theorem Qjb {g:Nat}{c:Array Value}{a:List Value}(e:Wd w0 w Bs) (d:w0.heap.size<=g) (b:∀ (i:Nat) x,Bs[i]?=some x->x.1≠g) (m:Blk w g c bt)
 (f:Qs L x=some (.pointer (some ⟨g,j,none⟩))) (p:Qs L y=some (.agg a.toArray)) (q:(prog.info? ty2).map (·.size)=some a.length) (o:a.all (·.oneCell')=true) (l:j+a.length<=c.size)
 (k:∀ w',Wd w0 w' Bs->w'=w.setCells g j a->St n L ops Q rest w'):St n L ops Q (⟨none,.store ty2 x y,ty,pos,aft,none⟩::rest) w :=
 Qmm e d b m f p q o l (fun h=>k _ h Z)
end
theorem underIns:prog.underlying 66=some (.slice 65):=by kernel_rfl
theorem underBlocks:prog.underlying 74=some (.slice 73):=by kernel_rfl
theorem underFuncs:prog.underlying 22=some (.slice 76):=by kernel_rfl
theorem QdE {t:TypeId}{z:Value}{s:Nat}(h:(prog.info? t).map (fun i=>(i.zero,i.size,i.bytes))=some (some z,s,b)):∃ i,prog.info? t=some i/\i.zero=some z/\i.size=s/\i.bytes=b:=by
 obtain⟨i,a,e⟩:=Option.map_eq_some_iff.1 h
 simp only[Prod.mk.injEq] at e
 exact⟨i,a,e⟩
theorem infoIns:(prog.info? 65).map (fun i=>(i.zero,i.size,i.bytes))=some (some (.agg #[.int .i64 0,.int .i64 0,.int .i64 0,.int .i64 0,.int .i64 0,.int .i64 0,.slice none 0 0,.slice none 0 0]),8,96):=by kernel_rfl
theorem infoBlock:(prog.info? 73).map (fun i=>(i.zero,i.size,i.bytes))=some (some (.agg #[.int .i64 0,.slice none 0 0,.slice none 0 0,.int .i64 0,.int .i64 0,.int .i64 0,.slice none 0 0,.slice none 0 0,.int .i64 0,.slice none 0 0,.slice none 0 0,.slice none 0 0]),12,208):=by kernel_rfl
theorem infoFunc:(prog.info? 76).map (fun i=>(i.zero,i.size,i.bytes))=some (some (.agg #[.int .i64 0,.slice none 0 0,.slice none 0 0,.slice none 0 0]),4,80):=by kernel_rfl
theorem Xw:type_of% @of_decide_eq_false:=@of_decide_eq_false
theorem XB:type_of% @wp_skip:=@wp_skip
theorem XJ:type_of% @wp_block:=@wp_block
theorem Qag (l:List (TT n)) (p:Option Addr) (c:Nat) (w:World) (C:(Lay.tt n).list.In w All l [.slice p l.length c]) (bc:l.length<=4294967296)
 (hf:∀ x∈l,∀ (i:TP) (w:World),YIn w All x i->Calls prog 98 #[.agg #[.int .i64 x.kind,.int .i64 x.r,.slice i.p x.len i.c]] w fun e w'=>∃ v,e=.returned v/\(∃ i':TP,v=.agg #[.int .i64 x.kind,.int .i64 x.r,.slice i'.p x.len i'.c]/\YIn w' (Qaq w.heap.size) x i')/\Below w.heap.size w w') :
 Calls prog 97 #[.slice p l.length c,.func (.func 98) #[] #[]] w fun e w'=>Qe8 (Lay.tt n) w w' l e:=by
 have hl:Hid _:=C;clear C;obtain⟨i0,hi,ap,al,ak⟩:=infoT_parts
 refine Qv (n:=26) func97 Z Z Z <| fun a hF=>?_
 have hW:=Ye w;replace hF:Fr 26 a [(0,.slice p l.length c),(1,.func (.func 98) #[] #[])]:=hF;refine XW fun K1 ag=>rg hF fun f=>sa Y Z Z <| Yb fun a2 h2=>ag _ _ <| XW fun K3 aq=>rg h2 fun f=>sm Y Z Z <| QbZ Y Z Z ?_
 refine Qir underTs hi ap al (by rw[ak];omega) (by unfold maxLen;omega) hW Y Z Z ?_;rintro w4 g a1 rfl hO O ao;clear hW;refine sa Y Z Z <| Yb fun a5 h5=>aq _ _ <| XW fun K6 aj=>XW fun K7 ah=>rg h5 fun f=>sm Y Z Z <| QbZ Y Z Z <| sm Y Z Z <| Yb fun a8 u=>ah _ _ <| XJ <| Qay (fun r a w'=>∃ q:Nat,q<=l.length/\r=l.length - q/\(∃ xs,QaS (Lay.tt n) 92 w' w.heap.size (.slice (some ⟨w.heap.size,0,none⟩) q l.length) (l.take q) xs)/\Fr 26 a [(1,.func (.func 98) #[] #[]),(0,.slice p l.length c),(4,.slice none 0 0),(5,.slice (some ⟨w.heap.size,0,none⟩) l.length l.length),(11,.slice p l.length c),(12,.int .i64 (l.length:Int)),(13,.int .i64 (q:Int))]/\Below w.heap.size w w') l.length ⟨0,Xb _,Z,⟨_,QaS.start Z hO⟩,(u.keep (u.keep (u.keep (u.keep (u.keep (u.keep (u.keep u.nil (t:=13) Z) (t:=12) Z) (t:=11) Z) (t:=5) Z) (t:=4) Z) (t:=0) Z) (t:=1) Z),O⟩ ?_
 clear u ao hO O;rintro r a9 w9 ⟨q,hq,hr,⟨xs,K⟩,af,P⟩ KL ae;have hA:Hid _:=K;have T:Hid _:=P;clear K P;have L:=Ye w9;refine XW fun bg M=>rg af fun f=>slt Y Z Z Z <| Yb fun a4 A=>M _ _ <| XW fun a3 J=>QR (t:=14) A Z (fun G=>?_) (fun G=>?_)
 ·have j:q<l.length:=by have:=Xv G;omega
  clear G;obtain⟨x,o⟩:∃ v9,(l)[q]?=some v9:=⟨_,Zg j⟩
  obtain⟨g1,o1,y1,z,X,y⟩:=QjO (Ya hl.out T.out) o
  replace y:Hid _:=y;replace z:Hid _:=z;replace o:Hid _:=o;replace X:Hid _:=X;have am:Hid ((some ⟨w.heap.size,0,none⟩:Option Addr)=some ⟨w.heap.size,0,none⟩):=rfl;refine XB <| J _ _ <| XW fun be H=>XJ <| XW fun ax S=>rg A fun f=>sm Y Z Z <| Qdu z.out j Y Z Z Z <| sSE underlying92 Z (QW X.out L.bel) infType Y Z Z <| QgK L Y Z <| fun a6 ba I hN=>sa Y Z Z <| sT 0 I Z Z infType Z Z Z <| fun ab d=>Yb fun ay U=>S _ _ <| rg U fun f=>sm Y Z Z <| sm Y Z Z <| sm Y Z Z <| sS 0 3 underlying92 Z infType d Y Z Z Z Z <| Qiu cf98 d (hf x (Zm o.out) y1 _ (y.out.below d.bel)) Y Z Z Z ?_
  rintro v9 R ⟨i2,rfl,hI⟩ az m;refine Qdu am.out j Y Z Z Z <| fun au W=>St.go W ?_
  have B:=hA.out.below m.bel;obtain⟨cg,N,ac⟩:=B.blk (s:=3) Z
  have an:Below w.heap.size w R:=Xl T.out m.bel;have bd:w9.heap.size<=ab.heap.size:=d.bel.size;have bf:w.heap.size<=w9.heap.size:=T.out.size;have bh:=(hA.out.lo_le (g:=w.heap.size) Z).2;have E:(Lay.tt n).In R (fun k=>w.heap.size<=k/\k≠w.heap.size) x [.int .i64 x.kind,.int .i64 x.r,.slice i2.p x.len i2.c]:=Yc (QhB hI) (fun k hk _=>⟨by have:_<=k:=hk;omega,by have:_<=k:=hk;omega⟩);clear m d;refine Qjb (Wd.of an) Ze (fun i x h=>by simp at h) N Z Z infType Z (by simp only[List.length_cons,List.length_nil];omega) ?_;intro ad D F;obtain⟨aw,V⟩:=B.fillq (s:=3) (w':=ad) Z j Z o.out E F
  clear F B N ac E;exact Yb fun av ar=>H _ _ <| rg ar fun f=>sad (by omega) Y Z Z Z <| sm Y Z Z <| Yb fun a0 b=>ae _ _ (l.length - (q+1)) (by omega) ⟨q+1,by omega,Z,⟨_,V⟩,(b.keep (b.keep (b.keep (b.keep (b.keep (b.keep (b.keep b.nil (t:=13) Z) (t:=12) Z) (t:=11) Z) (t:=5) Z) (t:=4) Z) (t:=0) Z) (t:=1) Z),D.bel⟩
 have aa:q=l.length:=by have:=Xw G;omega
 clear G;refine wp_exit <| aj _ _ <| XW fun bb Q=>rg A fun f=>sm Y Z Z <| sa Y Z Z <| Yb fun a7 ai=>Q _ _ ?_
 refine XA ?_;with_reducible repeat first | refine Qg ?_ | refine Qd ?_
 exact QU (t:=4) ai Z Z ⟨_,_,Z,hA.out.done aa,T.out⟩
theorem QeT (l:List (Qz)) (p:Option Addr) (c:Nat) (w:World) (D:insL.list.In w All l [.slice p l.length c]) (bd:l.length<=4294967296)
 (hf:∀ x∈l,∀ (i:IP) (w:World),IIn w All x i->Calls prog 147 #[.agg #[.int .i64 x.op,.int .i64 x.a,.int .i64 x.b,.int .i64 x.c,.int .i64 x.k,.int .i64 x.n,.slice i.pR x.regs.length i.cR,.slice i.pA x.args.length i.cA]] w fun e w'=>∃ v,e=.returned v/\(∃ i':IP,v=.agg #[.int .i64 x.op,.int .i64 x.a,.int .i64 x.b,.int .i64 x.c,.int .i64 x.k,.int .i64 x.n,.slice i'.pR x.regs.length i'.cR,.slice i'.pA x.args.length i'.cA]/\IIn w' (Qaq w.heap.size) x i')/\Below w.heap.size w w') :
 Calls prog 146 #[.slice p l.length c,.func (.func 147) #[] #[]] w fun e w'=>Qe8 insL w w' l e:=by
 have hl:Hid _:=D;clear D;obtain⟨i0,hi,aq,am,al⟩:=(QdE infoIns)
 refine Qv (n:=26) func146 Z Z Z <| fun a hF=>?_
 have hW:=Ye w;replace hF:Fr 26 a [(0,.slice p l.length c),(1,.func (.func 147) #[] #[])]:=hF;refine XW fun K1 ah=>rg hF fun j=>sa Y Z Z <| Yb fun a2 h2=>ah _ _ <| XW fun K3 ar=>rg h2 fun j=>sm Y Z Z <| QeG Y Z Z ?_
 refine Qir underIns hi aq am (by rw[al];omega) (by unfold maxLen;omega) hW Y Z Z ?_;rintro w4 g a3 rfl hO P ap;clear hW;refine sa Y Z Z <| Yb fun a5 h5=>ar _ _ <| XW fun K6 ak=>XW fun K7 ai=>rg h5 fun j=>sm Y Z Z <| QeG Y Z Z <| sm Y Z Z <| Yb fun a8 y=>ai _ _ <| XJ <| Qay (fun r a w'=>∃ q:Nat,q<=l.length/\r=l.length - q/\(∃ xs,QaS insL 65 w' w.heap.size (.slice (some ⟨w.heap.size,0,none⟩) q l.length) (l.take q) xs)/\Fr 26 a [(1,.func (.func 147) #[] #[]),(0,.slice p l.length c),(4,.slice none 0 0),(5,.slice (some ⟨w.heap.size,0,none⟩) l.length l.length),(11,.slice p l.length c),(12,.int .i64 (l.length:Int)),(13,.int .i64 (q:Int))]/\Below w.heap.size w w') l.length ⟨0,Xb _,Z,⟨_,QaS.start Z hO⟩,(y.keep (y.keep (y.keep (y.keep (y.keep (y.keep (y.keep y.nil (t:=13) Z) (t:=12) Z) (t:=11) Z) (t:=5) Z) (t:=4) Z) (t:=0) Z) (t:=1) Z),P⟩ ?_
 clear y ap hO P;rintro r a9 w9 ⟨q,hq,hr,⟨xs,L⟩,ag,Q⟩ KL af;have hA:Hid _:=L;have V:Hid _:=Q;clear L Q;have M:=Ye w9;refine XW fun bh N=>rg ag fun j=>slt Y Z Z Z <| Yb fun a6 B=>N _ _ <| XW fun a4 K=>QR (t:=14) B Z (fun H=>?_) (fun H=>?_)
 ·have m:q<l.length:=by have:=Xv H;omega
  clear H;obtain⟨x,u⟩:∃ v9,(l)[q]?=some v9:=⟨_,Zg m⟩
  obtain⟨g1,o1,i1,A,E1,z⟩:=QfM (Ya hl.out V.out) u
  replace z:Hid _:=z;replace A:Hid _:=A;replace u:Hid _:=u;replace E1:Hid _:=E1;have an:Hid ((some ⟨w.heap.size,0,none⟩:Option Addr)=some ⟨w.heap.size,0,none⟩):=rfl;refine XB <| K _ _ <| XW fun bf I=>XJ <| XW fun ay T=>rg B fun j=>sm Y Z Z <| QgO A.out m Y Z Z Z <| sSE underlying65 Z (QW E1.out M.bel) infIns Y Z Z <| Qj0 M Y Z <| fun a7 bb J hN=>sa Y Z Z <| sT 0 J Z Z infIns Z Z Z <| fun ac f=>Yb fun az W=>T _ _ <| rg W fun j=>sm Y Z Z <| sm Y Z Z <| sm Y Z Z <| sS 0 8 underlying65 Z infIns f Y Z Z Z Z <| Qiu cf147 f (hf x (Zm u.out) i1 _ (z.out.below f.bel)) Y Z Z Z ?_
  rintro v9 S ⟨U,rfl,hI⟩ a0 o;refine QgO an.out m Y Z Z Z <| fun av aa=>St.go aa ?_
  have C:=hA.out.below o.bel;obtain⟨cg,O,ad⟩:=C.blk (s:=8) Z
  have ao:Below w.heap.size w S:=Xl V.out o.bel;have be:w9.heap.size<=ac.heap.size:=f.bel.size;have bg:w.heap.size<=w9.heap.size:=V.out.size;have bi:=(hA.out.lo_le (g:=w.heap.size) Z).2;have F:insL.In S (fun k=>w.heap.size<=k/\k≠w.heap.size) x [.int .i64 x.op,.int .i64 x.a,.int .i64 x.b,.int .i64 x.c,.int .i64 x.k,.int .i64 x.n,.slice U.pR x.regs.length U.cR,.slice U.pA x.args.length U.cA]:=Yc (QiV hI) (fun k hk _=>⟨by have:_<=k:=hk;omega,by have:_<=k:=hk;omega⟩);clear o f;refine Qjb (Wd.of ao) Ze (fun i x h=>by simp at h) O Z Z infIns Z (by simp only[List.length_cons,List.length_nil];omega) ?_;intro ae E G;obtain⟨ax,X⟩:=C.fillq (s:=8) (w':=ae) Z m Z u.out F G
  clear G C O ad F;exact Yb fun aw au=>I _ _ <| rg au fun j=>sad (by omega) Y Z Z Z <| sm Y Z Z <| Yb fun a1 d=>af _ _ (l.length - (q+1)) (by omega) ⟨q+1,by omega,Z,⟨_,X⟩,(d.keep (d.keep (d.keep (d.keep (d.keep (d.keep (d.keep d.nil (t:=13) Z) (t:=12) Z) (t:=11) Z) (t:=5) Z) (t:=4) Z) (t:=0) Z) (t:=1) Z),E.bel⟩
 have ab:q=l.length:=by have:=Xw H;omega
 clear H;refine wp_exit <| ak _ _ <| XW fun bc R=>rg B fun j=>sm Y Z Z <| sa Y Z Z <| Yb fun ba aj=>R _ _ ?_
 refine XA ?_;with_reducible repeat first | refine Qg ?_ | refine Qd ?_
 exact QU (t:=4) aj Z Z ⟨_,_,Z,hA.out.done ab,V.out⟩
theorem QdC (l:List (Qk n)) (p:Option Addr) (c:Nat) (w:World) (D:(Zu n).list.In w All l [.slice p l.length c]) (bc:l.length<=4294967296)
 (hf:∀ x∈l,∀ (i:BP) (w:World),BIn w All x i->Calls prog 100 #[.agg #[.int .i64 x.regs,.slice i.pP x.params.length i.cP,.slice i.pC x.code.length i.cC,.int .i64 x.fin.op,.int .i64 x.fin.a,.int .i64 x.fin.yes.block,.slice i.e.pYR x.fin.yes.regs.length i.e.cYR,.slice i.e.pYA x.fin.yes.args.length i.e.cYA,.int .i64 x.fin.no.block,.slice i.e.pNR x.fin.no.regs.length i.e.cNR,.slice i.e.pNA x.fin.no.args.length i.e.cNA,.slice i.e.pA x.fin.args.length i.e.cA]] w fun e w'=>∃ v,e=.returned v/\(∃ i':BP,v=.agg #[.int .i64 x.regs,.slice i'.pP x.params.length i'.cP,.slice i'.pC x.code.length i'.cC,.int .i64 x.fin.op,.int .i64 x.fin.a,.int .i64 x.fin.yes.block,.slice i'.e.pYR x.fin.yes.regs.length i'.e.cYR,.slice i'.e.pYA x.fin.yes.args.length i'.e.cYA,.int .i64 x.fin.no.block,.slice i'.e.pNR x.fin.no.regs.length i'.e.cNR,.slice i'.e.pNA x.fin.no.args.length i'.e.cNA,.slice i'.e.pA x.fin.args.length i'.e.cA]/\BIn w' (Qaq w.heap.size) x i')/\Below w.heap.size w w') :
 Calls prog 99 #[.slice p l.length c,.func (.func 100) #[] #[]] w fun e w'=>Qe8 (Zu n) w w' l e:=by
 have hl:Hid _:=D;clear D;obtain⟨i0,hi,ap,al,ak⟩:=(QdE infoBlock)
 refine Qv (n:=26) func99 Z Z Z <| fun a hF=>?_
 have hW:=Ye w;replace hF:Fr 26 a [(0,.slice p l.length c),(1,.func (.func 100) #[] #[])]:=hF;refine XW fun K1 ag=>rg hF fun f=>sa Y Z Z <| Yb fun a2 h2=>ag _ _ <| XW fun K3 aq=>rg h2 fun f=>sm Y Z Z <| QdS Y Z Z ?_
 refine Qir underBlocks hi ap al (by rw[ak];omega) (by unfold maxLen;omega) hW Y Z Z ?_;rintro w4 g a1 rfl hO P ao;clear hW;refine sa Y Z Z <| Yb fun a5 h5=>aq _ _ <| XW fun K6 aj=>XW fun K7 ah=>rg h5 fun f=>sm Y Z Z <| QdS Y Z Z <| sm Y Z Z <| Yb fun a8 y=>ah _ _ <| XJ <| Qay (fun r a w'=>∃ q:Nat,q<=l.length/\r=l.length - q/\(∃ xs,QaS (Zu n) 73 w' w.heap.size (.slice (some ⟨w.heap.size,0,none⟩) q l.length) (l.take q) xs)/\Fr 26 a [(1,.func (.func 100) #[] #[]),(0,.slice p l.length c),(4,.slice none 0 0),(5,.slice (some ⟨w.heap.size,0,none⟩) l.length l.length),(11,.slice p l.length c),(12,.int .i64 (l.length:Int)),(13,.int .i64 (q:Int))]/\Below w.heap.size w w') l.length ⟨0,Xb _,Z,⟨_,QaS.start Z hO⟩,(y.keep (y.keep (y.keep (y.keep (y.keep (y.keep (y.keep y.nil (t:=13) Z) (t:=12) Z) (t:=11) Z) (t:=5) Z) (t:=4) Z) (t:=0) Z) (t:=1) Z),P⟩ ?_
 clear y ao hO P;rintro r a9 w9 ⟨q,hq,hr,⟨xs,L⟩,af,Q⟩ KL ae;have hA:Hid _:=L;have U:Hid _:=Q;clear L Q;have M:=Ye w9;refine XW fun bg N=>rg af fun f=>slt Y Z Z Z <| Yb fun a4 B=>N _ _ <| XW fun a3 K=>QR (t:=14) B Z (fun H=>?_) (fun H=>?_)
 ·have m:q<l.length:=by have:=Xv H;omega
  clear H;obtain⟨x,u⟩:∃ v9,(l)[q]?=some v9:=⟨_,Zg m⟩
  obtain⟨g1,o1,b1,A,E1,z⟩:=Qby (Ya hl.out U.out) u
  replace z:Hid _:=z;replace A:Hid _:=A;replace u:Hid _:=u;replace E1:Hid _:=E1;have am:Hid ((some ⟨w.heap.size,0,none⟩:Option Addr)=some ⟨w.heap.size,0,none⟩):=rfl;refine XB <| K _ _ <| XW fun be I=>XJ <| XW fun ax T=>rg B fun f=>sm Y Z Z <| QdA A.out m Y Z Z Z <| sSE underlying73 Z (QW E1.out M.bel) infBlock Y Z Z <| Qfd M Y Z <| fun a6 ba J hN=>sa Y Z Z <| sT 0 J Z Z infBlock Z Z Z <| fun ab d=>Yb fun ay V=>T _ _ <| rg V fun f=>sm Y Z Z <| sm Y Z Z <| sm Y Z Z <| sS 0 12 underlying73 Z infBlock d Y Z Z Z Z <| Qiu cf100 d (hf x (Zm u.out) b1 _ (z.out.below d.bel)) Y Z Z Z ?_
  rintro v9 S ⟨j,rfl,hI⟩ az o;refine QdA am.out m Y Z Z Z <| fun au X=>St.go X ?_
  have C:=hA.out.below o.bel;obtain⟨cg,O,ac⟩:=C.blk (s:=12) Z
  have an:Below w.heap.size w S:=Xl U.out o.bel;have bd:w9.heap.size<=ab.heap.size:=d.bel.size;have bf:w.heap.size<=w9.heap.size:=U.out.size;have bh:=(hA.out.lo_le (g:=w.heap.size) Z).2;have F:(Zu n).In S (fun k=>w.heap.size<=k/\k≠w.heap.size) x [.int .i64 x.regs,.slice j.pP x.params.length j.cP,.slice j.pC x.code.length j.cC,.int .i64 x.fin.op,.int .i64 x.fin.a,.int .i64 x.fin.yes.block,.slice j.e.pYR x.fin.yes.regs.length j.e.cYR,.slice j.e.pYA x.fin.yes.args.length j.e.cYA,.int .i64 x.fin.no.block,.slice j.e.pNR x.fin.no.regs.length j.e.cNR,.slice j.e.pNA x.fin.no.args.length j.e.cNA,.slice j.e.pA x.fin.args.length j.e.cA]:=Yc (QbM hI) (fun k hk _=>⟨by have:_<=k:=hk;omega,by have:_<=k:=hk;omega⟩);clear o d;refine Qjb (Wd.of an) Ze (fun i x h=>by simp at h) O Z Z infBlock Z (by simp only[List.length_cons,List.length_nil];omega) ?_;intro ad E G;obtain⟨aw,W⟩:=C.fillq (s:=12) (w':=ad) Z m Z u.out F G
  clear G C O ac F;exact Yb fun av ar=>I _ _ <| rg ar fun f=>sad (by omega) Y Z Z Z <| sm Y Z Z <| Yb fun a0 b=>ae _ _ (l.length - (q+1)) (by omega) ⟨q+1,by omega,Z,⟨_,W⟩,(b.keep (b.keep (b.keep (b.keep (b.keep (b.keep (b.keep b.nil (t:=13) Z) (t:=12) Z) (t:=11) Z) (t:=5) Z) (t:=4) Z) (t:=0) Z) (t:=1) Z),E.bel⟩
 have aa:q=l.length:=by have:=Xw H;omega
 clear H;refine wp_exit <| aj _ _ <| XW fun bb R=>rg B fun f=>sm Y Z Z <| sa Y Z Z <| Yb fun a7 ai=>R _ _ ?_
 refine XA ?_;with_reducible repeat first | refine Qg ?_ | refine Qd ?_
 exact QU (t:=4) ai Z Z ⟨_,_,Z,hA.out.done aa,U.out⟩
theorem Qeo (l:List (Qe n)) (p:Option Addr) (c:Nat) (w:World) (D:(QaH n).list.In w All l [.slice p l.length c]) (bc:l.length<=4294967296)
 (hf:∀ x∈l,∀ (i:FP) (w:World),FIn w All x i->Calls prog 60 #[.agg #[.int .i64 x.regs,.slice i.pP x.params.length i.cP,.slice i.pR x.results.length i.cR,.slice i.pB x.blocks.length i.cB]] w fun e w'=>∃ v,e=.returned v/\(∃ i':FP,v=.agg #[.int .i64 x.regs,.slice i'.pP x.params.length i'.cP,.slice i'.pR x.results.length i'.cR,.slice i'.pB x.blocks.length i'.cB]/\FIn w' (Qaq w.heap.size) x i')/\Below w.heap.size w w') :
 Calls prog 59 #[.slice p l.length c,.func (.func 60) #[] #[]] w fun e w'=>Qe8 (QaH n) w w' l e:=by
 have hl:Hid _:=D;clear D;obtain⟨i0,hi,ap,al,ak⟩:=(QdE infoFunc)
 refine Qv (n:=26) func59 Z Z Z <| fun a hF=>?_
 have hW:=Ye w;replace hF:Fr 26 a [(0,.slice p l.length c),(1,.func (.func 60) #[] #[])]:=hF;refine XW fun K1 ag=>rg hF fun f=>sa Y Z Z <| Yb fun a2 h2=>ag _ _ <| XW fun K3 aq=>rg h2 fun f=>sm Y Z Z <| QcH Y Z Z ?_
 refine Qir underFuncs hi ap al (by rw[ak];omega) (by unfold maxLen;omega) hW Y Z Z ?_;rintro w4 g a1 rfl hO P ao;clear hW;refine sa Y Z Z <| Yb fun a5 h5=>aq _ _ <| XW fun K6 aj=>XW fun K7 ah=>rg h5 fun f=>sm Y Z Z <| QcH Y Z Z <| sm Y Z Z <| Yb fun a8 u=>ah _ _ <| XJ <| Qay (fun r a w'=>∃ q:Nat,q<=l.length/\r=l.length - q/\(∃ xs,QaS (QaH n) 76 w' w.heap.size (.slice (some ⟨w.heap.size,0,none⟩) q l.length) (l.take q) xs)/\Fr 26 a [(1,.func (.func 60) #[] #[]),(0,.slice p l.length c),(4,.slice none 0 0),(5,.slice (some ⟨w.heap.size,0,none⟩) l.length l.length),(11,.slice p l.length c),(12,.int .i64 (l.length:Int)),(13,.int .i64 (q:Int))]/\Below w.heap.size w w') l.length ⟨0,Xb _,Z,⟨_,QaS.start Z hO⟩,(u.keep (u.keep (u.keep (u.keep (u.keep (u.keep (u.keep u.nil (t:=13) Z) (t:=12) Z) (t:=11) Z) (t:=5) Z) (t:=4) Z) (t:=0) Z) (t:=1) Z),P⟩ ?_
 clear u ao hO P;rintro r a9 w9 ⟨q,hq,hr,⟨xs,L⟩,af,Q⟩ KL ae;have hA:Hid _:=L;have U:Hid _:=Q;clear L Q;have M:=Ye w9;refine XW fun bg N=>rg af fun f=>slt Y Z Z Z <| Yb fun a4 A=>N _ _ <| XW fun a3 K=>QR (t:=14) A Z (fun H=>?_) (fun H=>?_)
 ·have j:q<l.length:=by have:=Xv H;omega
  clear H;obtain⟨x,o⟩:∃ v9,(l)[q]?=some v9:=⟨_,Zg j⟩
  obtain⟨g1,o1,f1,z,E1,y⟩:=QbK (Ya hl.out U.out) o
  replace y:Hid _:=y;replace z:Hid _:=z;replace o:Hid _:=o;replace E1:Hid _:=E1;have am:Hid ((some ⟨w.heap.size,0,none⟩:Option Addr)=some ⟨w.heap.size,0,none⟩):=rfl;refine XB <| K _ _ <| XW fun be I=>XJ <| XW fun ax T=>rg A fun f=>sm Y Z Z <| Qe5 z.out j Y Z Z Z <| sSE underlying76 Z (QW E1.out M.bel) infFunc Y Z Z <| QhI M Y Z <| fun a6 ba J hN=>sa Y Z Z <| sT 0 J Z Z infFunc Z Z Z <| fun ab d=>Yb fun ay V=>T _ _ <| rg V fun f=>sm Y Z Z <| sm Y Z Z <| sm Y Z Z <| sS 0 4 underlying76 Z infFunc d Y Z Z Z Z <| Qiu cf60 d (hf x (Zm o.out) f1 _ (y.out.below d.bel)) Y Z Z Z ?_
  rintro v9 S ⟨C,rfl,hI⟩ az m;refine Qe5 am.out j Y Z Z Z <| fun au X=>St.go X ?_
  have B:=hA.out.below m.bel;obtain⟨cg,O,ac⟩:=B.blk (s:=4) Z
  have an:Below w.heap.size w S:=Xl U.out m.bel;have bd:w9.heap.size<=ab.heap.size:=d.bel.size;have bf:w.heap.size<=w9.heap.size:=U.out.size;have bh:=(hA.out.lo_le (g:=w.heap.size) Z).2;have F:(QaH n).In S (fun k=>w.heap.size<=k/\k≠w.heap.size) x [.int .i64 x.regs,.slice C.pP x.params.length C.cP,.slice C.pR x.results.length C.cR,.slice C.pB x.blocks.length C.cB]:=Yc (QcC hI) (fun k hk _=>⟨by have:_<=k:=hk;omega,by have:_<=k:=hk;omega⟩);clear m d;refine Qjb (Wd.of an) Ze (fun i x h=>by simp at h) O Z Z infFunc Z (by simp only[List.length_cons,List.length_nil];omega) ?_;intro ad E G;obtain⟨aw,W⟩:=B.fillq (s:=4) (w':=ad) Z j Z o.out F G
  clear G B O ac F;exact Yb fun av ar=>I _ _ <| rg ar fun f=>sad (by omega) Y Z Z Z <| sm Y Z Z <| Yb fun a0 b=>ae _ _ (l.length - (q+1)) (by omega) ⟨q+1,by omega,Z,⟨_,W⟩,(b.keep (b.keep (b.keep (b.keep (b.keep (b.keep (b.keep b.nil (t:=13) Z) (t:=12) Z) (t:=11) Z) (t:=5) Z) (t:=4) Z) (t:=0) Z) (t:=1) Z),E.bel⟩
 have aa:q=l.length:=by have:=Xw H;omega
 clear H;refine wp_exit <| aj _ _ <| XW fun bb R=>rg A fun f=>sm Y Z Z <| sa Y Z Z <| Yb fun a7 ai=>R _ _ ?_
 refine XA ?_;with_reducible repeat first | refine Qg ?_ | refine Qd ?_
 exact QU (t:=4) ai Z Z ⟨_,_,Z,hA.out.done aa,U.out⟩
theorem Qbm {α:Type}{A:Lay α}{f:FuncId}{args:Array Value}{l:List α}(h:Calls prog f args w fun e w'=>Qe8 A w w' l e) :
 Calls prog f args w fun e w'=>∃ v,e=.returned v/\(∃ a' c',v=.slice a' l.length c'/\A.list.In w' (Qaq w.heap.size) l [.slice a' l.length c'])/\Below w.heap.size w w' :=
 h.mono fun e w' ⟨a',c',b,a,c⟩=>⟨_,b,⟨a',c',Z,a⟩,c⟩
theorem EIn.keep1 {x:Qax}{e:EP}(h:EIn w (Qaq lo) x e) (a:Qho B w w') (c:B<lo):EIn w' (Qaq lo) x e :=
 h.keep (fun k b _=>a k (by have:lo<=k:=b;omega)) (fun _ h _=>h)
theorem Qg8 {x:Qz}(d:x.small) (i:IP) (w:World) (h:IIn w All x i):Calls prog 147 #[.agg #[.int .i64 x.op,.int .i64 x.a,.int .i64 x.b,.int .i64 x.c,.int .i64 x.k,.int .i64 x.n,.slice i.pR x.regs.length i.cR,.slice i.pA x.args.length i.cA]] w fun e w'=>∃ v,e=.returned v/\(∃ i':IP,v=.agg #[.int .i64 x.op,.int .i64 x.a,.int .i64 x.b,.int .i64 x.c,.int .i64 x.k,.int .i64 x.n,.slice i'.pR x.regs.length i'.cR,.slice i'.pA x.args.length i'.cA]/\IIn w' (Qaq w.heap.size) x i')/\Below w.heap.size w w' :=
 (Qfk x i w h (by have:=d.1;omega) (by have:=d.2;omega)).mono fun e w' ⟨i',g,f,j⟩=>⟨_,g,⟨i',Z,f⟩,j⟩
theorem QhQ {x:Qax}(b:x.small) (i:EP) (w:World) (h:EIn w All x i):Calls prog 148 #[.agg #[.int .i64 x.op,.int .i64 x.a,.int .i64 x.yes.block,.slice i.pYR x.yes.regs.length i.cYR,.slice i.pYA x.yes.args.length i.cYA,.int .i64 x.no.block,.slice i.pNR x.no.regs.length i.cNR,.slice i.pNA x.no.args.length i.cNA,.slice i.pA x.args.length i.cA]] w fun e w'=>∃ v,e=.returned v/\(∃ i':EP,v=.agg #[.int .i64 x.op,.int .i64 x.a,.int .i64 x.yes.block,.slice i'.pYR x.yes.regs.length i'.cYR,.slice i'.pYA x.yes.args.length i'.cYA,.int .i64 x.no.block,.slice i'.pNR x.no.regs.length i'.cNR,.slice i'.pNA x.no.args.length i'.cNA,.slice i'.pA x.args.length i'.cA]/\EIn w' (Qaq w.heap.size) x i')/\Below w.heap.size w w' :=
 (QeX x i w h (by have:=b.1.1;omega) (by have:=b.1.2;omega) (by have:=b.2.1.1;omega) (by have:=b.2.1.2;omega) (by have:=b.2.2;omega)).mono fun e w' ⟨i',d,c,f⟩=>⟨_,d,⟨i',Z,c⟩,f⟩
def Qky (n:Nat):Prop:=∀ (t:TT n) (i:TP) (w:World),YIn w All t i->t.count<=100000->Calls prog 98 #[.agg #[.int .i64 t.kind,.int .i64 t.r,.slice i.p t.len i.c]] w fun e w'=>∃ v,e=.returned v/\(∃ i':TP,v=.agg #[.int .i64 t.kind,.int .i64 t.r,.slice i'.p t.len i'.c]/\YIn w' (Qaq w.heap.size) t i')/\Below w.heap.size w w'
theorem cOwnType_any:∀ n,Qky n:=by
 intro n
 induction n with
 | zero=>intro t;exact Empty.elim t
 | succ n ih =>
   intro t i w z hc;have D:∀ x∈t.2.2,x.count<=100000:=fun x O=>by have:=t.count_kid O;omega
   have K:t.2.2.length<=100000:=by have:=t.len_lt_count;rw[t.len_eq] at this;omega
   have q:=z.ok;have j:Hid _:=Qee (c:=i.c) z.tree.list q.2;clear z;simp only[TT.len_eq]
   refine Qv (n:=8) func98 Z Z Z <| fun a A=>?_
   have R:=Ye w;replace A:Fr 8 a [(0,.agg #[.int .i64 t.kind,.int .i64 t.r,.slice i.p t.2.2.length i.c])]:=A;refine XW fun K1 F=>rg A fun o=>sB R Y Z Z <| fun w2 H B P=>QgK B Y Z <| fun T C d P=>Yb fun a4 S=>F _ _ <| XW fun K5 E=>rg S fun o=>sfType2 Y Z Z <| QaC 1 d Y Z Z Z Z ?_
   have s:max C H+1<=T.heap.size:=by have I:=(d.get 0 Z).lt;have J:=(d.get 1 Z).lt;omega
   refine QjT cf97 d (Qbm (Qag t.2.2 _ _ _ (Ya j.out d.bel) (by omega) (fun u N i w h=>ih u i w h (D u N)))) Y Z Z Z ?_;rintro v9 X ⟨M,Q,rfl,b⟩ y l;replace b:=Yc b (O':=Qaq (max C H+1)) (fun k j _=>Zt s j);clear s y d;refine sfType2 Y Z Z <| s1k 1 inf1Types l Z Z Z Z Z Z <| fun w8 f g=>?_
   replace b:=Yd b f (by omega);clear f l;refine Yb fun a9 J=>E _ _ <| XW fun W v=>rg J fun o=>sS 1 3 underlying92 Z infType g Y Z Z Z Z <| sTk 0 g Z Z infType Z Z Z <| fun V f e=>?_
   replace b:=Yd b f (by omega);clear f g;refine Yb fun U G=>v _ _ ?_;refine XA ?_;with_reducible repeat first | refine Qg ?_ | refine Qd ?_
   have m:w.heap.size<=max C H+1:=by have I:=e.new 0 _ Z;simp only at I;omega
   have L:=ZV (Yc b (fun k j _=>Zt m j));exact QJ 0 G e Z Z Z underlying92 Z infType ⟨_,Z,⟨⟨M,Q⟩,Z,⟨L.1,q⟩⟩,e.bel⟩
theorem Qdq (x:Qk n) (i:BP) (w:World) (h:BIn w All x i) (H:x.small) :
 Calls prog 100 #[.agg #[.int .i64 x.regs,.slice i.pP x.params.length i.cP,.slice i.pC x.code.length i.cC,.int .i64 x.fin.op,.int .i64 x.fin.a,.int .i64 x.fin.yes.block,.slice i.e.pYR x.fin.yes.regs.length i.e.cYR,.slice i.e.pYA x.fin.yes.args.length i.e.cYA,.int .i64 x.fin.no.block,.slice i.e.pNR x.fin.no.regs.length i.e.cNR,.slice i.e.pNA x.fin.no.args.length i.e.cNA,.slice i.e.pA x.fin.args.length i.e.cA]] w fun e w'=>∃ v,e=.returned v/\(∃ i':BP,v=.agg #[.int .i64 x.regs,.slice i'.pP x.params.length i'.cP,.slice i'.pC x.code.length i'.cC,.int .i64 x.fin.op,.int .i64 x.fin.a,.int .i64 x.fin.yes.block,.slice i'.e.pYR x.fin.yes.regs.length i'.e.cYR,.slice i'.e.pYA x.fin.yes.args.length i'.e.cYA,.int .i64 x.fin.no.block,.slice i'.e.pNR x.fin.no.regs.length i'.e.cNR,.slice i'.e.pNA x.fin.no.args.length i'.e.cNA,.slice i'.e.pA x.fin.args.length i'.e.cA]/\BIn w' (Qaq w.heap.size) x i')/\Below w.heap.size w w':=by
 have L:Hid _:=h;have C:Hid _:=H;have R:=h.bnd;clear h H;refine Qv (n:=16) func100 Z Z Z <| fun a P=>?_
 have hW:=Ye w;replace P:Fr 16 a [(0,.agg #[.int .i64 x.regs,.slice i.pP x.params.length i.cP,.slice i.pC x.code.length i.cC,.int .i64 x.fin.op,.int .i64 x.fin.a,.int .i64 x.fin.yes.block,.slice i.e.pYR x.fin.yes.regs.length i.e.cYR,.slice i.e.pYA x.fin.yes.args.length i.e.cYA,.int .i64 x.fin.no.block,.slice i.e.pNR x.fin.no.regs.length i.e.cNR,.slice i.e.pNA x.fin.no.args.length i.e.cNA,.slice i.e.pA x.fin.args.length i.e.cA])]:=P;refine XW fun K1 V=>rg P fun u=>sB hW Y Z Z <| fun w2 B Q hN=>Qfd Q Y Z <| fun w3 A m hN=>Yb fun a4 h4=>V _ _ <| XW fun K5 U=>rg h4 fun u=>sfBlock1 Y Z Z <| QaC 1 m Y Z Z Z Z ?_
 have l:max A B+1<=w3.heap.size:=by have I:=(m.get 0 Z).lt;have J:=(m.get 1 Z).lt;omega
 refine QjT cf97 m (Qbm (Qag x.params _ _ _ (Ya L.out.params m.bel) (by have:=C.out.2.1.1;omega) (fun t M i w h=>cOwnType_any n t i w h (C.out.2.1.2 t M)))) Y Z Z Z ?_;rintro W w7 ⟨X,c5,rfl,c⟩ j D;replace c:=Yc c (O':=Qaq (max A B+1)) (fun k q _=>Zt l q);clear l j m;refine sfBlock1 Y Z Z <| s1k 1 inf1Types D Z Z Z Z Z Z <| fun w8 b o=>?_
 replace c:=Yd c b (by omega);clear b D;refine Yb fun a9 J=>U _ _ <| XW fun ag G=>rg J fun u=>sfBlock2 Y Z Z <| Qfy 1 o Y Z Z Z Z ?_
 have l:max A B+1<=w8.heap.size:=by have I:=(o.get 0 Z).lt;have J:=(o.get 1 Z).lt;omega
 refine QjT cf146 o (Qbm (QeT x.code _ _ _ (Ya L.out.code o.bel) (by have:=C.out.1;omega) (fun t M i w h=>Qg8 (C.out.2.2.2 t M) i w h))) Y Z Z Z ?_;rintro W af ⟨p9,c9,rfl,f⟩ j y;replace c:=Ya c j;replace f:=Yc f (O':=Qaq (max A B+1)) (fun k q _=>Zt l q);clear l j o;refine sfBlock2 Y Z Z <| s1k 1 inf1Inss y Z Z Z Z Z Z <| fun T b g=>?_
 replace c:=Yd c b (by omega);replace f:=Yd f b (by omega);clear b y;refine Yb fun ae S=>G _ _ <| XW fun ac E=>rg S fun u=>sfBlock3 Y Z Z <| sS 1 9 underlying71 Z infEnd g Y Z Z Z Z ?_
 have l:max A B+1<=T.heap.size:=by have I:=(g.get 0 Z).lt;have J:=(g.get 1 Z).lt;omega
 refine Qmz cf148 g (QhQ C.out.2.2.1 _ _ (L.out.fin.below g.bel)) Y Z Z ?_;rintro W ad ⟨K,rfl,d⟩ j z;replace c:=Ya c j;replace f:=Ya f j;replace d:=EIn.mono d (O':=Qaq (max A B+1)) (fun k q _=>Zt l q);clear l j g;refine sfBlock3 Y Z Z <| sTk 1 z Z Z infEnd Z Z Z <| fun ah b p=>?_
 replace c:=Yd c b (by omega);replace f:=Yd f b (by omega);replace d:=EIn.keep1 d b (by omega);clear b z;refine Yb fun aa N=>E _ _ <| XW fun ai F=>rg N fun u=>sS 1 12 underlying73 Z infBlock p Y Z Z Z Z <| sTk 0 p Z Z infBlock Z Z Z <| fun aj b s=>?_
 replace c:=Yd c b (by omega);replace f:=Yd f b (by omega);replace d:=EIn.keep1 d b (by omega);clear b p;refine Yb fun ab O=>F _ _ ?_;refine XA ?_;with_reducible repeat first | refine Qg ?_ | refine Qd ?_
 have r:w.heap.size<=max A B+1:=by have I:=s.new 0 _ Z;simp only at I;omega
 exact QJ 0 O s Z Z Z underlying73 Z infBlock ⟨_,Z,⟨⟨X,c5,p9,c9,K⟩,Z,⟨Yc c (fun k q _=>Zt r q),Yc f (fun k q _=>Zt r q),EIn.mono d (fun k q _=>Zt r q),R⟩⟩,s.bel⟩
theorem QeB (x:Qe n) (i:FP) (w:World) (h:FIn w All x i) (I:x.small) :
 Calls prog 60 #[.agg #[.int .i64 x.regs,.slice i.pP x.params.length i.cP,.slice i.pR x.results.length i.cR,.slice i.pB x.blocks.length i.cB]] w fun e w'=>∃ v,e=.returned v/\(∃ i':FP,v=.agg #[.int .i64 x.regs,.slice i'.pP x.params.length i'.cP,.slice i'.pR x.results.length i'.cR,.slice i'.pB x.blocks.length i'.cB]/\FIn w' (Qaq w.heap.size) x i')/\Below w.heap.size w w':=by
 have L:Hid _:=h;have C:Hid _:=I;have R:=h.bnd;clear h I;refine Qv (n:=16) func60 Z Z Z <| fun a P=>?_
 have hW:=Ye w;replace P:Fr 16 a [(0,.agg #[.int .i64 x.regs,.slice i.pP x.params.length i.cP,.slice i.pR x.results.length i.cR,.slice i.pB x.blocks.length i.cB])]:=P;refine XW fun K1 V=>rg P fun u=>sB hW Y Z Z <| fun w2 B Q hN=>QhI Q Y Z <| fun w3 A m hN=>Yb fun a4 h4=>V _ _ <| XW fun K5 U=>rg h4 fun u=>sfFunc1 Y Z Z <| QaC 1 m Y Z Z Z Z ?_
 have l:max A B+1<=w3.heap.size:=by have J:=(m.get 0 Z).lt;have K:=(m.get 1 Z).lt;omega
 refine QjT cf97 m (Qbm (Qag x.params _ _ _ (Ya L.out.params m.bel) (by have:=C.out.2.1.1;omega) (fun t D i w h=>cOwnType_any n t i w h (C.out.2.1.2 t D)))) Y Z Z Z ?_;rintro X w7 ⟨p5,c5,rfl,c⟩ j E;replace c:=Yc c (O':=Qaq (max A B+1)) (fun k q _=>Zt l q);clear l j m;refine sfFunc1 Y Z Z <| s1k 1 inf1Types E Z Z Z Z Z Z <| fun w8 b o=>?_
 replace c:=Yd c b (by omega);clear b E;refine Yb fun a9 K=>U _ _ <| XW fun ag H=>rg K fun u=>sfFunc2 Y Z Z <| QaC 1 o Y Z Z Z Z ?_
 have l:max A B+1<=w8.heap.size:=by have J:=(o.get 0 Z).lt;have K:=(o.get 1 Z).lt;omega
 refine QjT cf97 o (Qbm (Qag x.results _ _ _ (Ya L.out.results o.bel) (by have:=C.out.2.2.1.1;omega) (fun t D i w h=>cOwnType_any n t i w h (C.out.2.2.1.2 t D)))) Y Z Z Z ?_;rintro X af ⟨p9,c9,rfl,f⟩ j y;replace c:=Ya c j;replace f:=Yc f (O':=Qaq (max A B+1)) (fun k q _=>Zt l q);clear l j o;refine sfFunc2 Y Z Z <| s1k 1 inf1Types y Z Z Z Z Z Z <| fun T b g=>?_
 replace c:=Yd c b (by omega);replace f:=Yd f b (by omega);clear b y;refine Yb fun ae S=>H _ _ <| XW fun ac F=>rg S fun u=>sfFunc3 Y Z Z <| QfO 1 g Y Z Z Z Z ?_
 have l:max A B+1<=T.heap.size:=by have J:=(g.get 0 Z).lt;have K:=(g.get 1 Z).lt;omega
 refine QjT cf99 g (Qbm (QdC x.blocks _ _ _ (Ya L.out.blocks g.bel) (by have:=C.out.1;omega) (fun t D i w h=>Qdq t i w h (C.out.2.2.2 t D)))) Y Z Z Z ?_;rintro X ad ⟨N,W,rfl,d⟩ j z;replace c:=Ya c j;replace f:=Ya f j;replace d:=Yc d (O':=Qaq (max A B+1)) (fun k q _=>Zt l q);clear l j g;refine sfFunc3 Y Z Z <| s1k 1 inf1Blocks z Z Z Z Z Z Z <| fun ah b p=>?_
 replace c:=Yd c b (by omega);replace f:=Yd f b (by omega);replace d:=Yd d b (by omega);clear b z;refine Yb fun aa M=>F _ _ <| XW fun ai G=>rg M fun u=>sS 1 4 underlying76 Z infFunc p Y Z Z Z Z <| sTk 0 p Z Z infFunc Z Z Z <| fun aj b s=>?_
 replace c:=Yd c b (by omega);replace f:=Yd f b (by omega);replace d:=Yd d b (by omega);clear b p;refine Yb fun ab O=>G _ _ ?_;refine XA ?_;with_reducible repeat first | refine Qg ?_ | refine Qd ?_
 have r:w.heap.size<=max A B+1:=by have J:=s.new 0 _ Z;simp only at J;omega
 exact QJ 0 O s Z Z Z underlying76 Z infFunc ⟨_,Z,⟨⟨p5,c5,p9,c9,N,W⟩,Z,⟨Yc c (fun k q _=>Zt r q),Yc f (fun k q _=>Zt r q),Yc d (fun k q _=>Zt r q),R⟩⟩,s.bel⟩
theorem Qi9 (m:List (Qe n)) (p:Option Addr) (c:Nat) (w:World) (h:(Qam n).In w All m [.slice p m.length c]) (r:Qcl m) :
 Calls prog 35 #[.agg #[.slice p m.length c]] w fun e w'=>∃ v,e=.returned v/\(∃ a' c',v=.agg #[.slice a' m.length c']/\(Qam n).In w' (Qaq w.heap.size) m [.slice a' m.length c'])/\Below w.heap.size w w':=by
 have L:Hid _:=h;have I:Hid _:=r;clear h r;refine Qv (n:=7) func35 Z Z Z <| fun a z=>?_
 have O:=Ye w;replace z:Fr 7 a [(0,.agg #[.slice p m.length c])]:=z;refine XW fun X G=>rg z fun D=>sB O Y Z Z <| fun W H A M=>Qf1 A Y Z <| fun S E b M=>Yb fun a4 R=>G _ _ <| XW fun K5 F=>rg R fun D=>sfModule0 Y Z Z <| Qdz 1 b Y Z Z Z Z ?_
 have o:max E H+1<=S.heap.size:=by have g:=(b.get 0 Z).lt;have h9:=(b.get 1 Z).lt;omega
 refine QjT cf59 b (Qbm (Qeo m _ _ _ (Ya L.out b.bel) (by have:=I.out.1;omega) (fun t N i w h=>QeB t i w h (I.out.2 t N)))) Y Z Z Z ?_;rintro v9 J ⟨x,B,rfl,d⟩ u j;replace d:=Yc d (O':=Qaq (max E H+1)) (fun k y _=>Zt o y);clear o u b;intro P g;refine Q9 (t:=6) (v:=.agg #[.slice x m.length B]) (w':=J) g Z Z Z (fun K U=>?_) ?_
 ·have V:P.tmps[5]?.getD undef=.slice x m.length B:=g.sl2 5 _ Z
  go_simp;exact U
 clear g;intro a9 C;refine St.go C <| sTk 0 j Z Z infModule Z Z Z <| fun Q q f=>?_
 replace d:=Yd d q (by omega);clear q j;refine Yb fun T s=>F _ _ ?_;refine XA ?_;with_reducible repeat first | refine Qg ?_ | refine Qd ?_
 have l:w.heap.size<=max E H+1:=by have g:=f.new 0 _ Z;simp only at g;omega
 exact QJ 0 s f Z Z Z underlying24 Z infModule ⟨_,Z,⟨x,B,Z,Yc d (fun k y _=>Zt l y)⟩,f.bel⟩
theorem QhM (x:MTo) (bl:Nat):x.form bl true=if rangeC x.block 0 ((bl:Int) - 1)=0 then handedC x.regs.length 16 x.args.length else rangeC x.block 0 ((bl:Int) - 1):=by
 unfold MTo.form rangeC handedC manyC;simp only[Bool.true_eq_false,if_false]
 repeat' split
 all_goals omega
theorem Qhn (x:MTo) (bl:Nat):x.form bl false=if x.block=0/\x.regs.length=0/\x.args.length=0 then 0 else 4:=by
 unfold MTo.form;simp only[if_true]
 repeat' split
 all_goals omega
theorem Qgn (e:Qax) (bl:Nat):e.form bl=if e.op<1\/3<e.op then 3 else if (e.op≠2/\e.a≠0)\/(e.op≠3/\0<e.args.length) then 4 else if 8<e.args.length then 2
 else if e.yes.form bl (e.op != 3)=0 then e.no.form bl (e.op==2) else e.yes.form bl (e.op != 3):=by
 unfold Qax.form;have i:decide (e.op≠3)=(e.op != 3):=by by_cases h:e.op=3<;>simp[h]
 have g:decide (e.op=2)=(e.op==2):=by by_cases h:e.op=2<;>simp[h]
 rw[i,g]
 by_cases c:e.op<1\/3<e.op
 ·simp[c]
 ·rw[Xr c,Xr c]
  by_cases b:(e.op≠2/\e.a≠0)\/(e.op≠3/\0<e.args.length)
  ·rw[Xs b,Xs (b.imp (fun h=>⟨h.2,h.1⟩) (fun h=>⟨h.2,h.1⟩))]
  ·rw[Xr b,Xr (fun h=>b (h.imp (fun h=>⟨h.2,h.1⟩) (fun h=>⟨h.2,h.1⟩)))]
   by_cases d:8<e.args.length
   ·simp[d]
   ·rw[Xr d,Xr d]
    by_cases f:e.yes.form bl (e.op != 3)=0
    ·simp[f]
    ·simp[f]
theorem QjX {c:Int}{e f:Option Addr}{b k a i:Nat}{fr:Int}{fp fq fb:Option Addr}{fl fc fm fd bl fe:Nat}:Rd prog 174 #[.agg #[.int .i64 fr,.slice fp fl fc,.slice fq fm fd,.slice fb bl fe],.agg #[.int .i64 c,.slice e b k,.slice f a i],.bool false] w (.int .i64 (if c=0/\b=0/\a=0 then 0 else 4)):=by
 unfold Rd;by_cases d:c=0
 ·subst d;by_cases h:b=0
  ·subst h;by_cases j:a=0
   ·subst j;rw[Xs ⟨Z,Z,Z⟩]
    go_enter func174,ntmps174
    go_wp2
    go_ret;exact⟨Z,QaB _ _ _⟩
   ·have g:(0:Int)<a:=by omega
    rw[Xr (by omega)]
    go_enter func174,ntmps174
    go_wp2
    go_ret;exact⟨Z,QaB _ _ _⟩
  ·have g:(0:Int)<b:=by omega
   rw[Xr (by omega)]
   go_enter func174,ntmps174
   go_wp2
   go_ret;exact⟨Z,QaB _ _ _⟩
 ·have g:(c==0)=false:=by simpa using d
  rw[Xr (by omega)]
  go_enter func174,ntmps174
  go_wp2
  go_ret;exact⟨Z,QaB _ _ _⟩
theorem QjB {a:Int}{h i:Option Addr}{b j c g:Nat}{fr:Int}{fp fq fb:Option Addr}{fl fc fm fd bl fe:Nat}(t:bl<2305843009213693952):Rd prog 174 #[.agg #[.int .i64 fr,.slice fp fl fc,.slice fq fm fd,.slice fb bl fe],.agg #[.int .i64 a,.slice h b j,.slice i c g],.bool true] w (.int .i64 (if rangeC a 0 ((bl:Int) - 1)=0 then handedC b 16 c else rangeC a 0 ((bl:Int) - 1))):=by
 have C:Hid (∀ d:World,Calls prog 186 #[.int .i64 a,.int .i64 0,.int .i64 ((bl:Int) - 1)] d fun e q=>e=.returned (.int .i64 (rangeC a 0 ((bl:Int) - 1)))/\Below d.heap.size d q):=fun d=>ZG;have n:Hid (∀ d:World,Calls prog 188 #[.slice h b j,.int .i64 16,.slice i c g] d fun e q=>e=.returned (.int .i64 (handedC b 16 c))/\Below d.heap.size d q):=fun d=>Qbe;generalize rangeC a 0 ((bl:Int) - 1)=v at C |-;generalize handedC b 16 c=u at n |-;have l:Blk ((w.alloc (.cells #[.int .i64 fr,.slice fp fl fc,.slice fq fm fd,.slice fb bl fe] 76)).alloc (.cells #[.int .i64 a,.slice h b j,.slice i c g] 69)) (w.heap.size+1) #[.int .i64 a,.slice h b j,.slice i c g] 69:=Blk.new2 _ _ _ _;have f:Hid (Below w.heap.size w ((w.alloc (.cells #[.int .i64 fr,.slice fp fl fc,.slice fq fm fd,.slice fb bl fe] 76)).alloc (.cells #[.int .i64 a,.slice h b j,.slice i c g] 69))):=QaB _ _ _;unfold Rd;by_cases p:v=0
 ·subst p;rw[Xs Z]
  go_enter func174,ntmps174
  go_wp2_with fail
  generalize ((w.alloc (.cells #[.int .i64 fr,.slice fp fl fc,.slice fq fm fd,.slice fb bl fe] 76)).alloc (.cells #[.int .i64 a,.slice h b j,.slice i c g] 69))=z at l f |-;refine(C.out _).mono ?_
  rintro e o ⟨rfl,k⟩;have r:=(k.block _ (XC l)).trans l;have m:Hid (Below w.heap.size w o):=f.out.trans (k.mono f.out.size);have B:=Qa r 1 _ Z;have D:=Qa r 2 _ Z;clear k C l f r;go_wp2_with fail
  refine(n.out _).mono ?_
  rintro e x ⟨rfl,s⟩;have y:Hid (Below w.heap.size w x):=m.out.trans (s.mono m.out.size);clear s n m;go_wp2
  go_ret;exact⟨Z,y.out⟩
 ·rw[Xr p]
  have A:(v==0)=false:=by simpa using p
  go_enter func174,ntmps174
  go_wp2_with fail
  generalize ((w.alloc (.cells #[.int .i64 fr,.slice fp fl fc,.slice fq fm fd,.slice fb bl fe] 76)).alloc (.cells #[.int .i64 a,.slice h b j,.slice i c g] 69))=z at l f |-;refine(C.out _).mono ?_
  rintro e o ⟨rfl,k⟩;have m:Hid (Below w.heap.size w o):=f.out.trans (k.mono f.out.size);clear k C n l f;go_wp2
  go_ret;exact⟨Z,m.out⟩
theorem Qdd {x:MTo}{f c:Option Addr}{e d:Nat}{fr:Int}{fp fq fb:Option Addr}{fl fc fm fd bl fe:Nat}(a:Bool)(b:bl<2305843009213693952) :
 Rd prog 174 #[.agg #[.int .i64 fr,.slice fp fl fc,.slice fq fm fd,.slice fb bl fe],.agg #[.int .i64 x.block,.slice f x.regs.length e,.slice c x.args.length d],.bool a] w (.int .i64 (x.form bl a)):=by
 cases a
 ·rw[Qhn];exact QjX
 ·rw[QhM];exact QjB b
theorem QiW {r x z y:Int}{m j g n D:Option Addr}{l p q i f d c k u F:Nat}{fr:Int}{fp fq fb:Option Addr}{fl fc fm fd bl fe:Nat}{B vn:Int}(M:¬ (r<1\/3<r)) (N:¬ ((r≠2/\x≠0)\/(r≠3/\0<u))) (O:¬ 8<u)
 (H:Hid (∀ wx:World,Calls prog 174 #[.agg #[.int .i64 fr,.slice fp fl fc,.slice fq fm fd,.slice fb bl fe],.agg #[.int .i64 z,.slice m l p,.slice j q i],.bool (r != 3)] wx fun e w'=>e=.returned (.int .i64 B)/\Below wx.heap.size wx w'))
 (A:Hid (∀ wx:World,Calls prog 174 #[.agg #[.int .i64 fr,.slice fp fl fc,.slice fq fm fd,.slice fb bl fe],.agg #[.int .i64 y,.slice g f d,.slice n c k],.bool (r==2)] wx fun e w'=>e=.returned (.int .i64 vn)/\Below wx.heap.size wx w')) :
 Rd prog 145 #[.agg #[.int .i64 fr,.slice fp fl fc,.slice fq fm fd,.slice fb bl fe],.agg #[.int .i64 r,.int .i64 x,.int .i64 z,.slice m l p,.slice j q i,.int .i64 y,.slice g f d,.slice n c k,.slice D u F]] w (.int .i64 (if B=0 then vn else B)):=by
 have a:Blk ((w.alloc (.cells #[.int .i64 fr,.slice fp fl fc,.slice fq fm fd,.slice fb bl fe] 76)).alloc (.cells #[.int .i64 r,.int .i64 x,.int .i64 z,.slice m l p,.slice j q i,.int .i64 y,.slice g f d,.slice n c k,.slice D u F] 71)) w.heap.size #[.int .i64 fr,.slice fp fl fc,.slice fq fm fd,.slice fb bl fe] 76:=Blk.new1 _ _ _ _ _;have b:Blk ((w.alloc (.cells #[.int .i64 fr,.slice fp fl fc,.slice fq fm fd,.slice fb bl fe] 76)).alloc (.cells #[.int .i64 r,.int .i64 x,.int .i64 z,.slice m l p,.slice j q i,.int .i64 y,.slice g f d,.slice n c k,.slice D u F] 71)) (w.heap.size+1) #[.int .i64 r,.int .i64 x,.int .i64 z,.slice m l p,.slice j q i,.int .i64 y,.slice g f d,.slice n c k,.slice D u F] 71:=Blk.new2 _ _ _ _;have v:Hid (Below w.heap.size w ((w.alloc (.cells #[.int .i64 fr,.slice fp fl fc,.slice fq fm fd,.slice fb bl fe] 76)).alloc (.cells #[.int .i64 r,.int .i64 x,.int .i64 z,.slice m l p,.slice j q i,.int .i64 y,.slice g f d,.slice n c k,.slice D u F] 71))):=QaB _ _ _;unfold Rd;have G:∀ {o:Int},r=o->¬ (o≠2/\x≠0)->¬ (o≠3/\0<u)->(o=1\/o=2\/o=3):=fun h _ _=>by omega
 rcases (show r=1\/r=2\/r=3 by omega) with rfl | rfl | rfl
 ·obtain rfl:x=0:=by omega
  obtain rfl:u=0:=by omega
  clear M N O G;go_enter func145,ntmps145
  go_wp2_with fail
  generalize ((w.alloc (.cells #[.int .i64 fr,.slice fp fl fc,.slice fq fm fd,.slice fb bl fe] 76)).alloc (.cells #[.int .i64 1,.int .i64 0,.int .i64 z,.slice m l p,.slice j q i,.int .i64 y,.slice g f d,.slice n c k,.slice D 0 F] 71))=X at a b v |-;refine(H.out _).mono ?_
  rintro e I ⟨rfl,s⟩;replace a:=(s.block _ (XC a)).trans a;replace b:=(s.block _ (XC b)).trans b;have t:Hid (Below w.heap.size w I):=v.out.trans (s.mono v.out.size);clear s H v;by_cases C:B=0
  ·subst C;have V:=Qa a 0 _ Z;have P:=Qa a 1 _ Z;have Q:=Qa a 2 _ Z;have W:=Qa a 3 _ Z;have S:=Qa b 0 _ Z;have T:=Qa b 5 _ Z;have U:=Qa b 6 _ Z;have R:=Qa b 7 _ Z;clear a b;go_wp2_with fail
   refine(A.out _).mono ?_
   rintro e J ⟨rfl,E⟩;have K:Hid (Below w.heap.size w J):=t.out.trans (E.mono t.out.size);clear E A t;go_wp2
   go_ret;exact⟨Z,K.out⟩
  ·have L:(B==0)=false:=by simpa using C
   clear A a b;go_wp2
   go_ret;exact⟨Z,t.out⟩
 ·obtain rfl:u=0:=by omega
  clear M N O G;go_enter func145,ntmps145
  go_wp2_with fail
  generalize ((w.alloc (.cells #[.int .i64 fr,.slice fp fl fc,.slice fq fm fd,.slice fb bl fe] 76)).alloc (.cells #[.int .i64 2,.int .i64 x,.int .i64 z,.slice m l p,.slice j q i,.int .i64 y,.slice g f d,.slice n c k,.slice D 0 F] 71))=X at a b v |-;refine(H.out _).mono ?_
  rintro e I ⟨rfl,s⟩;replace a:=(s.block _ (XC a)).trans a;replace b:=(s.block _ (XC b)).trans b;have t:Hid (Below w.heap.size w I):=v.out.trans (s.mono v.out.size);clear s H v;by_cases C:B=0
  ·subst C;have V:=Qa a 0 _ Z;have P:=Qa a 1 _ Z;have Q:=Qa a 2 _ Z;have W:=Qa a 3 _ Z;have S:=Qa b 0 _ Z;have T:=Qa b 5 _ Z;have U:=Qa b 6 _ Z;have R:=Qa b 7 _ Z;clear a b;go_wp2_with fail
   refine(A.out _).mono ?_
   rintro e J ⟨rfl,E⟩;have K:Hid (Below w.heap.size w J):=t.out.trans (E.mono t.out.size);clear E A t;go_wp2
   go_ret;exact⟨Z,K.out⟩
  ·have L:(B==0)=false:=by simpa using C
   clear A a b;go_wp2
   go_ret;exact⟨Z,t.out⟩
 ·obtain rfl:x=0:=by omega
  have g8:¬ (8:Int)<u:=by omega
  clear M N O G;go_enter func145,ntmps145
  go_wp2_with fail
  generalize ((w.alloc (.cells #[.int .i64 fr,.slice fp fl fc,.slice fq fm fd,.slice fb bl fe] 76)).alloc (.cells #[.int .i64 3,.int .i64 0,.int .i64 z,.slice m l p,.slice j q i,.int .i64 y,.slice g f d,.slice n c k,.slice D u F] 71))=X at a b v |-;refine(H.out _).mono ?_
  rintro e I ⟨rfl,s⟩;replace a:=(s.block _ (XC a)).trans a;replace b:=(s.block _ (XC b)).trans b;have t:Hid (Below w.heap.size w I):=v.out.trans (s.mono v.out.size);clear s H v;by_cases C:B=0
  ·subst C;have V:=Qa a 0 _ Z;have P:=Qa a 1 _ Z;have Q:=Qa a 2 _ Z;have W:=Qa a 3 _ Z;have S:=Qa b 0 _ Z;have T:=Qa b 5 _ Z;have U:=Qa b 6 _ Z;have R:=Qa b 7 _ Z;clear a b;go_wp2_with fail
   refine(A.out _).mono ?_
   rintro e J ⟨rfl,E⟩;have K:Hid (Below w.heap.size w J):=t.out.trans (E.mono t.out.size);clear E A t;go_wp2
   go_ret;exact⟨Z,K.out⟩
  ·have L:(B==0)=false:=by simpa using C
   clear A a b;go_wp2
   go_ret;exact⟨Z,t.out⟩
theorem QeS {a b x t:Int}{o l j p u:Option Addr}{n q r k i f e m c y:Nat}{fr:Int}{fp fq fb:Option Addr}{fl fc fm fd bl fe:Nat}{v:Int}(h:(v=3/\(a<1\/3<a))\/(v=4/\¬ (a<1\/3<a)/\((a≠2/\b≠0)\/(a≠3/\0<c)))\/(v=2/\¬ (a<1\/3<a)/\¬ ((a≠2/\b≠0)\/(a≠3/\0<c))/\8<c)) :
 Rd prog 145 #[.agg #[.int .i64 fr,.slice fp fl fc,.slice fq fm fd,.slice fb bl fe],.agg #[.int .i64 a,.int .i64 b,.int .i64 x,.slice o n q,.slice l r k,.int .i64 t,.slice j i f,.slice p e m,.slice u c y]] w (.int .i64 v):=by
 unfold Rd;rcases h with ⟨rfl,h | h⟩|⟨rfl,d,h⟩|⟨rfl,d,z,A⟩
 ·go_enter func145,ntmps145
  go_wp2
  go_ret;exact⟨Z,QaB _ _ _⟩
 ·have g:¬ a<1:=by omega
  go_enter func145,ntmps145
  go_wp2
  go_ret;exact⟨Z,QaB _ _ _⟩
 ·rcases (show a=1\/a=2\/a=3 by omega) with rfl | rfl | rfl
  ·by_cases s:b=0
   ·subst s;have g:(0:Int)<c:=by omega
    clear h d;go_enter func145,ntmps145
    go_wp2
    go_ret;exact⟨Z,QaB _ _ _⟩
   ·have g:(b==0)=false:=by simpa using s
    clear h d;go_enter func145,ntmps145
    go_wp2
    go_ret;exact⟨Z,QaB _ _ _⟩
  ·have g:(0:Int)<c:=by omega
   clear h d;go_enter func145,ntmps145
   go_wp2
   go_ret;exact⟨Z,QaB _ _ _⟩
  ·have g:(b==0)=false:=by simp;omega
   clear h d;go_enter func145,ntmps145
   go_wp2
   go_ret;exact⟨Z,QaB _ _ _⟩
 ·obtain rfl:a=3:=by omega
  obtain rfl:b=0:=by omega
  have g:(8:Int)<c:=by omega
  clear d z A;go_enter func145,ntmps145
  go_wp2
  go_ret;exact⟨Z,QaB _ _ _⟩
theorem Qit {x:Qax}{e:EP}{fr:Int}{fp fq fb:Option Addr}{fl fc fm fd bl fe:Nat}(g:x.yes.regs.length<2305843009213693952/\x.yes.args.length<2305843009213693952/\x.no.regs.length<2305843009213693952/\x.no.args.length<2305843009213693952) (c:bl<2305843009213693952):Rd prog 145 #[.agg #[.int .i64 fr,.slice fp fl fc,.slice fq fm fd,.slice fb bl fe],.agg #[.int .i64 x.op,.int .i64 x.a,.int .i64 x.yes.block,.slice e.pYR x.yes.regs.length e.cYR,.slice e.pYA x.yes.args.length e.cYA,.int .i64 x.no.block,.slice e.pNR x.no.regs.length e.cNR,.slice e.pNA x.no.args.length e.cNA,.slice e.pA x.args.length e.cA]] w (.int .i64 (x.form bl)):=by
 rw[Qgn]
 by_cases b:x.op<1\/3<x.op
 ·rw[Xs b];exact QeS (.inl ⟨Z,b⟩)
 rw[Xr b]
 by_cases d:(x.op≠2/\x.a≠0)\/(x.op≠3/\0<x.args.length)
 ·rw[Xs d];exact QeS (.inr (.inl ⟨Z,b,d⟩))
 rw[Xr d]
 by_cases f:8<x.args.length
 ·rw[Xs f];exact QeS (.inr (.inr ⟨Z,b,d,f⟩))
 rw[Xr f]
 exact QiW b d f (fun _=>Qdd _ c) (fun _=>Qdd _ c)
def Qkf (f:Nat):Prop:=∀ (n:Nat) (t:TT n) (a:Option Addr) (c:Nat) (regs:Int) (w:World),TIn w All t a->t.count<=100000 ->
 Calls prog f #[Tv t a c,.int .i64 regs] w fun e w'=>e=.returned (.int .i64 (t.check regs))/\Below w.heap.size w w'
theorem Qfc (k r:Int) (a:Option Addr) (len c:Nat) (regs:Int) (w:World) :
 Calls prog 190 #[.agg #[.int .i64 k,.int .i64 r,.slice a len c],.int .i64 regs] w fun e w'=>e=.returned (.int .i64 (ownC k r len regs))/\Below w.heap.size w w':=by
 rcases (show k<1\/(¬ k<1/\4<k)\/k=1\/k=2\/k=4\/k=3 by omega) with b | ⟨b,f⟩ | rfl | rfl | rfl | rfl
 ·rw[show ownC _ _ len regs=3 by unfold ownC;repeat' split;all_goals omega]
  go_enter func190,ntmps190
  go_wp2_with fail
  go_ret;exact⟨Z,(Below.refl _ w).alloc Ze _⟩
 ·rw[show ownC _ _ len regs=3 by unfold ownC;repeat' split;all_goals omega]
  go_enter func190,ntmps190
  go_wp2_with fail
  go_ret;exact⟨Z,(Below.refl _ w).alloc Ze _⟩
 ·rcases (show r≠0\/(r=0/\0<len)\/(r=0/\len=0) by omega) with b | ⟨rfl,b⟩|⟨rfl,b⟩
  ·have d:(r != 0)=true:=by simpa using b
   rw[show ownC _ _ len regs=4 by unfold ownC;repeat' split;all_goals omega]
   go_enter func190,ntmps190
   go_wp2_with fail
   go_ret;exact⟨Z,(Below.refl _ w).alloc Ze _⟩
  ·have d:(0:Int)<(len:Int):=by omega
   rw[show ownC _ _ len regs=4 by unfold ownC;repeat' split;all_goals omega]
   go_enter func190,ntmps190
   go_wp2_with fail
   go_ret;exact⟨Z,(Below.refl _ w).alloc Ze _⟩
  ·have d:¬ (0:Int)<(len:Int):=by omega
   have g:¬ (8:Int)<(len:Int):=by omega
   rw[show ownC _ _ len regs=0 by unfold ownC;repeat' split;all_goals omega]
   go_enter func190,ntmps190
   go_wp2_with fail
   go_ret;exact⟨Z,(Below.refl _ w).alloc Ze _⟩
 ·rcases (show 0<len\/(len=0/\r<0)\/(len=0/\0<=r/\regs<=r)\/(len=0/\0<=r/\r<regs) by omega) with b | ⟨b,f⟩|⟨b,f,h⟩|⟨b,f,h⟩
  ·have d:(0:Int)<(len:Int):=by omega
   rw[show ownC _ _ len regs=4 by unfold ownC;repeat' split;all_goals omega]
   go_enter func190,ntmps190
   go_wp2_with fail
   go_ret;exact⟨Z,(Below.refl _ w).alloc Ze _⟩
  ·have d:¬ (0:Int)<(len:Int):=by omega
   have g:¬ (8:Int)<(len:Int):=by omega
   rw[show ownC _ _ len regs=1 by unfold ownC;repeat' split;all_goals omega]
   go_enter func190,ntmps190
   go_wp2_with fail
   go_ret;exact⟨Z,(Below.refl _ w).alloc Ze _⟩
  ·have d:¬ (0:Int)<(len:Int):=by omega
   have g:¬ (8:Int)<(len:Int):=by omega
   rw[show ownC _ _ len regs=1 by unfold ownC;repeat' split;all_goals omega]
   go_enter func190,ntmps190
   go_wp2_with fail
   go_ret;exact⟨Z,(Below.refl _ w).alloc Ze _⟩
  ·have d:¬ (0:Int)<(len:Int):=by omega
   have g:¬ (8:Int)<(len:Int):=by omega
   rw[show ownC _ _ len regs=0 by unfold ownC;repeat' split;all_goals omega]
   go_enter func190,ntmps190
   go_wp2_with fail
   go_ret;exact⟨Z,(Below.refl _ w).alloc Ze _⟩
 ·rcases (show 0<len\/(len=0/\r<0)\/(len=0/\0<=r/\regs<=r)\/(len=0/\0<=r/\r<regs) by omega) with b | ⟨b,f⟩|⟨b,f,h⟩|⟨b,f,h⟩
  ·have d:(0:Int)<(len:Int):=by omega
   rw[show ownC _ _ len regs=4 by unfold ownC;repeat' split;all_goals omega]
   go_enter func190,ntmps190
   go_wp2_with fail
   go_ret;exact⟨Z,(Below.refl _ w).alloc Ze _⟩
  ·have d:¬ (0:Int)<(len:Int):=by omega
   have g:¬ (8:Int)<(len:Int):=by omega
   rw[show ownC _ _ len regs=1 by unfold ownC;repeat' split;all_goals omega]
   go_enter func190,ntmps190
   go_wp2_with fail
   go_ret;exact⟨Z,(Below.refl _ w).alloc Ze _⟩
  ·have d:¬ (0:Int)<(len:Int):=by omega
   have g:¬ (8:Int)<(len:Int):=by omega
   rw[show ownC _ _ len regs=1 by unfold ownC;repeat' split;all_goals omega]
   go_enter func190,ntmps190
   go_wp2_with fail
   go_ret;exact⟨Z,(Below.refl _ w).alloc Ze _⟩
  ·have d:¬ (0:Int)<(len:Int):=by omega
   have g:¬ (8:Int)<(len:Int):=by omega
   rw[show ownC _ _ len regs=0 by unfold ownC;repeat' split;all_goals omega]
   go_enter func190,ntmps190
   go_wp2_with fail
   go_ret;exact⟨Z,(Below.refl _ w).alloc Ze _⟩
 ·rcases (show 8<len\/(len<=8/\r<0)\/(len<=8/\0<=r/\regs<=r)\/(len<=8/\0<=r/\r<regs) by omega) with b | ⟨b,f⟩|⟨b,f,h⟩|⟨b,f,h⟩
  ·have d:(8:Int)<(len:Int):=by omega
   rw[show ownC _ _ len regs=2 by unfold ownC;repeat' split;all_goals omega]
   go_enter func190,ntmps190
   go_wp2_with fail
   go_ret;exact⟨Z,(Below.refl _ w).alloc Ze _⟩
  ·have d:¬ (8:Int)<(len:Int):=by omega
   rw[show ownC _ _ len regs=1 by unfold ownC;repeat' split;all_goals omega]
   go_enter func190,ntmps190
   go_wp2_with fail
   go_ret;exact⟨Z,(Below.refl _ w).alloc Ze _⟩
  ·have d:¬ (8:Int)<(len:Int):=by omega
   rw[show ownC _ _ len regs=1 by unfold ownC;repeat' split;all_goals omega]
   go_enter func190,ntmps190
   go_wp2_with fail
   go_ret;exact⟨Z,(Below.refl _ w).alloc Ze _⟩
  ·have d:¬ (8:Int)<(len:Int):=by omega
   rw[show ownC _ _ len regs=0 by unfold ownC;repeat' split;all_goals omega]
   go_enter func190,ntmps190
   go_wp2_with fail
   go_ret;exact⟨Z,(Below.refl _ w).alloc Ze _⟩
theorem firstCode_any:∀ n,QgF 182 n:=by
 intro n
 induction n with
 | zero=>intro t;exact Empty.elim t
 | succ n ih =>
   intro t a c b w T I;have IH:Hid (QgF 182 n):=ih;clear ih;have V:Hid (LIn w All t.2.2 a):=T.list;have E:Hid (∀ x∈t.2.2,x.count<=100000):=fun x p=>by have:=t.count_kid p;omega
   have D:t.2.2.length<=100000:=by have:=t.len_lt_count;rw[t.len_eq] at this;omega
   have h:Hid (t.fault b=if ownC t.kind t.r t.2.2.length b≠0 then ownC t.kind t.r t.2.2.length b else QV (TT.fault b) t.2.2):=rfl;generalize t.fault b=d at h |-;simp only[Tv,TT.len_eq]
   generalize t.2.2=l at V E h D |-;generalize t.kind=k at h |-;generalize t.r=r at h |-;clear T I t;go_enter func182,ntmps182
   go_wp2_with fail
   have Q:Hid (Bx w (w.alloc (.cells #[.int .i64 k,.int .i64 r,.slice a l.length c] 92)) k r a l.length c):=Bx.start w k r a l.length c;refine(Qfc k r a l.length c b _).mono ?_
   rintro e w1 ⟨rfl,b1⟩;have f:Hid (Bx w w1 k r a l.length c):=Q.out.below b1;clear Q b1;by_cases u:ownC k r l.length b=0
   ·have R:Hid (d=QV (TT.fault b) l):=by
     have:=h.out
     rw[u] at this
     show d=QV (TT.fault b) l;simpa using this
    rw[u]
    clear u h;have e2:w1.cell? ⟨w.heap.size,2,none⟩=some (.slice a l.length c):=Qa f.out.box 2 _ Z;go_wp2_with fail
    clear e2;go_loopw [18] (fun i wr=>∃ q:Nat,q<=l.length/\i=.int .i64 q/\(∀ (j:Nat) x,j<q->l[j]?=some x->x.fault b=0)/\Bx w wr k r a l.length c) (fun i _=>l.length - (intOf i).toNat)
    case atStart=>exact⟨0,Xb _,Z,fun j x hj=>by omega,f.out⟩
    case round =>
     clear f;obtain⟨q,hq,rfl,m,H⟩:=hrel
     have A:Hid (∀ (j:Nat) x,j<q->l[j]?=some x->x.fault b=0):=m;have f:Hid (Bx w wr k r a l.length c):=H;clear m;by_cases L:q<l.length
     ·have p:l[q]?=some l[q]:=Zg L;generalize l[q]=x at p;obtain⟨g,o,M,N,rfl,_,W,d1,S,U⟩:=LIn.at (V.out.below H.bel) p
      have F:Hid (l[q]?=some x):=p;have aa:(0:Int)<=q:=by omega
      have O:(q:Int)<l.length:=by omega
      have C:Hid (∀ s,Below wr.heap.size wr s->Calls prog 182 #[Tv x M N,.int .i64 b] s fun e w'=>e=.returned (.int .i64 (x.fault b))/\Below s.heap.size s w') :=
       fun s hb=>IH.out x M N b s (U.below hb) (E.out x (Zm p))
      clear H U p;simp only[Tv] at C
      generalize x.kind=kx at C W;generalize x.r=rx at C d1;generalize x.len=lx at C S;go_wp2_with fail
      have P:Below wr.heap.size wr (wr.alloc (.cells #[.int .i64 kx,.int .i64 rx,.slice M lx N] 92)):=(Below.refl _ wr).alloc Ze _;refine(C.out _ P).mono ?_
      rintro e w2 ⟨rfl,X⟩;have X2:Hid (Bx w w2 k r (some ⟨g,o,none⟩) l.length c):=(f.out.below P).below X;clear f X P C W d1 S;by_cases z:x.fault b=0
      ·have A2:Hid (∀ (j:Nat) x,j<q+1->l[j]?=some x->x.fault b=0):=fun j y hj B=>by
        by_cases e:j=q
        ·subst e;rw[F.out] at B
         cases B
         exact z
        ·exact A.out j y (by omega) B
       rw[z]
       clear z A;go_wp2
       go_roundw
       case rel=>exact⟨q+1,by omega,by go_num,A2.out,X2.out⟩
       case measure=>simp[intOf];omega
      ·have G:Hid (d=x.fault b):=R.out.trans (Qek F.out A.out z);have J:(x.fault b != 0)=true:=by simpa using z
       generalize x.fault b=v at J G |-;clear z A;go_wp2
       go_ret;exact⟨by rw[G.out];rfl,X2.out.bel⟩
     ·have G:Hid (d=0):=R.out.trans (QcJ (fun j y B=>A.out j y (by have:=(Zi B).1;omega) B));have O:¬ (q:Int)<l.length:=by omega
      clear H A;go_wp2
      go_ret;exact⟨by rw[G.out];rfl,f.out.bel⟩
   ·have R:Hid (d=ownC k r l.length b):=by
     have:=h.out
     rwa [Xs u] at this
    have K:(ownC k r l.length b != 0)=true:=by simpa using u
    generalize ownC k r l.length b=v at K R |-;clear u h;go_wp2_with fail
    go_ret;exact⟨by rw[R.out];rfl,f.out.bel⟩
theorem QhR {l:List (TT n)}{k r:Int}:m<TT.height (n:=n+1) (mkT k r l)↔∃ (i:Nat) (x:TT n),l[i]?=some x/\m<1+x.height:=by
 rw[<-Nat.not_le,Z0]
 constructor
 ·intro h;simp only[Classical.not_forall] at h
  obtain⟨x,a,b⟩:=h
  obtain⟨i,c,rfl⟩:=List.mem_iff_getElem.1 a
  exact⟨i,_,Zg c,by omega⟩
 ·rintro ⟨i,x,a,b⟩ h
  have:=h x (Zm (l:=l) a)
  omega
theorem deeper_any:∀ (n:Nat) (t:TT n) (a:Option Addr) (c:Nat) (w:World) (m:Nat),TIn w All t a->t.count<=100000->m<=4 ->
 Calls prog 181 #[Tv t a c,.int .i64 m] w fun e w'=>e=.returned (.bool (decide (m<t.height)))/\Below w.heap.size w w':=by
 intro n
 induction n with
 | zero=>intro t;exact Empty.elim t
 | succ n ih =>
   intro t a c w m S G aa
   have IH:Hid (∀ (t:TT n) (a:Option Addr) (c:Nat) (w:World) (m:Nat),TIn w All t a->t.count<=100000->m<=4 ->
    Calls prog 181 #[Tv t a c,.int .i64 m] w fun e w'=>e=.returned (.bool (decide (m<t.height)))/\Below w.heap.size w w'):=ih
   clear ih;have T:Hid (LIn w All t.2.2 a):=S.list;have z:Hid (∀ x∈t.2.2,x.count<=100000):=fun x b=>by have:=t.count_kid b;omega
   have u:t.2.2.length<=100000:=by have:=t.len_lt_count;rw[t.len_eq] at this;omega
   have D:Hid (m<t.height↔∃ (i:Nat) (x:TT n),t.2.2[i]?=some x/\m<1+x.height):=QhR;generalize t.height=h at D |-;simp only[Tv,TT.len_eq]
   generalize t.2.2=l at T z D u |-;generalize t.kind=k;generalize t.r=r;clear S G t;go_enter func181,ntmps181
   go_wp2_with fail
   have H:Hid (Bx w (w.alloc (.cells #[.int .i64 k,.int .i64 r,.slice a l.length c] 92)) k r a l.length c):=Bx.start w k r a l.length c;generalize w.alloc (.cells #[.int .i64 k,.int .i64 r,.slice a l.length c] 92)=w1 at H |-;go_loopw [10] (fun i wr=>∃ q:Nat,q<=l.length/\i=.int .i64 q/\(∀ (j:Nat) x,j<q->l[j]?=some x->1+x.height<=m)/\Bx w wr k r a l.length c) (fun i _=>l.length - (intOf i).toNat)
   case atStart=>exact⟨0,Xb _,Z,fun j x hj=>by omega,H.out⟩
   case round =>
    clear H;obtain⟨q,hq,rfl,d,s⟩:=hrel
    have A:Hid (∀ (j:Nat) x,j<q->l[j]?=some x->1+x.height<=m):=d;have E:Hid (Bx w wr k r a l.length c):=s;clear d;by_cases J:q<l.length
    ·have b:l[q]?=some l[q]:=Zg J;generalize l[q]=x at b;obtain⟨g,o,L,M,rfl,_,O,X,R,I⟩:=LIn.at (T.out.below s.bel) b
     have hg:g<wr.heap.size:=Xi wr ⟨g,o+q*3,none⟩ O;have B:Hid (l[q]?=some x):=b;have ab:(0:Int)<=q:=by omega
     have N:(q:Int)<l.length:=by omega
     by_cases U:m=0
     ·have p:Hid (m<h):=D.out.2 ⟨q,x,b,by omega⟩;have K:((m:Int)==0)=true:=by simp;omega
      clear s I b U;go_wp2_with fail
      go_ret;exact⟨by rw[Xt p.out];rfl,(E.out.alloc _).bel⟩
     ·have K:((m:Int)==0)=false:=by simp;omega
      have C:Hid (∀ f,Below wr.heap.size wr f->Calls prog 181 #[Tv x L M,.int .i64 ((m:Int) - 1)] f fun e w'=>e=.returned (.bool (decide (m - 1<x.height)))/\Below f.heap.size f w'):=fun f hb=>by
       have:=IH.out x L M f (m - 1) (I.below hb) (z.out x (Zm b)) (by omega)
       rw[show ((m - 1:Nat):Int)=(m:Int) - 1 by omega] at this
       exact this
      have ac:(1:Int)<=m:=by omega
      have ad:(m:Int)<=4:=by omega
      have v:Hid (1<=m):=by show 1<=m;omega
      clear s I b U;simp only[Tv] at C
      generalize x.kind=kx at C O;generalize x.r=rx at C X;generalize x.len=lx at C R;go_wp2_with fail
      have P:Below wr.heap.size wr (wr.alloc (.cells #[.int .i64 kx,.int .i64 rx,.slice L lx M] 92)):=(Below.refl _ wr).alloc Ze _;refine(C.out _ P).mono ?_
      rintro e w2 ⟨rfl,V⟩;have W:Hid (Bx w w2 k r (some ⟨g,o,none⟩) l.length c):=(E.out.below P).below V;clear E V P C O X R;by_cases F:m - 1<x.height
      ·have p:Hid (m<h):=D.out.2 ⟨q,x,B.out,by have:=v.out;omega⟩;rw[Xt F]
       clear F;go_wp2
       go_ret;exact⟨by rw[Xt p.out];rfl,W.out.bel⟩
      ·have A2:Hid (∀ (j:Nat) x,j<q+1->l[j]?=some x->1+x.height<=m):=fun j y hj Q=>by
        by_cases e:j=q
        ·subst e;rw[B.out] at Q
         cases Q
         have:=v.out
         omega
        ·exact A.out j y (by omega) Q
       rw[Xu F]
       clear F A;go_wp2
       go_roundw
       case rel=>exact⟨q+1,by omega,by go_num,A2.out,W.out⟩
       case measure=>simp[intOf];omega
    ·have p:Hid (¬ m<h):=fun hc=>by
      obtain⟨i,x,b,h3⟩:=D.out.1 hc
      have:=A.out i x (by have:=(Zi b).1;omega) b
      omega
     have N:¬ (q:Int)<l.length:=by omega
     clear s A;go_wp2
     go_ret;exact⟨by rw[Xu p.out];rfl,E.out.bel⟩
theorem check_any:Qkf 167:=by
 intro n t a c b w o q
 have j:Hid (∀ d,Below w.heap.size w d->Calls prog 181 #[Tv t a c,.int .i64 4] d fun e s=>e=.returned (.bool (decide (4<t.height)))/\Below d.heap.size d s) :=
  fun d p=>deeper_any n t a c d 4 (o.below p) q (by omega)
 have g:Hid (∀ d,Below w.heap.size w d->Calls prog 182 #[Tv t a c,.int .i64 b] d fun e s=>e=.returned (.int .i64 (t.fault b))/\Below d.heap.size d s) :=
  fun d p=>firstCode_any n t a c b d (o.below p) q
 have E:Hid (t.check b=if 4<t.height then 19 else t.fault b):=rfl;generalize t.check b=l at E |-;clear o q;simp only[Tv] at j g |-
 generalize t.kind=k at j g |-;generalize t.r=r at j g |-;generalize t.len=f at j g |-;generalize t.fault b=v at g E;go_enter func167,ntmps167
 go_wp2_with fail
 have m:=Bx.start w k r a f c;generalize w.alloc (.cells #[.int .i64 k,.int .i64 r,.slice a f c] 92)=F at m |-;refine(j.out _ m.bel).mono ?_
 rintro e z ⟨rfl,x⟩;have h:Hid (Bx w z k r a f c):=m.below x;have B:=Qa h.out.box 0 _ Z;have A:=Qa h.out.box 1 _ Z;have y:=Qa h.out.box 2 _ Z;clear m x j;by_cases i:4<t.height
 ·rw[Xt i]
  have R:Hid (l=19):=by have:=E.out;rwa [Xs i] at this
  clear i;go_wp2_with fail
  go_ret;exact⟨by rw[R.out];rfl,h.out.bel⟩
 ·rw[Xu i]
  have R:Hid (l=v):=by have:=E.out;rwa [Xr i] at this
  clear i;go_wp2_with fail
  refine(g.out _ h.out.bel).mono ?_
  rintro e C ⟨rfl,u⟩;have D:Hid (Bx w C k r a f c):=h.out.below u;clear h u g B A y;go_wp2_with fail
  go_ret;exact⟨by rw[R.out];rfl,D.out.bel⟩
theorem XD:type_of% @eq_of_beq:=@eq_of_beq
theorem XE:type_of% @ne_of_beq_false:=@ne_of_beq_false
theorem XH:type_of% @bne_eq_false_iff_eq:=@bne_eq_false_iff_eq
abbrev Qar (p:Int × Int):Value:=.agg #[.int .i64 p.1,.int .i64 p.2]
def atF (c p:Int):Int × Int:=if c=0 then (0,0) else (c,p)
theorem Qbw {α:Type}{f:Nat->α->Int × Int}:∀ {l:List α}{j:Nat},firstF (fun i x=>atF (f i x).1 (f i x).2) j l=firstF f j l
 | [],_=>rfl
 | x::xs,j=>by
   simp only[firstF,atF]
   by_cases h:(f j x).1=0
   ·simp only[h,if_true,ne_eq,not_true_eq_false,if_false]
    exact Qbw
   ·simp[h]
def Qe.code {n:Nat}(f:Nat) (x:Qe n):Int :=
 if x.regs<0\/6<x.regs then 1 else if listC x.regs x.params≠0 then listC x.regs x.params else if listC x.regs x.results≠0 then listC x.regs x.results
 else if x.blocks.length<1\/12<x.blocks.length then 2 else if f=0/\¬ (x.regs=0/\x.params.length=0/\x.results.all (fun t=>t.kind==1)=true) then 18 else 0
theorem Qe.fault_eq (a f:Nat) (x:Qe n):Qe.fault a f x=if x.code f=0 then firstF (fun b y=>Qk.fault a f x b y) 0 x.blocks else (x.code f,10000*(f:Int)+9999):=by
 unfold Qe.fault Qe.code;generalize listC x.regs x.params=c;generalize listC x.regs x.results=e;generalize firstF (fun b y=>Qk.fault a f x b y) 0 x.blocks=d;repeat' split
 all_goals first | rfl | (exfalso;omega) | contradiction
def Qk.code' {n:Nat}(fn:Qe n) (b:Nat) (x:Qk n):Int :=
 if x.regs<fn.regs\/16<x.regs then 1 else if listC x.regs x.params≠0 then listC x.regs x.params
 else if b=0/\(x.regs≠fn.regs\/QdR x.params fn.params=false) then 9 else if 40<x.code.length then 2 else 0
theorem Qk.fault_eq (a f:Nat) (fn:Qe n) (b:Nat) (x:Qk n):Qk.fault a f fn b x =
 if x.code' fn b=0 then (if (firstF (fun i y=>(Qz.form a y,(10000*f+100*b+i:Int))) 0 x.code).1=0 then atF (x.fin.form fn.blocks.length) (10000*(f:Int)+100*(b:Int)+91)
  else firstF (fun i y=>(Qz.form a y,(10000*f+100*b+i:Int))) 0 x.code) else (x.code' fn b,10000*(f:Int)+100*(b:Int)+90):=by
 unfold Qk.fault Qk.code' atF;generalize firstF (fun i y=>(Qz.form a y,(10000*f+100*b+i:Int))) 0 x.code=d;generalize x.fin.form fn.blocks.length=e;generalize listC x.regs x.params=c;repeat' split
 all_goals first | rfl | (exfalso;omega) | contradiction
def QeI {n:Nat}:Nat->List (TT n)->Int
 | _,[]=>-1
 | i,t::ts=>if t.kind=1 then QeI (i+1) ts else (i:Int)
theorem QhK {n:Nat}:∀ (l:List (TT n)) (i j:Nat) (x:TT n),l[i]?=some x->(∀ k y,k<i->l[k]?=some y->y.kind=1)->¬ x.kind=1->QeI j l=((j+i:Nat):Int)
 | [],i,j,x,h,_,_=>by simp at h
 | y::ys,0,j,x,h,_,hx=>by
   simp at h;subst h
   simp[QeI,hx]
 | y::ys,i+1,j,x,h,hz,hx=>by
   have b:y.kind=1:=hz 0 y (by omega) Z;simp only[QeI,b,if_true]
   rw[QhK ys i (j+1) x (by simpa using h) (fun k z c a=>hz (k+1) z (by omega) (by simpa using a)) hx]
   congr 1;omega
theorem QhU {n:Nat}:∀ (l:List (TT n)) (j:Nat),(∀ (k:Nat) y,l[k]?=some y->y.kind=1)->QeI j l=-1
 | [],_,_=>rfl
 | y::ys,j,h=>by
   have a:y.kind=1:=h 0 y Z;simp only[QeI,a,if_true]
   exact QhU ys (j+1) (fun k z b=>h (k+1) z (by simpa using b))
theorem QfF {n:Nat}:∀ (l:List (TT n)) (j:Nat),(0<=QeI j l)↔¬ l.all (fun t=>t.kind==1)=true
 | [],j=>by simp[QeI]
 | y::ys,j=>by
   by_cases h:y.kind=1
   ·simp only[QeI,h,if_true,List.all_cons,beq_self_eq_true,Bool.true_and]
    exact QfF ys (j+1)
   ·simp[QeI,h]
theorem Qid {t:TT n}{regs:Int}(d:TIn w All t a) (b:t.count<=100000):Rd prog 167 #[Tv t a c,.int .i64 regs] w (.int .i64 (t.check regs)):=check_any n t a c regs w d b
theorem Qeh {α:Type}{f:α->Int}:∀ {l:List α}{i:Nat}{x:α},l[i]?=some x->(∀ k y,k<i->l[k]?=some y->f y=0)->f x≠0->QV f l=f x
 | [],i,x,h,_,_=>by simp at h
 | y::ys,0,x,h,_,hf=>by
   simp at h;subst h
   simp[QV,hf]
 | y::ys,i+1,x,h,hz,hf=>by
   have b:f y=0:=hz 0 y (by omega) Z;simp only[QV,b,ne_eq,not_true_eq_false,if_false]
   exact Qeh (by simpa using h) (fun k z c a=>hz (k+1) z (by omega) (by simpa using a)) hf
theorem Qd3 {α:Type}{f:α->Int}:∀ {l:List α},(∀ (k:Nat) y,l[k]?=some y->f y=0)->QV f l=0
 | [],_=>rfl
 | y::ys,h=>by
   have a:f y=0:=h 0 y Z;simp only[QV,a,ne_eq,not_true_eq_false,if_false]
   exact Qd3 (fun k z b=>h (k+1) z (by simpa using b))
theorem QaN {l:List (TT n)}{regs:Int}(G:(QM n).In w All l [.slice p l.length c]) (B:Qdk l) :
 Rd prog 138 #[.slice p l.length c,.int .i64 regs] w (.int .i64 (listC regs l)):=by
 have hl:Hid _:=G;have hs:Hid _:=B;have au:=B.1;clear G B;refine Qv (n:=24) func138 Z Z Z <| fun a X=>?_
 have hW:=Ye w;replace X:Fr 24 a [(0,.slice p l.length c),(1,.int .i64 regs)]:=X;refine XW fun K1 ab=>rg X fun b=>sa Y Z Z <| Yb fun a2 h2=>ab _ _ <| XW fun K3 ah=>XW fun K4 af=>rg h2 fun b=>sm Y Z Z <| QbZ Y Z Z <| sgt Y Z Z Z <| Yb fun a5 h5=>af _ _ <| QR (t:=10) h5 Z (fun d=>?_) (fun d=>?_)
 ·have h:8<l.length:=by have:=Xv d;omega
  clear d;refine XW fun K6 ae=>rg h5 fun b=>sa Y Z Z <| Yb fun a7 h7=>ae _ _ ?_
  refine XA ?_;with_reducible repeat first | refine Qg ?_ | refine Qd ?_
  have R:listC regs l=2:=by unfold listC;rw[Xs h]
  exact QU (t:=4) h7 Z Z ⟨by rw[R],hW.bel⟩
 have h:¬ (8<l.length):=by have:=Xw d;omega
 clear d;refine XB <| ah _ _ <| XW fun K8 ad=>XW fun K9 W=>rg h5 fun b=>sm Y Z Z <| QbZ Y Z Z <| sm Y Z Z <| Yb fun a6 f=>W _ _ <| XJ <| Qay (fun r a w'=>∃ q:Nat,q<=l.length/\r=l.length - q/\(∀ (j:Nat) y,j<q->l[j]?=some y->y.check regs=0)/\Fr 24 a [(1,.int .i64 regs),(0,.slice p l.length c),(4,.int .i64 0),(11,.slice p l.length c),(12,.int .i64 (l.length:Int)),(13,.int .i64 (q:Int))]/\Wd w w' []) (l.length) ⟨0,Xb _,Z,(fun j y hj=>by omega),(f.keep (f.keep (f.keep (f.keep (f.keep (f.keep f.nil (t:=13) Z) (t:=12) Z) (t:=11) Z) (t:=4) Z) (t:=0) Z) (t:=1) Z),hW⟩ ?_
 clear f hW;rintro r ar a8 ⟨q,hq,hr,s,N,o⟩ KL aa;refine XW fun aq I=>rg N fun b=>slt Y Z Z Z <| Yb fun aj E=>I _ _ <| XW fun ak M=>QR (t:=14) E Z (fun d=>?_) (fun d=>?_)
 ·have u:q<l.length:=by have:=Xv d;omega
  clear d;obtain⟨t,i⟩:∃ v9,(l)[q]?=some v9:=⟨_,Zg u⟩
  obtain⟨g1,o1,a0,V,C,U,z⟩:=Qjg (ZV hl.out).1 i
  replace z:Hid _:=z;replace C:Hid _:=C;replace i:Hid _:=i;replace U:Hid _:=U;refine XB <| M _ _ <| XW fun ap P=>XJ <| XW fun aw J=>rg E fun b=>Qdu C.out u Y Z Z Z <| sSE underlying92 Z (QW U.out o.bel) infType Y Z Z <| QgK o Y Z <| fun a3 am Q hN=>sT 0 Q Z Z infType Z Z Z <| fun az m=>Yb fun ai S=>J _ _ <| XW fun bb L=>rg S fun b=>sS 0 3 underlying92 Z infType m Y Z Z Z Z <| sm Y Z Z <| Qib cf167 m (Qid (c:=V) (regs:=regs) (TIn.below z.out m.bel) (hs.out.2 _ (Zm i.out))) Y Z Z Z <| fun ba v=>sa Y Z Z <| Yb fun an T=>L _ _ <| XW fun ay K=>rg T fun b=>sm Y Z Z <| sne Y Z Z Z <| Yb fun ax A=>K _ _ <| QR (t:=21) A Z (fun d=>?_) (fun d=>?_)
  ·have F:¬ (t.check regs)=0:=bne_iff_ne.1 d
   have D:¬ (t.check regs)=0:=F;clear F;clear d;refine XW fun av H=>rg A fun b=>sm Y Z Z <| sa Y Z Z <| Yb fun ao ag=>H _ _ ?_
   refine XA ?_;with_reducible repeat first | refine Qg ?_ | refine Qd ?_
   have R:listC regs l=t.check regs:=by unfold listC;rw[Xr h];exact Qeh i.out (fun k y hk x=>s k y hk x) D
   exact QU (t:=4) ag Z Z ⟨by rw[R],v.bel⟩
  have F:(t.check regs)=0:=XH.1 d;have D:Hid ((t.check regs)=0):=F;clear F;clear d;refine XB <| P _ _ <| rg A fun b=>sad (by omega) Y Z Z Z <| sm Y Z Z <| Yb fun a4 g=>aa _ _ (l.length - (q+1)) (by omega) ⟨q+1,by omega,Z,?_,(g.keep (g.keep (g.keep (g.keep (g.keep (g.keep g.nil (t:=13) Z) (t:=12) Z) (t:=11) Z) (t:=4) Z) (t:=0) Z) (t:=1) Z),v.tail⟩
  ·intro j y hj x
   by_cases e:j=q
   ·subst e;rw[i.out] at x;cases x;exact D.out
   ·exact s j y (by omega) x
 have al:q=l.length:=by have:=Xw d;omega
 clear d;refine wp_exit <| ad _ _ <| XW fun a1 O=>rg E fun b=>sa Y Z Z <| Yb fun a9 ac=>O _ _ ?_
 refine XA ?_;with_reducible repeat first | refine Qg ?_ | refine Qd ?_
 have R:listC regs l=0:=by unfold listC;rw[Xr h];exact Qd3 (fun k y x=>s k y (by have:=(Zi x).1;omega) x)
 exact QU (t:=4) ac Z Z ⟨by rw[R],o.bel⟩
theorem QaL {xp:Int} :
 Rd prog 92 #[.int .i64 xc,.int .i64 xp] w (Qar (atF xc xp)):=by
 refine Qv (n:=11) func92 Z Z Z <| fun a o=>?_
 have D:=Ye w;replace o:Fr 11 a [(0,.int .i64 xc),(1,.int .i64 xp)]:=o;refine XW fun O r=>rg o fun f=>ZI D Y Z <| fun B X i N=>Yb fun S L=>r _ _ <| XW fun V u=>XW fun W q=>rg L fun f=>sm Y Z Z <| seq Y Z Z Z <| Yb fun P x=>q _ _ <| QR (t:=6) x Z (fun l=>?_) (fun l=>?_)
 ·have d:xc=0:=XD l
  have A:Hid (xc=0):=d;clear d;clear l;refine XW fun T y=>rg x fun f=>fun Q d=>Q9 (t:=7) (v:=.agg #[.int .i64 0,.int .i64 0]) (w':=B) d Z Z Z (fun K z=>?_) ?_
  ·go_simp
   exact z
  clear d;intro H j;refine St.go j <| sT 0 i Z Z infFault Z Z Z <| fun J c=>Yb fun G s=>y _ _ ?_
  refine XA ?_;with_reducible repeat first | refine Qg ?_ | refine Qd ?_
  have R:atF xc xp=(0,0):=by simp[atF,A.out]
  exact QJ 0 s c Z Z Z underlying32 Z infFault ⟨by show Ending.returned (.agg #[.int .i64 0,.int .i64 0])=_;rw[R],c.bel⟩
 have d:¬ xc=0:=XE l;have m:¬ xc=0:=d;clear d;clear l;refine XB <| u _ _ <| XW fun E h=>rg x fun f=>sm Y Z Z <| sm Y Z Z <| fun g b=>Q9 (t:=10) (v:=.agg #[.int .i64 xc,.int .i64 xp]) (w':=B) b Z Z Z (fun K z=>?_) ?_
 ·have M:g.tmps[8]?.getD undef=.int .i64 xc:=b.sl2 8 _ Z
  have U:g.tmps[9]?.getD undef=.int .i64 xp:=b.sl2 9 _ Z;go_simp;exact z
 clear b;intro I k;refine St.go k <| sT 0 i Z Z infFault Z Z Z <| fun F e=>Yb fun C p=>h _ _ ?_
 refine XA ?_;with_reducible repeat first | refine Qg ?_ | refine Qd ?_
 have R:atF xc xp=(xc,xp):=by simp[atF,m]
 exact QJ 0 p e Z Z Z underlying32 Z infFault ⟨by show Ending.returned (.agg #[.int .i64 xc,.int .i64 xp])=_;rw[R],e.bel⟩
theorem QhF {d h:Int}{j:Option Addr}{i k:Nat} :
 Rd prog 169 #[.agg #[.int .i64 d,.int .i64 h,.slice j i k]] w (.bool (d != 1)):=by
 refine Qv (n:=6) func169 Z Z Z <| fun a c=>?_
 have l:=Ye w;replace c:Fr 6 a [(0,.agg #[.int .i64 d,.int .i64 h,.slice j i k])]:=c;refine XW fun r f=>rg c fun e=>sB l Y Z Z <| fun p x b q=>sa Y Z Z <| Yb fun s m=>f _ _ <| XW fun v g=>rg m fun e=>sfType0 Y Z Z <| Qa9 0 b Y Z Z Z Z <| sne Y Z Z Z <| sa Y Z Z <| Yb fun u o=>g _ _ ?_
 refine XA ?_;with_reducible repeat first | refine Qg ?_ | refine Qd ?_
 exact QU (t:=2) o Z Z ⟨Z,b.bel⟩
theorem Qf5 {l:List (TT n)}(C:(QM n).In w All l [.slice p l.length c]) (ah:l.length<=100000) :
 Rd prog 183 #[.slice p l.length c,.func (.func 169) #[] #[]] w (.int .i64 (QeI 0 l)):=by
 have hl:Hid _:=C;clear C;refine Qv (n:=19) func183 Z Z Z <| fun a L=>?_
 have W:=Ye w;replace L:Fr 19 a [(0,.slice p l.length c),(1,.func (.func 169) #[] #[])]:=L;refine XW fun K1 P=>rg L fun b=>sa Y Z Z <| Yb fun a2 h2=>P _ _ <| XW fun K3 O=>XW fun K4 Q=>rg h2 fun b=>sm Y Z Z <| QbZ Y Z Z <| sm Y Z Z <| Yb fun a5 z=>Q _ _ <| XJ <| Qay (fun r a w'=>∃ q:Nat,q<=l.length/\r=l.length - q/\(∀ (j:Nat) y,j<q->l[j]?=some y->y.kind=1)/\Fr 19 a [(1,.func (.func 169) #[] #[]),(0,.slice p l.length c),(4,.int .i64 0),(7,.int .i64 (l.length:Int)),(8,.int .i64 (q:Int))]/\Wd w w' []) (l.length) ⟨0,Xb _,Z,(fun j y hj=>by omega),(z.keep (z.keep (z.keep (z.keep (z.keep z.nil (t:=8) Z) (t:=7) Z) (t:=4) Z) (t:=0) Z) (t:=1) Z),W⟩ ?_
 clear z W;rintro r a6 w6 ⟨q,hq,hr,h,K,x⟩ KL M;refine XW fun K7 U=>rg K fun b=>slt Y Z Z Z <| Yb fun a8 J=>U _ _ <| XW fun K9 S=>QR (t:=9) J Z (fun g=>?_) (fun g=>?_)
 ·have i:q<l.length:=by have:=Xv g;omega
  clear g;obtain⟨t,f⟩:∃ v9,(l)[q]?=some v9:=⟨_,Zg i⟩
  obtain⟨g1,o1,ad,ae,s,N,A⟩:=Qjg (ZV hl.out).1 f
  replace A:Hid _:=A;replace s:Hid _:=s;replace f:Hid _:=f;replace N:Hid _:=N;refine XB <| S _ _ <| XW fun aj H=>XJ <| XW fun ak D=>rg J fun b=>sm Y Z Z <| sa Y Z Z <| Yb fun af T=>D _ _ <| XW fun ac G=>rg T fun b=>sm Y Z Z <| sm Y Z Z <| sm Y Z Z <| Qdu s.out i Y Z Z Z <| sSE underlying92 Z (QW N.out x.bel) infType Y Z Z <| Qlu cf169 x (QhF) Y Z Z Z <| fun ab m=>Yb fun X v=>G _ _ <| QR (t:=16) v Z (fun g=>?_) (fun g=>?_)
  ·have B:¬ t.kind=1:=bne_iff_ne.1 g
   have u:¬ t.kind=1:=B;clear B;clear g;refine XW fun am F=>rg v fun b=>sm Y Z Z <| sa Y Z Z <| Yb fun an I=>F _ _ ?_
   refine XA ?_;with_reducible repeat first | refine Qg ?_ | refine Qd ?_
   have R:QeI 0 l=(q:Int):=by have:=QhK l q 0 t f.out (fun k y hk o=>h k y hk o) u;rwa [XK] at this
   exact QU (t:=4) I Z Z ⟨by rw[R],m.bel⟩
  have B:t.kind=1:=XH.1 g;have u:Hid (t.kind=1):=B;clear B;clear g;refine XB <| H _ _ <| rg v fun b=>sad (by omega) Y Z Z Z <| sm Y Z Z <| Yb fun aa d=>M _ _ (l.length - (q+1)) (by omega) ⟨q+1,by omega,Z,?_,(d.keep (d.keep (d.keep (d.keep (d.keep d.nil (t:=8) Z) (t:=7) Z) (t:=4) Z) (t:=0) Z) (t:=1) Z),m⟩
  ·intro j y hj o
   by_cases e:j=q
   ·subst e;rw[f.out] at o;cases o;exact u.out
   ·exact h j y (by omega) o
 have ag:q=l.length:=by have:=Xw g;omega
 clear g;refine wp_exit <| O _ _ <| XW fun ai E=>rg J fun b=>sa Y Z Z <| Yb fun al V=>E _ _ ?_
 refine XA ?_;with_reducible repeat first | refine Qg ?_ | refine Qd ?_
 have R:QeI 0 l=-1:=QhU l 0 (fun k y o=>h k y (by have:=(Zi o).1;omega) o);exact QU (t:=4) V Z Z ⟨by rw[R],x.bel⟩
theorem QdH {l:List (TT n)}(b:(QM n).In w All l [.slice p l.length c]) (i:l.length<=100000) :
 Rd prog 168 #[.slice p l.length c,.func (.func 169) #[] #[]] w (.bool (decide (0<=QeI 0 l))):=by
 have m:Hid _:=b;clear b;refine Qv (n:=9) func168 Z Z Z <| fun a h=>?_
 have j:=Ye w;replace h:Fr 9 a [(0,.slice p l.length c),(1,.func (.func 169) #[] #[])]:=h;refine XW fun r e=>rg h fun d=>sa Y Z Z <| Yb fun q k=>e _ _ <| XW fun v g=>rg k fun d=>sm Y Z Z <| sm Y Z Z <| Qib cf183 j (Qf5 (Ya m.out j.bel) i) Y Z Z Z <| fun s f=>sge Y Z Z Z <| sa Y Z Z <| Yb fun u o=>g _ _ ?_
 refine XA ?_;with_reducible repeat first | refine Qg ?_ | refine Qd ?_
 exact QU (t:=4) o Z Z ⟨Z,f.bel⟩
theorem size_any:∀ (n:Nat) (t:TT n) (a:Option Addr) (c:Nat) (w:World) (left:Int),TIn w All t a->0<=left->left<=2000 ->
 Calls prog 90 #[Tv t a c,.int .i64 left] w fun e w'=>e=.returned (.int .i64 (max (-1) (left - t.count)))/\Below w.heap.size w w':=by
 intro n
 induction n with
 | zero=>intro t;exact Empty.elim t
 | succ n ih =>
   intro t a c w left C h0 h1
   have U:Hid (∀ (t:TT n) (a:Option Addr) (c:Nat) (w:World) (left:Int),TIn w All t a->0<=left->left<=2000 ->
    Calls prog 90 #[Tv t a c,.int .i64 left] w fun e w'=>e=.returned (.int .i64 (max (-1) (left - t.count)))/\Below w.heap.size w w'):=ih
   clear ih;have E:Hid (LIn w All t.2.2 a):=C.list;have J:t.count=1+(t.2.2.map TT.count).sum:=rfl;rw[J]
   clear J;simp only[Tv,TT.len_eq]
   generalize t.2.2=l at E |-;generalize t.kind=k;generalize t.r=r;clear C t;go_enter func90,ntmps90
   go_wp2_with fail
   have v:Hid (Bx w (w.alloc (.cells #[.int .i64 k,.int .i64 r,.slice a l.length c] 92)) k r a l.length c):=Bx.start w k r a l.length c;generalize w.alloc (.cells #[.int .i64 k,.int .i64 r,.slice a l.length c] 92)=w1 at v |-;go_loopw [1,5] (fun lf i wr=>∃ q:Nat,q<=l.length/\i=.int .i64 q/\lf=.int .i64 (max (-1) (left - 1 - (((l.map TT.count).take q).sum:Nat)))/\Bx w wr k r a l.length c) (fun _ i _=>l.length - (intOf i).toNat)
   case atStart=>exact⟨0,Xb _,Z,by simp;omega,v.out⟩
   case round =>
    clear v;obtain⟨q,hq,rfl,rfl,u⟩:=hrel
    generalize d:(((l.map TT.count).take q).sum:Nat)=s;have X:wr.cell? ⟨w.heap.size,2,none⟩=some (.slice a l.length c):=Qa u.box 2 _ Z;have p:Hid (Bx w wr k r a l.length c):=u;by_cases A:q<l.length
    ·by_cases b:0<=max (-1) (left - 1 - (s:Int))
     ·have j:l[q]?=some l[q]:=Zg A;generalize l[q]=x at j;obtain⟨g,o,G,N,rfl,_,d0,d1,W,D⟩:=LIn.at (E.out.below u.bel) j
      have H:Hid (TIn wr All x G):=D;have B:=QdW TT.count l q x j;rw[d] at B
      have P:Hid (((l.map TT.count).take (q+1)).sum=s+x.count):=B;have S:Hid (max (-1) (left - 1 - (s:Int))<=2000):=by show _<=_;omega
      clear u D j B;generalize I:max (-1) (left - 1 - (s:Int))=m at b S;have M:Hid (max (-1) (left - 1 - (s:Int))=m):=I;clear I;have L:(0:Int)<=q:=by omega
      have f:(q:Int)<l.length:=by omega
      have T:(q:Int)<2000:=by
       have Q:=length_le_sum ((l.map TT.count).take q) (fun y V=>by obtain⟨z,_,rfl⟩:=List.mem_map.1 (List.mem_of_mem_take V);exact z.count_pos);have h4:=M.out;rw[List.length_take,XN] at Q
       omega
      clear d;go_wp2_with fail
      refine(U.out x G N _ m H.out b S.out).mono ?_
      rintro e K ⟨rfl,O⟩;have R:Hid (Bx w K k r (some ⟨g,o,none⟩) l.length c):=p.out.below O;clear p;go_wp2
      go_roundw
      case rel=>exact⟨q+1,by omega,by go_num,by rw[P.out];have:=M.out;have:=x.count_pos;congr 1;omega,R.out⟩
      case measure=>simp[intOf];omega
     ·have F:Hid (max (-1) (left - 1 - (s:Int))=max (-1) (left - ((1+(l.map TT.count).sum:Nat):Int))):=by
       have:=Qe2 (l.map TT.count) q
       show _=_;omega
      have h:max (-1) (left - 1 - (s:Int))<0:=by omega
      generalize max (-1) (left - 1 - (s:Int))=m at F h |-;clear b d;have f:(q:Int)<l.length:=by omega
      go_wp2
      go_ret;exact⟨by show Ending.returned (.int .i64 m)=_;have:=F.out;congr 2,p.out.bel⟩
    ·have F:Hid (max (-1) (left - 1 - (s:Int))=max (-1) (left - ((1+(l.map TT.count).sum:Nat):Int))):=by
      rw[XO (by simp;omega)] at d
      show _=_;omega
     generalize max (-1) (left - 1 - (s:Int))=m at F |-;clear d;have f:¬ (q:Int)<l.length:=by omega
     go_wp2
     go_ret;exact⟨by show Ending.returned (.int .i64 m)=_;have:=F.out;congr 2,p.out.bel⟩
theorem Qhw (n:Nat) (t:TT n) (a:Option Addr) (c:Nat) (w:World) (d:TIn w All t a) :
 Calls prog 54 #[Tv t a c] w fun e w'=>e=.returned (.bool (decide (2000<t.count)))/\Below w.heap.size w w':=by
 have C:Hid (∀ b,Below w.heap.size w b->Calls prog 90 #[Tv t a c,.int .i64 2000] b fun e w'=>e=.returned (.int .i64 (max (-1) (2000 - (t.count:Int))))/\Below b.heap.size b w') :=
  fun b h=>size_any n t a c b 2000 (d.below h) (by omega) (by omega)
 clear d;simp only[Tv] at C |-
 generalize t.kind=k at C |-;generalize t.r=r at C |-;generalize t.len=i at C |-;generalize t.count=q at C |-;go_enter func54,ntmps54
 go_wp2_with fail
 refine(C.out _ ((Below.refl _ w).alloc Ze _)).mono ?_
 rintro e g ⟨rfl,f⟩;have B:Hid (Below w.heap.size w g):=((Below.refl _ w).alloc Ze _).trans (f.mono (by simp));have F:Hid (max (-1) (2000 - (q:Int))<0↔2000<q):=by show _↔_;omega
 generalize max (-1) (2000 - (q:Int))=m at F |-;clear f C;go_wp2
 go_ret;exact⟨by show Ending.returned (.bool (decide (m<0)))=_;rw[decide_eq_decide.2 F.out],B.out⟩
theorem XG:type_of% @Nat.not_lt_zero:=@Nat.not_lt_zero
structure GbS (w wx:World) (l:List (Nat × Array Value × TypeId)):Prop where
 bel:Below w.heap.size w wx
 box:∀ (i:Nat) b,l[i]?=some b->Blk wx b.1 b.2.1 b.2.2
theorem GbS.below {a:World}{l:List (Nat × Array Value × TypeId)}(h:GbS w a l) (k:Below a.heap.size a w'):GbS w w' l:=⟨h.bel.trans (k.mono h.bel.size),fun i b c=>(h.box i b c).below k⟩
theorem GbS.add {a:World}{l:List (Nat × Array Value × TypeId)}(h:GbS w a l){c:Array Value}(hb:Blk a B c t):GbS w a ((B,c,t)::l) :=
 ⟨h.bel,fun i b d=>by
  cases i with
  | zero=>cases d;exact hb
  | succ i=>exact h.box i b d⟩
theorem GbS.drop {a:World}{l:List (Nat × Array Value × TypeId)}{e:Nat × Array Value × TypeId}(h:GbS w a (e::l)):GbS w a l:=⟨h.bel,fun i b c=>h.box (i+1) b c⟩
theorem GbS.new {a:World}{l:List (Nat × Array Value × TypeId)}(h:GbS w a l) (c:Array Value) (t:TypeId):GbS w (a.alloc (.cells c t)) ((a.heap.size,c,t)::l):=(h.below (QbH _ _)).add (Blk.new _ _ _)
theorem Qak (n:Nat) (l:List (TT n)) (p:Option Addr) (c:Nat) (w:World) (e:LIn w All l p) :
 Rd prog 28 #[.slice p l.length c] w (.bool (bdec (ZE l))):=by
 have H:=Z6 e;clear e;unfold Rd;go_enter func28,ntmps28
 by_cases G:200<l.length
 ·have d:(200:Int)<l.length:=by omega
  have E:=QB (A:=ZE l) (.inl G);go_wp2_with fail
  go_ret;exact⟨by first | rfl | (rw[E];done) | (rw[E];rfl),Zr⟩
 have d:¬ (200:Int)<l.length:=by omega
 go_wp2_with fail
 go_loopw [3] (fun i wr=>∃ k:Nat,k<=l.length/\i=.int .i64 k/\Below w.heap.size w wr/\∀ (j:Nat) t,j<k->l[j]?=some t->¬ 2000<t.count) (fun i _=>l.length - (intOf i).toNat)
 case atStart=>exact⟨0,Xb _,Z,Zr,fun j z m=>absurd m (XG _)⟩
 case round =>
  obtain⟨k,P,rfl,D,a⟩:=hrel
  have g:=Z6 D;have r:=Z6 a;clear D a;by_cases y:k<l.length
  rotate_left
  ·have o:¬ (k:Int)<l.length:=by omega
   have E:bdec (ZE l)=false:=Qx (by
    rintro (h | ⟨t,b,h⟩)
    ·exact G h
    ·obtain⟨j,m⟩:=List.mem_iff_getElem?.1 b
     exact r.out j t (by have:=(Zi m).1;omega) m h)
   go_wp2_with fail
   go_ret;exact⟨by first | rfl | (rw[E];done) | (rw[E];rfl),g.out⟩
  have o:(k:Int)<l.length:=by omega
  have b:l[k]?=some l[k]:=Zg y;generalize l[k]=t at b;have B:=Z6 b;obtain⟨O,Q,K,L,rfl,-,M,J,I,q⟩:=(show LIn wr All l p from H.out.below g.out).at b
  have C:=Z6 (Qhw n t K L wr q);clear b q;go_wp2_with fail
  refine C.out.mono ?_;rintro _ N ⟨rfl,F⟩;have f:=Z6 (g.out.trans (F.mono g.out.size));clear F C M J I g;by_cases s:2000<t.count
  ·rw[Xt s]
   have E:=QB (A:=ZE l) (.inr ⟨t,Zm B.out,s⟩);go_wp2_with fail
   go_ret;exact⟨by first | rfl | (rw[E];done) | (rw[E];rfl),f.out⟩
  ·rw[Xu s]
   go_wp2_with fail
   go_roundw
   case rel =>
    refine⟨k+1,by omega,by go_num,f.out,fun j u m v=>?_⟩
    by_cases x:j<k
    ·exact r.out j u x v
    ·have:j=k:=by omega
     subst this;rw[B.out] at v
     cases v
     exact s
   case measure=>simp[intOf];omega
def Qe.much {n:Nat}(x:Qe n):Prop:=30<x.blocks.length\/ZE x.params\/ZE x.results
def Qk.much {n:Nat}(x:Qk n):Prop:=200<x.code.length\/ZE x.params\/300<x.fin.args.length\/300<x.fin.yes.regs.length\/300<x.fin.yes.args.length\/300<x.fin.no.regs.length\/300<x.fin.no.args.length
theorem Qa2 (n:Nat) (m:List (Qe n)) (p:Option Addr) (c:Nat) (w:World) (an:(Qam n).In w All m [.slice p m.length c]) :
 Rd prog 7 #[.agg #[.slice p m.length c]] w (.bool (bdec (QL m))):=by
 have HM:=Z6 an;have S:Hid (GbS w (w.alloc (.cells #[.slice p m.length c] 24)) [(w.heap.size,#[.slice p m.length c],24)]):=GbS.new ⟨Zr,fun i b hb=>by simp at hb⟩ _ _;clear an;unfold Rd;go_enter func7,ntmps7
 go_upto_region 1 with fail
 generalize w.alloc (.cells #[.slice p m.length c] 24)=w1 at S |-;generalize w.heap.size=X at S |-;have x0:=Qa (S.out.box 0 _ Yz) 0 _ Yz;by_cases c1:20<m.length
 ·have d:(20:Int)<m.length:=by omega
  have E:=QB (A:=QL m) (.inl c1);have M:=Z6 S.out.bel;clear S;go_wp2_with fail
  go_ret;exact⟨by first | rfl | (rw[E];done) | (rw[E];rfl),M.out⟩
 have d:¬ (20:Int)<m.length:=by omega
 go_wp2_with fail
 clear x0;go_loopw [3] (fun i wr=>∃ k:Nat,k<=m.length/\i=.int .i64 k/\GbS w wr [(X,#[.slice p m.length c],24)]/\∀ (j:Nat) f,j<k->m[j]?=some f->¬ f.great) (fun i _=>m.length - (intOf i).toNat)
 case atStart=>exact⟨0,Xb _,Yz,S.out,fun j z C=>absurd C (XG _)⟩
 case round =>
  obtain⟨k,hk,rfl,Q,o⟩:=hrel
  have SR:=Z6 Q;have aj:=Z6 o;clear Q o S;obtain⟨wf,a2⟩:∃ wf,wf=wr:=⟨_,Yz⟩
  subst a2;have x0:=Qa (SR.out.box 0 _ Yz) 0 _ Yz;by_cases av:k<m.length
  rotate_left
  ·have ae:¬ (k:Int)<m.length:=by omega
   have E:bdec (QL m)=false:=Qx (by
    rintro (h | ⟨t,ht,h⟩)
    ·exact c1 h
    ·obtain⟨j,C⟩:=List.mem_iff_getElem?.1 ht
     exact aj.out j t (by have:=(Zi C).1;omega) C h)
   have M:=Z6 SR.out.bel;clear SR;go_wp2_with fail
   go_ret;exact⟨by first | rfl | (rw[E];done) | (rw[E];rfl),M.out⟩
  have ae:(k:Int)<m.length:=by omega
  have J:m[k]?=some m[k]:=Zg av;generalize m[k]=x at J;have af:=Z6 J;have am:Hid (x.great->bdec (QL m)=true):=fun h=>QB (.inr ⟨x,Zm af.out,h⟩);obtain⟨g1,o1,l,rfl,E1,ab⟩:=QbK HM.out J
  have T:=Z6 ab;have R1:Hid (wf.rangeAt g1 (o1+k*4) [.int .i64 x.regs,.slice l.pP x.params.length l.cP,.slice l.pR x.results.length l.cR,.slice l.pB x.blocks.length l.cB]):=fun j v C=>QI (E1 j v C) SR.out.bel;have v0:wf.cell? ⟨g1,o1+k*4,none⟩=some (.int .i64 x.regs):=R1.out 0 _ Yz;have v1:=R1.out 1 _ Yz;have v2:=R1.out 2 _ Yz;have v3:=R1.out 3 _ Yz;have F:=Z6 (SR.out.new #[.int .i64 x.regs,.slice l.pP x.params.length l.cP,.slice l.pR x.results.length l.cR,.slice l.pB x.blocks.length l.cB] 76);clear J E1 ab R1 SR;go_upto_region 7 with fail
  generalize wf.alloc (.cells #[.int .i64 x.regs,.slice l.pP x.params.length l.cP,.slice l.pR x.results.length l.cR,.slice l.pB x.blocks.length l.cB] 76)=w6 at F |-;generalize wf.heap.size=Y at F |-;clear v0 v1 v2 v3 x0;generalize hL:([(Y,#[.int .i64 x.regs,.slice l.pP x.params.length l.cP,.slice l.pR x.results.length l.cR,.slice l.pB x.blocks.length l.cB],76),(X,#[.slice (some ⟨g1,o1,none⟩) m.length c],24)]:List (Nat × Array Value × TypeId))=L at F;have BX:Hid (∀ wx,GbS w wx L->Blk wx Y #[.int .i64 x.regs,.slice l.pP x.params.length l.cP,.slice l.pR x.results.length l.cR,.slice l.pB x.blocks.length l.cB] 76/\GbS w wx [(X,#[.slice (some ⟨g1,o1,none⟩) m.length c],24)]):=by subst hL;exact fun wx h=>⟨h.box 0 _ Yz,h.drop⟩
  clear hL;have q1:=Qa (BX.out _ F.out).1 1 _ Yz;have q2:=Qa (BX.out _ F.out).1 2 _ Yz;have q3:=Qa (BX.out _ F.out).1 3 _ Yz;go_cut [37] (fun v wx=>v=.bool (bdec x.much)/\GbS w wx L)
  case first =>
   by_cases h:30<x.blocks.length
   ·have d1:decide ((x.blocks.length:Int)>30)=true:=Xt (by omega);have E:=QB (A:=x.much) (.inl h);go_wp2
    go_meet;exact⟨by first | rfl | (rw[E];done) | (rw[E];rfl),F.out⟩
   have d1:decide ((x.blocks.length:Int)>30)=false:=Xu (by omega);have B:=Z6 (Qak n x.params l.pP l.cP w6 (ZV (Ya T.out.params F.out.bel)).1);unfold Rd at B;by_cases O:ZE x.params
   ·have E:=QB (A:=x.much) (.inr (.inl O));rw[QB O] at B
    go_wp2_with fail
    refine B.out.mono ?_;rintro _ wa ⟨rfl,G⟩;have r:=Z6 (F.out.below G);clear G B;go_wp2
    go_meet;exact⟨by first | rfl | (rw[E];done) | (rw[E];rfl),r.out⟩
   rw[Qx O] at B
   go_wp2_with fail
   refine B.out.mono ?_;rintro _ wa ⟨rfl,G⟩;have r:=Z6 (F.out.below G);clear G B q1 q2 q3;have q2:=Qa (BX.out _ r.out).1 2 _ Yz;have CR:=Z6 (Qak n x.results l.pR l.cR wa (ZV (Ya T.out.results r.out.bel)).1);unfold Rd at CR
   have E:bdec x.much=bdec (ZE x.results):=by
    by_cases hr:ZE x.results
    ·rw[QB hr];exact QB (.inr (.inr hr))
    ·rw[Qx hr];exact Qx (fun e=>by rcases e with e | e | e;exact h e;exact O e;exact hr e)
   go_wp2_with fail
   refine CR.out.mono ?_;rintro _ N ⟨rfl,bb⟩;have SB:=Z6 (r.out.below bb);clear bb CR q2;go_wp2
   all_goals
    go_meet;exact⟨by first | rfl | (rw[E];done) | (rw[E];rfl),SB.out⟩
  case rest =>
   obtain⟨rfl,R⟩:=hcut
   have S7:=Z6 R;clear R F q1 q2 q3;by_cases P:x.much
   ·rw[QB P]
    have E:=am.out (by rcases P with h | h | h;exact .inl h;exact .inr (.inl h);exact .inr (.inr (.inl h)));have M:=Z6 S7.out.bel;clear S7 P;go_wp2_with fail
    go_ret;exact⟨by first | rfl | (rw[E];done) | (rw[E];rfl),M.out⟩
   rw[Qx P]
   have a3:x.blocks.length<=30:=Xo fun h=>P (.inl h);go_wp2_with fail
   go_loopw [5] (fun i wr=>∃ q:Nat,q<=x.blocks.length/\i=.int .i64 q/\GbS w wr L/\∀ (j:Nat) y,j<q->x.blocks[j]?=some y->¬ y.great) (fun i _=>x.blocks.length - (intOf i).toNat)
   case atStart=>exact⟨0,Xb _,Yz,S7.out,fun j z C=>absurd C (XG _)⟩
   case round =>
    obtain⟨q,hq,rfl,Q,o⟩:=hrel
    have SQ:=Z6 Q;have ac:=Z6 o;clear Q o S7;obtain⟨N,aw⟩:∃ N,N=wr:=⟨_,Yz⟩
    subst aw;have q3:=Qa (BX.out _ SQ.out).1 3 _ Yz;by_cases au:q<x.blocks.length
    rotate_left
    ·have ah:¬ (q:Int)<x.blocks.length:=by omega
     go_wp2_with fail
     go_roundw
     case rel =>
      refine⟨k+1,by omega,by go_num,(BX.out _ SQ.out).2,fun j f C hf=>?_⟩
      by_cases ax:j<k
      ·exact aj.out j f ax hf
      ·have:j=k:=by omega
       subst this;rw[af.out] at hf
       cases hf
       rintro (h | h | h | ⟨y,hy,h⟩)
       ·exact P (.inl h)
       ·exact P (.inr (.inl h))
       ·exact P (.inr (.inr h))
       ·obtain⟨i,hi⟩:=List.mem_iff_getElem?.1 hy
        exact ac.out i y (by have:=(Zi hi).1;omega) hi h
     case measure=>simp[intOf];omega
    have ah:(q:Int)<x.blocks.length:=by omega
    have I:x.blocks[q]?=some x.blocks[q]:=Zg au;generalize x.blocks[q]=y at I;have ag:=Z6 I;have ak:Hid (y.great->bdec (QL m)=true):=fun h=>am.out (.inr (.inr (.inr ⟨y,Zm ag.out,h⟩)));obtain⟨g2,o2,g,e2,E2,ai⟩:=Qby T.out.blocks I
    have ad:=Z6 ai;rw[e2] at q3
    generalize U:([.int .i64 y.regs,.slice g.pP y.params.length g.cP,.slice g.pC y.code.length g.cC,.int .i64 y.fin.op,.int .i64 y.fin.a,.int .i64 y.fin.yes.block,.slice g.e.pYR y.fin.yes.regs.length g.e.cYR,.slice g.e.pYA y.fin.yes.args.length g.e.cYA,.int .i64 y.fin.no.block,.slice g.e.pNR y.fin.no.regs.length g.e.cNR,.slice g.e.pNA y.fin.no.args.length g.e.cNA,.slice g.e.pA y.fin.args.length g.e.cA]:List Value)=cs at E2;have hl:cs.length=12:=by rw[<-U];rfl
    have MB:=Z6 (QlL.of N hl);have TO:Hid (cs.toArray.all (·.oneCell')=true):=by show _=_;rw[<-U];exact all_oneCell_toArray (Xe.1 Yz)
    have RG:Hid (N.rangeAt g2 (o2+q*12) cs):=fun j v C=>QI (E2 j v C) SQ.out.bel;clear I E2 ai hl e2;go_upto_region 13 with (first | (refine wpList_load_mid Yz 73 (.tmp 48) Yz g2 (o2+q*12) Yz cs _ RG.out underlying73 Yz MB.out.size ?_) | (refine wpList_store_mid Yz 73 (.tmp 6) (.tmp 49) Yz N.heap.size 0 cs.toArray Yz Yz MB.out.there MB.out.size2 TO.out ?_))
    have H:=Z6 ((SQ.out.below MB.out.bel).add MB.out.blk);clear SQ q3 RG TO MB;generalize (N.alloc (.cells #[.int .i64 0,.slice none 0 0,.slice none 0 0,.int .i64 0,.int .i64 0,.int .i64 0,.slice none 0 0,.slice none 0 0,.int .i64 0,.slice none 0 0,.slice none 0 0,.slice none 0 0] 73)).setCells N.heap.size 0 cs=w3 at H |-;generalize N.heap.size=Z at H |-;subst U;simp only[Act.put]
    generalize al:((Z,#[.int .i64 y.regs,.slice g.pP y.params.length g.cP,.slice g.pC y.code.length g.cC,.int .i64 y.fin.op,.int .i64 y.fin.a,.int .i64 y.fin.yes.block,.slice g.e.pYR y.fin.yes.regs.length g.e.cYR,.slice g.e.pYA y.fin.yes.args.length g.e.cYA,.int .i64 y.fin.no.block,.slice g.e.pNR y.fin.no.regs.length g.e.cNR,.slice g.e.pNA y.fin.no.args.length g.e.cNA,.slice g.e.pA y.fin.args.length g.e.cA],73)::L:List (Nat × Array Value × TypeId))=L2 at H;have K:Hid (∀ wx,GbS w wx L2->Blk wx Z #[.int .i64 y.regs,.slice g.pP y.params.length g.cP,.slice g.pC y.code.length g.cC,.int .i64 y.fin.op,.int .i64 y.fin.a,.int .i64 y.fin.yes.block,.slice g.e.pYR y.fin.yes.regs.length g.e.cYR,.slice g.e.pYA y.fin.yes.args.length g.e.cYA,.int .i64 y.fin.no.block,.slice g.e.pNR y.fin.no.regs.length g.e.cNR,.slice g.e.pNA y.fin.no.args.length g.e.cNA,.slice g.e.pA y.fin.args.length g.e.cA] 73/\GbS w wx L):=by subst al;exact fun wx h=>⟨h.box 0 _ Yz,h.drop⟩
    clear al;have z1:=Qa (K.out _ H.out).1 1 _ Yz;have z2:=Qa (K.out _ H.out).1 2 _ Yz;go_cut [97] (fun v wx=>v=.bool (bdec y.much)/\GbS w wx L2)
    case first =>
     by_cases h:200<y.code.length
     ·have d1:decide ((y.code.length:Int)>200)=true:=Xt (by omega);have E:=QB (A:=y.much) (.inl h);go_wp2
      go_meet;exact⟨by first | rfl | (rw[E];done) | (rw[E];rfl),H.out⟩
     have d1:decide ((y.code.length:Int)>200)=false:=Xu (by omega);have B:=Z6 (Qak n y.params g.pP g.cP w3 (ZV (Ya ad.out.params H.out.bel)).1);unfold Rd at B;by_cases O:ZE y.params
     ·have E:=QB (A:=y.much) (.inr (.inl O));rw[QB O] at B
      go_wp2_with fail
      refine B.out.mono ?_;rintro _ wa ⟨rfl,G⟩;have r:=Z6 (H.out.below G);clear G B;go_wp2
      go_meet;exact⟨by first | rfl | (rw[E];done) | (rw[E];rfl),r.out⟩
     rw[Qx O] at B
     go_wp2_with fail
     refine B.out.mono ?_;rintro _ wa ⟨rfl,G⟩;have r:=Z6 (H.out.below G);clear G B z1 z2;have z6:=Qa (K.out _ r.out).1 6 _ Yz;have z7:=Qa (K.out _ r.out).1 7 _ Yz;have z9:=Qa (K.out _ r.out).1 9 _ Yz;have az:=Qa (K.out _ r.out).1 10 _ Yz;have a1:=Qa (K.out _ r.out).1 11 _ Yz
     have s:Hid (bdec y.much=(decide ((y.fin.args.length:Int)>300)||(decide ((y.fin.yes.regs.length:Int)>300)||(decide ((y.fin.yes.args.length:Int)>300)||(decide ((y.fin.no.regs.length:Int)>300)||decide ((y.fin.no.args.length:Int)>300)))))):=by
      show _=_
      have e9:y.much↔((y.fin.args.length:Int)>300\/(y.fin.yes.regs.length:Int)>300\/(y.fin.yes.args.length:Int)>300\/(y.fin.no.regs.length:Int)>300\/(y.fin.no.args.length:Int)>300):=by
       unfold Qk.much;constructor
       ·rintro (e | e | e)
        ·exact absurd e h
        ·exact absurd e O
        ·omega
       ·intro e;right;right;omega
      by_cases hy:y.much
      ·rw[QB hy];have:=e9.1 hy;simp only[<-Bool.decide_or];exact(Xt this).symm
      ·rw[Qx hy];have:=fun e=>hy (e9.2 e);simp only[<-Bool.decide_or];exact(Xu this).symm
     generalize y.fin.args.length=n1 at s a1 |-;generalize y.fin.yes.regs.length=n2 at s z6 |-;generalize y.fin.yes.args.length=n3 at s z7 |-;generalize y.fin.no.regs.length=n4 at s z9 |-;generalize y.fin.no.args.length=n5 at s az |-;by_cases k1:(n1:Int)>300
     ·have d9:decide ((n1:Int)>300)=true:=Xt k1;rw[d9] at s
      go_wp2
      go_meet;exact⟨by rw[s.out];first | done | rfl,r.out⟩
     have e1:decide ((n1:Int)>300)=false:=Xu k1;rw[e1] at s
     by_cases k2:(n2:Int)>300
     ·have d9:decide ((n2:Int)>300)=true:=Xt k2;rw[d9] at s
      go_wp2
      go_meet;exact⟨by rw[s.out];first | done | rfl,r.out⟩
     have e2:decide ((n2:Int)>300)=false:=Xu k2;rw[e2] at s
     by_cases k3:(n3:Int)>300
     ·have d9:decide ((n3:Int)>300)=true:=Xt k3;rw[d9] at s
      go_wp2
      go_meet;exact⟨by rw[s.out];first | done | rfl,r.out⟩
     have e3:decide ((n3:Int)>300)=false:=Xu k3;rw[e3] at s
     by_cases k4:(n4:Int)>300
     ·have d9:decide ((n4:Int)>300)=true:=Xt k4;rw[d9] at s
      go_wp2
      go_meet;exact⟨by rw[s.out];first | done | rfl,r.out⟩
     have e4:decide ((n4:Int)>300)=false:=Xu k4;rw[e4] at s
     go_wp2
     all_goals
      go_meet;exact⟨by rw[s.out];first | done | rfl,r.out⟩
    case rest =>
     obtain⟨rfl,R⟩:=hcut
     have S4:=Z6 R;clear R H z1 z2;by_cases D:y.much
     ·rw[QB D]
      have E:=ak.out (by rcases D with h | h | h | h | h | h | h;exact .inl h;exact .inr (.inl h);exact .inr (.inr (.inl h));exact .inr (.inr (.inr (.inl h)));exact .inr (.inr (.inr (.inr (.inl h))));exact .inr (.inr (.inr (.inr (.inr (.inl h)))));exact .inr (.inr (.inr (.inr (.inr (.inr (.inl h)))))));have M:=Z6 S4.out.bel;clear S4 D;go_wp2_with fail
      go_ret;exact⟨by first | rfl | (rw[E];done) | (rw[E];rfl),M.out⟩
     rw[Qx D]
     have a4:y.code.length<=200:=Xo fun h=>D (.inl h);go_wp2_with fail
     go_loopw [7] (fun i wr=>∃ t:Nat,t<=y.code.length/\i=.int .i64 t/\GbS w wr L2/\∀ (j:Nat) z,j<t->y.code[j]?=some z->¬ (300<z.regs.length\/300<z.args.length)) (fun i _=>y.code.length - (intOf i).toNat)
     case atStart=>exact⟨0,Xb _,Yz,S4.out,fun j z C=>absurd C (XG _)⟩
     case round =>
      obtain⟨t,ht,rfl,Q,o⟩:=hrel
      have V:=Z6 Q;have ao:=Z6 o;clear Q o S4;have z2:=Qa (K.out _ V.out).1 2 _ Yz;by_cases aq:t<y.code.length
      rotate_left
      ·have aa:¬ (t:Int)<y.code.length:=by omega
       go_wp2_with fail
       go_roundw
       case rel =>
        refine⟨q+1,by omega,by go_num,(K.out _ V.out).2,fun j u C W=>?_⟩
        by_cases ar:j<q
        ·exact ac.out j u ar W
        ·have:j=q:=by omega
         subst this;rw[ag.out] at W
         cases W
         rintro (h | h | h | h | h | h | h | ⟨z,hz,h⟩)
         ·exact D (.inl h)
         ·exact D (.inr (.inl h))
         ·exact D (.inr (.inr (.inl h)))
         ·exact D (.inr (.inr (.inr (.inl h))))
         ·exact D (.inr (.inr (.inr (.inr (.inl h)))))
         ·exact D (.inr (.inr (.inr (.inr (.inr (.inl h))))))
         ·exact D (.inr (.inr (.inr (.inr (.inr (.inr h))))))
         ·obtain⟨i,hi⟩:=List.mem_iff_getElem?.1 hz
          exact ao.out i z (by have:=(Zi hi).1;omega) hi h
       case measure=>simp[intOf];omega
      have aa:(t:Int)<y.code.length:=by omega
      have hz:y.code[t]?=some y.code[t]:=Zg aq;generalize y.code[t]=z at hz;have HZ:=Z6 hz;obtain⟨g3,o3,i3,e3,E3,-⟩:=QfM ad.out.code hz
      rw[e3] at z2
      have ay:=QI (show w.cell? ⟨g3,o3+t*8+6,none⟩=_ from E3 6 _ Yz) V.out.bel;have ap:=QI (show w.cell? ⟨g3,o3+t*8+7,none⟩=_ from E3 7 _ Yz) V.out.bel;clear hz E3 e3;go_upto_region 18 with fail
      go_cut [122] (fun v wx=>v=.bool (decide (300<z.regs.length\/300<z.args.length))/\GbS w wx L2)
      case first =>
       by_cases h:(z.regs.length:Int)>300
       ·have d1:decide ((z.regs.length:Int)>300)=true:=Xt h;have E:decide (300<z.regs.length\/300<z.args.length)=true:=Xt (by omega);go_wp2
        go_meet;exact⟨by first | rfl | (rw[E];done) | (rw[E];rfl),V.out⟩
       ·have d1:decide ((z.regs.length:Int)>300)=false:=Xu h;have E:decide (300<z.regs.length\/300<z.args.length)=decide ((z.args.length:Int)>300):=by rw[decide_eq_decide];omega
        go_wp2
        all_goals
         go_meet;exact⟨by first | rfl | (rw[E];done) | (rw[E];rfl),V.out⟩
      case rest =>
       obtain⟨rfl,R⟩:=hcut
       have SU:=Z6 R;clear R V z2 ay ap;by_cases c4:300<z.regs.length\/300<z.args.length
       ·rw[Xt c4]
        have E:=ak.out (.inr (.inr (.inr (.inr (.inr (.inr (.inr ⟨z,Zm HZ.out,c4⟩)))))));have M:=Z6 SU.out.bel;clear SU c4;go_wp2_with fail
        go_ret;exact⟨by first | rfl | (rw[E];done) | (rw[E];rfl),M.out⟩
       ·rw[Xu c4]
        go_wp2_with fail
        go_roundw
        case rel =>
         refine⟨t+1,by omega,by go_num,SU.out,fun j u C W=>?_⟩
         by_cases a0:j<t
         ·exact ao.out j u a0 W
         ·have:j=t:=by omega
          subst this;rw[HZ.out] at W
          cases W
          exact c4
        case measure=>simp[intOf];omega
theorem Xa:type_of% @Bool.eq_false_or_eq_true:=@Bool.eq_false_or_eq_true
def Qe.begins {n:Nat}(x:Qe n):Prop:=x.regs=0/\x.params.length=0/\x.results.all (fun t=>t.kind==1)=true
def Qk.takes {n:Nat}(fn:Qe n) (x:Qk n):Prop:=x.regs=fn.regs/\x.params=fn.params
theorem Qig {fn:Qe n}{x:Qk n}(h:¬ x.takes fn):x.regs≠fn.regs\/QdR x.params fn.params=false:=by
 by_cases a:x.regs=fn.regs
 ·refine .inr ?_
  cases e:QdR x.params fn.params with
  | false=>rfl
  | true=>exact absurd ⟨a,QcF.1 e⟩ h
 ·exact .inl a
theorem Qeu {fn:Qe n}{x:Qk n}(h:x.takes fn):¬ (x.regs≠fn.regs\/QdR x.params fn.params=false):=by
 rintro (a | a)
 ·exact a h.1
 ·rw[QcF.2 h.2] at a;cases a
theorem Qen {m:List (Qe n)}{x:Qe n}{fp:FP}(r:FIn w All x fp) (u:x.small) :
 Rd prog 139 #[.agg #[.slice p m.length c,.int .i64 x.regs,.slice fp.pP x.params.length fp.cP,.slice fp.pR x.results.length fp.cR,.slice fp.pB x.blocks.length fp.cB,.int .i64 (fi:Int)]] w (.bool (bdec x.begins)):=by
 have K:Hid _:=r;have M:Hid _:=u;clear r u;refine Qv (n:=21) func139 Z Z Z <| fun a A=>?_
 have O:=Ye w;replace A:Fr 21 a [(0,.agg #[.slice p m.length c,.int .i64 x.regs,.slice fp.pP x.params.length fp.cP,.slice fp.pR x.results.length fp.cR,.slice fp.pB x.blocks.length fp.cB,.int .i64 (fi:Int)])]:=A;refine XW fun W D=>rg A fun k=>sB O Y Z Z <| fun U B2 f V=>sa Y Z Z <| Yb fun X T=>D _ _ <| XW fun K4 l=>Qap <| fun k j=>?_
 have d:(k[4]?).bind (fun o:Oper=>o.dst)=some 7:=j 4;have b:(k[11]?).bind (fun o:Oper=>o.dst)=some 14:=j 11;clear j;refine St.go T <| sffuncLook1 Y Z Z <| sfFunc0 Y Z Z <| Qa9 0 f Y Z Z Z Z <| seq Y Z Z Z <| sm Y Z Z <| fun a5 y=>?_
 rcases Xa (x.regs==0) with g | g
 ·rw[g] at y
  have i:x.regs=0:=XD g;have F:Hid (x.regs=0):=i;clear i;clear g;refine St.go y <| sffuncLook1 ⟨_,d,Z,Z⟩ Z Z <| sfFunc1 ⟨_,d,Z,Z⟩ Z Z <| QaC 0 f ⟨_,d,Z,Z⟩ Z Z Z Z <| QbZ ⟨_,d,Z,Z⟩ Z Z <| seq ⟨_,d,Z,Z⟩ Z Z Z <| sp Y Z Z Z <| sm Y Z Z <| fun a7 z=>?_
  rcases Xa ((x.params.length:Int)==0) with g | g
  ·rw[g] at z
   have i:x.params.length=0:=by have L:=XD g;omega
   have H:Hid (x.params.length=0):=i;clear i;clear g;refine St.go z <| sffuncLook1 ⟨_,b,Z,Z⟩ Z Z <| sfFunc2 ⟨_,b,Z,Z⟩ Z Z <| QaC 0 f ⟨_,b,Z,Z⟩ Z Z Z Z ?_
   refine Qib cf168 f (QdH (Ya K.out.results f.bel) (by have:=M.out.2.2.1.1;omega)) ⟨_,b,Z,Z⟩ Z Z Z ?_;clear f;intro w9 G;refine sn ⟨_,b,Z,Z⟩ Z Z <| sp Y Z Z Z <| sa Y Z Z <| Yb fun S B=>l _ _ ?_
   refine XA ?_;with_reducible repeat first | refine Qg ?_ | refine Qd ?_
   have R:(!(decide (0<=QeI 0 x.results)))=true↔x.begins:=by
    have N:=F.out;have J:=H.out;have I:=QfF x.results 0;by_cases v:0<=QeI 0 x.results
    ·simp only[v,decide_true,Bool.not_true,Bool.false_eq_true,false_iff]
     exact fun h=>I.1 v h.2.2
    ·simp only[v,decide_false,Bool.not_false,true_iff]
     refine⟨N,J,?_⟩
     cases e:x.results.all (fun t=>t.kind==1) with
     | true=>rfl
     | false=>exact absurd (I.2 (by rw[e];decide)) v
   exact QU (t:=2) B Z Z ⟨by rw[<-Qhs R],G.bel⟩
  rw[g] at z
  have i:¬ x.params.length=0:=by have L:=XE g;omega
  have q:¬ x.params.length=0:=i;clear i;clear g;refine St.go z <| so b Z Z Z Z <| so b Z Z Z Z <| so b Z Z Z Z <| so b Z Z Z Z <| so b Z Z Z Z <| spf Y Z Z Z <| sa Y Z Z <| Yb fun P E=>l _ _ ?_
  refine XA ?_;with_reducible repeat first | refine Qg ?_ | refine Qd ?_
  have R:¬ x.begins:=fun h=>q h.2.1;exact QU (t:=2) E Z Z ⟨by rw[Qx R],f.bel⟩
 rw[g] at y
 have i:¬ x.regs=0:=XE g;have s:¬ x.regs=0:=i;clear i;clear g;refine St.go y <| so d Z Z Z Z <| so d Z Z Z Z <| so d Z Z Z Z <| so d Z Z Z Z <| so d Z Z Z Z <| spf Y Z Z Z <| sm Y Z Z <| so b Z Z Z Z <| so b Z Z Z Z <| so b Z Z Z Z <| so b Z Z Z Z <| so b Z Z Z Z <| spf Y Z Z Z <| sa Y Z Z <| Yb fun Q C=>l _ _ ?_
 refine XA ?_;with_reducible repeat first | refine Qg ?_ | refine Qd ?_
 have R:¬ x.begins:=fun h=>s h.1;exact QU (t:=2) C Z Z ⟨by rw[Qx R],f.bel⟩
theorem Qhu {m:List (Qe n)}{x:Qe n}{fp:FP}{y:Qk n}{bp:BP}(i:FIn w All x fp) (s:x.small) (l:BIn w All y bp) (q:y.small) :
 Rd prog 170 #[.agg #[.slice p m.length c,.int .i64 x.regs,.slice fp.pP x.params.length fp.cP,.slice fp.pR x.results.length fp.cR,.slice fp.pB x.blocks.length fp.cB,.int .i64 (fi:Int),.int .i64 y.regs,.slice bp.pP y.params.length bp.cP,.slice bp.pC y.code.length bp.cC,.int .i64 y.fin.op,.int .i64 y.fin.a,.int .i64 y.fin.yes.block,.slice bp.e.pYR y.fin.yes.regs.length bp.e.cYR,.slice bp.e.pYA y.fin.yes.args.length bp.e.cYA,.int .i64 y.fin.no.block,.slice bp.e.pNR y.fin.no.regs.length bp.e.cNR,.slice bp.e.pNA y.fin.no.args.length bp.e.cNA,.slice bp.e.pA y.fin.args.length bp.e.cA,.int .i64 (bi:Int)]] w (.bool (bdec (y.takes x))):=by
 have E:Hid _:=i;have P:Hid _:=s;have K:Hid _:=l;have F:Hid _:=q;clear i s l q;refine Qv (n:=21) func170 Z Z Z <| fun a v=>?_
 have H:=Ye w;replace v:Fr 21 a [(0,.agg #[.slice p m.length c,.int .i64 x.regs,.slice fp.pP x.params.length fp.cP,.slice fp.pR x.results.length fp.cR,.slice fp.pB x.blocks.length fp.cB,.int .i64 (fi:Int),.int .i64 y.regs,.slice bp.pP y.params.length bp.cP,.slice bp.pC y.code.length bp.cC,.int .i64 y.fin.op,.int .i64 y.fin.a,.int .i64 y.fin.yes.block,.slice bp.e.pYR y.fin.yes.regs.length bp.e.cYR,.slice bp.e.pYA y.fin.yes.args.length bp.e.cYA,.int .i64 y.fin.no.block,.slice bp.e.pNR y.fin.no.regs.length bp.e.cNR,.slice bp.e.pNA y.fin.no.args.length bp.e.cNA,.slice bp.e.pA y.fin.args.length bp.e.cA,.int .i64 (bi:Int)])]:=v;refine XW fun O C=>rg v fun k=>sB H Y Z Z <| fun M V d N=>sa Y Z Z <| Yb fun S J=>C _ _ <| XW fun U r=>Qap <| fun k f=>?_
 have b:(k[8]?).bind (fun o:Oper=>o.dst)=some 11:=f 8;clear f;refine St.go J <| sfblockLook1 Y Z Z <| sfBlock0 Y Z Z <| Qa9 0 d Y Z Z Z Z <| sfblockLook0 Y Z Z <| sffuncLook1 Y Z Z <| sfFunc0 Y Z Z <| Qa9 0 d Y Z Z Z Z <| seq Y Z Z Z <| sm Y Z Z <| fun T u=>?_
 rcases Xa (y.regs==x.regs) with g | g
 ·rw[g] at u
  have j:y.regs=x.regs:=XD g;have D:Hid (y.regs=x.regs):=j;clear j;clear g;refine St.go u <| sfblockLook1 ⟨_,b,Z,Z⟩ Z Z <| sfBlock1 ⟨_,b,Z,Z⟩ Z Z <| QaC 0 d ⟨_,b,Z,Z⟩ Z Z Z Z <| sfblockLook0 ⟨_,b,Z,Z⟩ Z Z <| sffuncLook1 ⟨_,b,Z,Z⟩ Z Z <| sfFunc1 ⟨_,b,Z,Z⟩ Z Z <| QaC 0 d ⟨_,b,Z,Z⟩ Z Z Z Z <| Qmu cf184 d (QeN (Ya K.out.params d.bel) (Ya E.out.params d.bel) F.out.2.1) ⟨_,b,Z,Z⟩ Z Z Z Z <| fun L A=>sp Y Z Z Z <| sa Y Z Z <| Yb fun Q G=>r _ _ ?_
  refine XA ?_;with_reducible repeat first | refine Qg ?_ | refine Qd ?_
  have R:y.params=x.params↔y.takes x:=⟨fun h=>⟨D.out,h⟩,fun h=>h.2⟩;exact QU (t:=2) G Z Z ⟨by rw[Qgf R],A.bel⟩
 rw[g] at u
 have j:¬ y.regs=x.regs:=XE g;have B:¬ y.regs=x.regs:=j;clear j;clear g;refine St.go u <| so b Z Z Z Z <| so b Z Z Z Z <| so b Z Z Z Z <| so b Z Z Z Z <| so b Z Z Z Z <| so b Z Z Z Z <| so b Z Z Z Z <| so b Z Z Z Z <| spf Y Z Z Z <| sa Y Z Z <| Yb fun I z=>r _ _ ?_
 refine XA ?_;with_reducible repeat first | refine Qg ?_ | refine Qd ?_
 have R:¬ y.takes x:=fun h=>B h.1;exact QU (t:=2) z Z Z ⟨by rw[Qx R],d.bel⟩
theorem Qez {m:List (Qe n)}{x:Qe n}{fp:FP}(A:FIn w All x fp) (q:x.small) :
 Rd prog 91 #[.agg #[.slice p m.length c,.int .i64 x.regs,.slice fp.pP x.params.length fp.cP,.slice fp.pR x.results.length fp.cR,.slice fp.pB x.blocks.length fp.cB,.int .i64 (fi:Int)]] w (.int .i64 (x.code fi)):=by
 have H:=Z6 A;have J:=Z6 q;have R:=q.1;have S:Hid (GbS w (w.alloc (.cells #[.slice p m.length c,.int .i64 x.regs,.slice fp.pP x.params.length fp.cP,.slice fp.pR x.results.length fp.cR,.slice fp.pB x.blocks.length fp.cB,.int .i64 (fi:Int)] 119)) [(w.heap.size,#[.slice p m.length c,.int .i64 x.regs,.slice fp.pP x.params.length fp.cP,.slice fp.pR x.results.length fp.cR,.slice fp.pB x.blocks.length fp.cB,.int .i64 (fi:Int)],119)]):=GbS.new ⟨Zr,fun i b s=>by simp at s⟩ _ _;clear A q;unfold Rd;go_enter func91,ntmps91
 go_upto_region 1 with fail
 generalize w.alloc (.cells #[.slice p m.length c,.int .i64 x.regs,.slice fp.pP x.params.length fp.cP,.slice fp.pR x.results.length fp.cR,.slice fp.pB x.blocks.length fp.cB,.int .i64 (fi:Int)] 119)=w1 at S |-;generalize w.heap.size=X at S |-;have g:=Qa (S.out.box 0 _ Z) 1 _ Z;go_cut [14] (fun v wx=>v=.bool (decide (x.regs<0\/6<x.regs))/\GbS w wx [(X,#[.slice p m.length c,.int .i64 x.regs,.slice fp.pP x.params.length fp.cP,.slice fp.pR x.results.length fp.cR,.slice fp.pB x.blocks.length fp.cB,.int .i64 (fi:Int)],119)])
 case first =>
  by_cases h:x.regs<0
  ·have L:decide (x.regs<0)=true:=Xt h;have E:decide (x.regs<0\/6<x.regs)=true:=Xt (.inl (by omega));go_wp2
   go_meet;exact⟨by rw[E],S.out⟩
  ·have L:decide (x.regs<0)=false:=Xu h;have E:decide (x.regs<0\/6<x.regs)=decide (x.regs>6):=by rw[decide_eq_decide];omega
   go_wp2
   all_goals
    go_meet;exact⟨by rw[E],S.out⟩
 case rest =>
  obtain⟨rfl,j⟩:=hcut
  have y:=Z6 j;clear j S g;by_cases f:x.regs<0\/6<x.regs
  ·rw[Xt f]
   have E:x.code fi=1:=Xs f;clear f;go_wp2_with fail
   go_ret;exact⟨by first | rfl | (rw[E];done) | (rw[E];rfl),y.out.bel⟩
  rw[Xu f]
  have g:=Qa (y.out.box 0 _ Z) 1 _ Z;have z:=Qa (y.out.box 0 _ Z) 2 _ Z;have l:=Z6 (QaN (regs:=x.regs) (Ya H.out.params y.out.bel) J.out.2.1);unfold Rd at l;go_wp2_with fail
  refine l.out.mono ?_;rintro _ V ⟨rfl,B⟩;have t:=Z6 (y.out.below B);clear B l g z y;generalize a:listC x.regs x.params=o;by_cases I:o=0
  rotate_left
  ·have W:(o != 0)=true:=by simpa using I
   have E:x.code fi=o:=by unfold Qe.code;rw[Xr f,a,Xs I]
   go_wp2_with fail
   go_ret;exact⟨by first | rfl | (rw[E];done) | (rw[E];rfl),t.out.bel⟩
  subst I;have g:=Qa (t.out.box 0 _ Z) 1 _ Z;have z:=Qa (t.out.box 0 _ Z) 3 _ Z;have l:=Z6 (QaN (regs:=x.regs) (Ya H.out.results t.out.bel) J.out.2.2.1);unfold Rd at l;go_wp2_with fail
  refine l.out.mono ?_;rintro _ V ⟨rfl,B⟩;have C:=Z6 (t.out.below B);clear B l g z t;generalize e:listC x.regs x.results=o;by_cases K:o=0
  rotate_left
  ·have W:(o != 0)=true:=by simpa using K
   have E:x.code fi=o:=by unfold Qe.code;rw[Xr f,a,Xr (by simp),e,Xs K]
   go_wp2_with fail
   go_ret;exact⟨by first | rfl | (rw[E];done) | (rw[E];rfl),C.out.bel⟩
  subst K;go_upto_region 9 with fail
  have G:=Qa (C.out.box 0 _ Z) 4 _ Z;go_cut [46] (fun v wx=>v=.bool (decide (x.blocks.length<1\/12<x.blocks.length))/\GbS w wx [(X,#[.slice p m.length c,.int .i64 x.regs,.slice fp.pP x.params.length fp.cP,.slice fp.pR x.results.length fp.cR,.slice fp.pB x.blocks.length fp.cB,.int .i64 (fi:Int)],119)])
  case first =>
   by_cases h:(x.blocks.length:Int)<1
   ·have L:decide ((x.blocks.length:Int)<1)=true:=Xt h;have E:decide (x.blocks.length<1\/12<x.blocks.length)=true:=Xt (.inl (by omega));go_wp2
    go_meet;exact⟨by rw[E],C.out⟩
   ·have L:decide ((x.blocks.length:Int)<1)=false:=Xu h;have E:decide (x.blocks.length<1\/12<x.blocks.length)=decide ((x.blocks.length:Int)>12):=by rw[decide_eq_decide];omega
    go_wp2
    all_goals
     go_meet;exact⟨by rw[E],C.out⟩
  case rest =>
   obtain⟨rfl,j⟩:=hcut
   have d:=Z6 j;clear j C G;by_cases k:x.blocks.length<1\/12<x.blocks.length
   ·rw[Xt k]
    have E:x.code fi=2:=by unfold Qe.code;rw[Xr f,a,Xr (by simp),e,Xr (by simp),Xs k]
    clear k;go_wp2_with fail
    go_ret;exact⟨by first | rfl | (rw[E];done) | (rw[E];rfl),d.out.bel⟩
   rw[Xu k]
   go_upto_region 11 with fail
   have Q:Hid (fi=0/\¬ x.begins->x.code fi=18):=by
    intro h;unfold Qe.code;rw[Xr f,a,Xr (by simp),e,Xr (by simp),Xr k]
    exact Xs h
   have T:Hid (¬ (fi=0/\¬ x.begins)->x.code fi=0):=by
    intro h;unfold Qe.code;rw[Xr f,a,Xr (by simp),e,Xr (by simp),Xr k]
    exact Xr h
   clear f a e k;have g:=Qa (d.out.box 0 _ Z) 0 _ Z;have z:=Qa (d.out.box 0 _ Z) 1 _ Z;have O:=Qa (d.out.box 0 _ Z) 2 _ Z;have G:=Qa (d.out.box 0 _ Z) 3 _ Z;have P:=Qa (d.out.box 0 _ Z) 4 _ Z;have N:=Qa (d.out.box 0 _ Z) 5 _ Z;go_cut [54] (fun v wx=>v=.bool (bdec (fi=0/\¬ x.begins))/\GbS w wx [(X,#[.slice p m.length c,.int .i64 x.regs,.slice fp.pP x.params.length fp.cP,.slice fp.pR x.results.length fp.cR,.slice fp.pB x.blocks.length fp.cB,.int .i64 (fi:Int)],119)])
   case first =>
    by_cases u:fi=0
    rotate_left
    ·have U:((fi:Int)==0)=false:=by simpa using u
     have E:bdec (fi=0/\¬ x.begins)=false:=Qx (fun h=>u h.1);clear u;go_wp2
     go_meet;exact⟨by rw[E],d.out⟩
    have U:((fi:Int)==0)=true:=by simpa using u
    have F:=Z6 (Qen (m:=m) (p:=p) (c:=c) (fi:=fi) (fp:=fp) (FIn.below H.out d.out.bel) J.out);unfold Rd at F
    have E:bdec (fi=0/\¬ x.begins)=!bdec x.begins:=by
     by_cases s:x.begins
     ·rw[QB s];exact Qx (fun h=>h.2 s)
     ·rw[Qx s];exact QB ⟨u,s⟩
    generalize bdec x.begins=bb at F E;clear u;go_wp2_with fail
    refine F.out.mono ?_;rintro _ w6 ⟨rfl,M⟩;have D:=Z6 (d.out.below M);clear M F g z O G P N;go_wp2
    all_goals
     go_meet;exact⟨by rw[E],D.out⟩
   case rest =>
    obtain⟨rfl,j⟩:=hcut
    have D:=Z6 j;clear j d g z O G P N;by_cases r:fi=0/\¬ x.begins
    ·rw[QB r]
     have E:x.code fi=18:=Q.out r;clear r;go_wp2_with fail
     go_ret;exact⟨by first | rfl | (rw[E];done) | (rw[E];rfl),D.out.bel⟩
    ·rw[Qx r]
     have E:x.code fi=0:=T.out r;clear r;go_wp2_with fail
     go_ret;exact⟨by first | rfl | (rw[E];done) | (rw[E];rfl),D.out.bel⟩
theorem QdN {m:List (Qe n)}{x:Qe n}{fp:FP}{y:Qk n}{bp:BP}(X:FIn w All x fp) (O:x.small) (U:BIn w All y bp) (ac:y.small) :
 Rd prog 140 #[.agg #[.slice p m.length c,.int .i64 x.regs,.slice fp.pP x.params.length fp.cP,.slice fp.pR x.results.length fp.cR,.slice fp.pB x.blocks.length fp.cB,.int .i64 (fi:Int),.int .i64 y.regs,.slice bp.pP y.params.length bp.cP,.slice bp.pC y.code.length bp.cC,.int .i64 y.fin.op,.int .i64 y.fin.a,.int .i64 y.fin.yes.block,.slice bp.e.pYR y.fin.yes.regs.length bp.e.cYR,.slice bp.e.pYA y.fin.yes.args.length bp.e.cYA,.int .i64 y.fin.no.block,.slice bp.e.pNR y.fin.no.regs.length bp.e.cNR,.slice bp.e.pNA y.fin.no.args.length bp.e.cNA,.slice bp.e.pA y.fin.args.length bp.e.cA,.int .i64 (bi:Int)]] w (.int .i64 (y.code' x bi)):=by
 have hx:Hid _:=X;have hs:Hid _:=O;have hy:Hid _:=U;have ht:Hid _:=ac;clear X O U ac;refine Qv (n:=41) func140 Z Z Z <| fun a hF=>?_
 have hW:=Ye w;replace hF:Fr 41 a [(0,.agg #[.slice p m.length c,.int .i64 x.regs,.slice fp.pP x.params.length fp.cP,.slice fp.pR x.results.length fp.cR,.slice fp.pB x.blocks.length fp.cB,.int .i64 (fi:Int),.int .i64 y.regs,.slice bp.pP y.params.length bp.cP,.slice bp.pC y.code.length bp.cC,.int .i64 y.fin.op,.int .i64 y.fin.a,.int .i64 y.fin.yes.block,.slice bp.e.pYR y.fin.yes.regs.length bp.e.cYR,.slice bp.e.pYA y.fin.yes.args.length bp.e.cYA,.int .i64 y.fin.no.block,.slice bp.e.pNR y.fin.no.regs.length bp.e.cNR,.slice bp.e.pNA y.fin.no.args.length bp.e.cNA,.slice bp.e.pA y.fin.args.length bp.e.cA,.int .i64 (bi:Int)])]:=hF;refine XW fun K1 al=>rg hF fun d=>sB hW Y Z Z <| fun w2 B2 g hN=>sa Y Z Z <| Yb fun a3 h3=>al _ _ <| XW fun K4 ap=>XW fun K5 M=>Qap <| fun d k=>?_
 have j:(d[8]?).bind (fun o:Oper=>o.dst)=some 12:=k 8;clear k;refine St.go h3 <| sfblockLook1 Y Z Z <| sfBlock0 Y Z Z <| Qa9 0 g Y Z Z Z Z <| sfblockLook0 Y Z Z <| sffuncLook1 Y Z Z <| sfFunc0 Y Z Z <| Qa9 0 g Y Z Z Z Z <| slt Y Z Z Z <| sm Y Z Z <| fun a6 h6=>?_
 rcases Xa (decide (y.regs<x.regs)) with b | b
 ·rw[b] at h6
  have b3:y.regs<x.regs:=Xv b;clear b;refine St.go h6 <| so j Z Z Z Z <| so j Z Z Z Z <| so j Z Z Z Z <| so j Z Z Z Z <| sp Y Z Z Z <| Yb fun a8 h8=>M _ _ <| Qhg (t:=17) h8 Z <| XW fun K9 ae=>rg h8 fun d=>sa Y Z Z <| Yb fun b0 ai=>ae _ _ ?_
  refine XA ?_;with_reducible repeat first | refine Qg ?_ | refine Qd ?_
  have R:y.code' x bi=1:=Xs (by omega);exact QU (t:=2) ai Z Z ⟨by rw[R],g.bel⟩
 rw[b] at h6
 have au:¬ (y.regs<x.regs):=Xw b;clear b;refine St.go h6 <| sfblockLook1 ⟨_,j,Z,Z⟩ Z Z <| sfBlock0 ⟨_,j,Z,Z⟩ Z Z <| Qa9 0 g ⟨_,j,Z,Z⟩ Z Z Z Z <| sgt ⟨_,j,Z,Z⟩ Z Z Z <| spf Y Z Z Z <| Yb fun bz F=>M _ _ <| QR (t:=17) F Z (fun b=>?_) (fun b=>?_)
 ·have a0:16<y.regs:=Xv b
  clear b;refine XW fun a1 W=>rg F fun d=>sa Y Z Z <| Yb fun bh ak=>W _ _ ?_
  refine XA ?_;with_reducible repeat first | refine Qg ?_ | refine Qd ?_
  have R:y.code' x bi=1:=Xs (by omega);exact QU (t:=2) ak Z Z ⟨by rw[R],g.bel⟩
 have ax:¬ (16<y.regs):=Xw b;clear b;refine XB <| ap _ _ <| XW fun a2 T=>XW fun bq V=>rg F fun d=>sfblockLook1 Y Z Z <| sfBlock1 Y Z Z <| QaC 0 g Y Z Z Z Z <| sfblockLook1 Y Z Z <| sfBlock0 Y Z Z <| Qa9 0 g Y Z Z Z Z <| Qib cf138 g (QaN (regs:=y.regs) (Ya hy.out.params g.bel) ht.out.2.1) Y Z Z Z <| fun bl f=>sa Y Z Z <| Yb fun bf am=>V _ _ <| XW fun b1 Q=>rg am fun d=>sm Y Z Z <| sne Y Z Z Z <| Yb fun a9 B=>Q _ _ <| QR (t:=26) B Z (fun b=>?_) (fun b=>?_)
 ·have r:¬ (listC y.regs y.params)=0:=bne_iff_ne.1 b
  have ar:¬ (listC y.regs y.params)=0:=r;clear r;clear b;refine XW fun bv N=>rg B fun d=>sm Y Z Z <| sa Y Z Z <| Yb fun a7 aj=>N _ _ ?_
  refine XA ?_;with_reducible repeat first | refine Qg ?_ | refine Qd ?_
  have R:y.code' x bi=listC y.regs y.params:=(Xr (by omega)).trans (Xs (by omega));exact QU (t:=2) aj Z Z ⟨by rw[R],f.bel⟩
 have r:(listC y.regs y.params)=0:=XH.1 b;have i:Hid ((listC y.regs y.params)=0):=r;clear r;clear b;refine XB <| T _ _ <| XW fun bk v=>XW fun bt A=>Qap <| fun d k=>?_
 have q:(d[3]?).bind (fun o:Oper=>o.dst)=some 31:=k 3;clear k;refine St.go B <| sfblockLook2 Y Z Z <| Qa9 0 f Y Z Z Z Z <| seq Y Z Z Z <| sm Y Z Z <| fun b2 u=>?_
 rcases Xa ((bi:Int)==0) with b | b
 ·rw[b] at u
  have r:bi=0:=by have h8:=XD b;omega
  have s:Hid (bi=0):=r;clear r;clear b;refine St.go u <| sS 0 19 underlying166 Z infblockLook f ⟨_,q,Z,Z⟩ Z Z Z Z <| Qko cf170 f (Qhu (m:=m) (p:=p) (c:=c) (fi:=fi) (bi:=bi) (hx.out.below f.bel) hs.out (hy.out.below f.bel) ht.out) ⟨_,q,Z,Z⟩ Z Z <| fun bw l=>sn ⟨_,q,Z,Z⟩ Z Z <| sp Y Z Z Z <| Yb fun bd C=>A _ _ <| QR (t:=35) C Z (fun b=>?_) (fun b=>?_)
  ·have b:(bdec (y.takes x))=false:=by simpa using b
   have P:¬ (y.takes x):=fun h=>by rw[QB h] at b;cases b
   clear b;refine XW fun a5 ad=>rg C fun d=>sa Y Z Z <| Yb fun bs an=>ad _ _ ?_
   refine XA ?_;with_reducible repeat first | refine Qg ?_ | refine Qd ?_
   have:=i.out
   have:=s.out
   have R:y.code' x bi=9:=(Xr (by omega)).trans ((Xr (by omega)).trans (Xs (⟨by omega,Qig P⟩)));exact QU (t:=2) an Z Z ⟨by rw[R],l.bel⟩
  have b:(bdec (y.takes x))=true:=by simpa using b
  have z:(y.takes x):=QdB.1 b;clear b;refine XB <| v _ _ <| XW fun bc S=>XW fun bj K=>rg C fun d=>sfblockLook1 Y Z Z <| sfBlock2 Y Z Z <| Qfy 0 l Y Z Z Z Z <| QeG Y Z Z <| sgt Y Z Z Z <| Yb fun br D=>K _ _ <| QR (t:=40) D Z (fun b=>?_) (fun b=>?_)
  ·have ay:40<y.code.length:=by have:=Xv b;omega
   clear b;refine XW fun bb ab=>rg D fun d=>sa Y Z Z <| Yb fun bu af=>ab _ _ ?_
   refine XA ?_;with_reducible repeat first | refine Qg ?_ | refine Qd ?_
   have:=i.out
   have:=s.out
   have R:y.code' x bi=2:=(Xr (by omega)).trans ((Xr (by omega)).trans ((Xr (fun h=>Qeu z h.2)).trans (Xs (by omega))));exact QU (t:=2) af Z Z ⟨by rw[R],l.bel⟩
  have aw:¬ (40<y.code.length):=by have:=Xw b;omega
  clear b;refine XB <| S _ _ <| XW fun ba I=>rg D fun d=>sa Y Z Z <| Yb fun bg ag=>I _ _ ?_
  refine XA ?_;with_reducible repeat first | refine Qg ?_ | refine Qd ?_
  have:=i.out
  have:=s.out
  have R:y.code' x bi=0:=(Xr (by omega)).trans ((Xr (by omega)).trans ((Xr (fun h=>Qeu z h.2)).trans ((Xr (by omega)).trans (rfl))));exact QU (t:=2) ag Z Z ⟨by rw[R],l.bel⟩
 rw[b] at u
 have r:¬ bi=0:=by have h8:=XE b;omega
 have aq:¬ bi=0:=r;clear r;clear b;refine St.go u <| so q Z Z Z Z <| so q Z Z Z Z <| so q Z Z Z Z <| spf Y Z Z Z <| Yb fun b4 H=>A _ _ <| Qiv (t:=35) H Z <| XB <| v _ _ <| XW fun bx L=>XW fun bo J=>rg H fun d=>sfblockLook1 Y Z Z <| sfBlock2 Y Z Z <| Qfy 0 f Y Z Z Z Z <| QeG Y Z Z <| sgt Y Z Z Z <| Yb fun a4 E=>J _ _ <| QR (t:=40) E Z (fun b=>?_) (fun b=>?_)
 ·have av:40<y.code.length:=by have:=Xv b;omega
  clear b;refine XW fun be G=>rg E fun d=>sa Y Z Z <| Yb fun bm ah=>G _ _ ?_
  refine XA ?_;with_reducible repeat first | refine Qg ?_ | refine Qd ?_
  have:=i.out
  have R:y.code' x bi=2:=(Xr (by omega)).trans ((Xr (by omega)).trans ((Xr (by omega)).trans (Xs (by omega))));exact QU (t:=2) ah Z Z ⟨by rw[R],f.bel⟩
 have az:¬ (40<y.code.length):=by have:=Xw b;omega
 clear b;refine XB <| L _ _ <| XW fun b5 aa=>rg E fun d=>sa Y Z Z <| Yb fun bn ao=>aa _ _ ?_
 refine XA ?_;with_reducible repeat first | refine Qg ?_ | refine Qd ?_
 have:=i.out
 have R:y.code' x bi=0:=(Xr (by omega)).trans ((Xr (by omega)).trans ((Xr (by omega)).trans ((Xr (by omega)).trans (rfl))));exact QU (t:=2) ao Z Z ⟨by rw[R],f.bel⟩
theorem QgY {l:List Qz}{Bc:Nat}(G:Nat->Qz->Int × Int) (P:insL.list.In w All l [.slice p l.length c]) (a4:l.length<=100000)
 (H:∀ (i:Nat) x (z:IP) wx,l[i]?=some x->IIn wx All x z->Below w.heap.size w wx->Rd prog 143 #[.int .i64 (i:Int),.agg #[.int .i64 x.op,.int .i64 x.a,.int .i64 x.b,.int .i64 x.c,.int .i64 x.k,.int .i64 x.n,.slice z.pR x.regs.length z.cR,.slice z.pA x.args.length z.cA],.pointer (some ⟨Bc,0,none⟩)] wx (Qar (G i x))) :
 Rd prog 142 #[.slice p l.length c,.func (.func 143) #[] #[.pointer (some ⟨Bc,0,none⟩)]] w (Qar (firstF G 0 l)):=by
 have hl:Hid _:=P;have ao:Hid _:=H;clear P H;refine Qv (n:=25) func142 Z Z Z <| fun a hF=>?_
 have hW:=Ye w;replace hF:Fr 25 a [(0,.slice p l.length c),(1,.func (.func 143) #[] #[.pointer (some ⟨Bc,0,none⟩)])]:=hF;refine XW fun K1 al=>rg hF fun d=>ZI hW Y Z <| fun w2 B2 ab hN=>Yb fun a3 h3=>al _ _ <| XW fun K4 ap=>XW fun K5 ak=>rg h3 fun d=>sm Y Z Z <| QeG Y Z Z <| sm Y Z Z <| Yb fun a6 C=>ak _ _ <| XJ <| Qay (fun r a w'=>∃ q:Nat,q<=l.length/\r=l.length - q/\(∀ (j:Nat) y,j<q->l[j]?=some y->(G j y).1=0)/\Fr 25 a [(1,.func (.func 143) #[] #[.pointer (some ⟨Bc,0,none⟩)]),(0,.slice p l.length c),(4,.pointer (some ⟨B2,0,none⟩)),(8,.slice p l.length c),(9,.int .i64 (l.length:Int)),(10,.int .i64 (q:Int))]/\Wd w w' [(B2,#[.int .i64 0,.int .i64 0],32)]) (l.length) ⟨0,Xb _,Z,(fun j y hj=>by omega),(C.keep (C.keep (C.keep (C.keep (C.keep (C.keep C.nil (t:=10) Z) (t:=9) Z) (t:=8) Z) (t:=4) Z) (t:=0) Z) (t:=1) Z),ab⟩ ?_
 clear C ab;rintro r a7 w7 ⟨q,hq,hr,A,aj,M⟩ KL ag;refine XW fun K8 am=>rg aj fun d=>slt Y Z Z Z <| Yb fun a9 s=>am _ _ <| XW fun bh W=>QR (t:=11) s Z (fun u=>?_) (fun u=>?_)
 ·have E:q<l.length:=by have:=Xv u;omega
  clear u;obtain⟨x,o⟩:∃ v9,(l)[q]?=some v9:=⟨_,Zg E⟩
  obtain⟨g1,o1,i1,L,E1,I⟩:=QfM hl.out o
  replace I:Hid _:=I;replace L:Hid _:=L;replace o:Hid _:=o;replace E1:Hid _:=E1;refine XB <| W _ _ <| XW fun bk T=>XJ <| XW fun a2 U=>rg s fun d=>sm Y Z Z <| QgO L.out E Y Z Z Z <| sSE underlying65 Z (QW E1.out M.bel) infIns Y Z Z <| Qj0 M Y Z <| fun av ar X hN=>sa Y Z Z <| sT 0 X Z Z infIns Z Z Z <| fun af h=>Yb fun ba ai=>U _ _ <| XW fun a5 V=>rg ai fun d=>sm Y Z Z <| sm Y Z Z <| sS 0 8 underlying65 Z infIns h Y Z Z Z Z <| Qj1 cf143 h (ao.out q x i1 af o.out (I.out.below h.bel) h.bel) Y Z Z Z Z <| fun bg ae=>ZI ae Y Z <| fun bf bb O hN=>sT 0 O Z Z infFault Z Z Z <| fun be m=>Yb fun a8 an=>V _ _ <| XW fun bi ac=>rg an fun d=>sfFault0 Y Z Z <| Qa9 0 m Y Z Z Z Z <| sne Y Z Z Z <| Yb fun az J=>ac _ _ <| QR (t:=21) J Z (fun u=>?_) (fun u=>?_)
  ·have s:¬ ((G q x).1)=0:=bne_iff_ne.1 u
   have N:¬ ((G q x).1)=0:=s;clear s;clear u;refine XW fun bc aa=>rg J fun d=>sS 0 2 underlying32 Z infFault m Y Z Z Z Z <| sT 2 m Z Z infFault Z Z Z <| fun au B=>Yb fun ay ah=>aa _ _ ?_
   refine XA ?_;with_reducible repeat first | refine Qg ?_ | refine Qd ?_
   have R:firstF G 0 l=G q x:=by have s:=QbG (f:=G) (j:=0) o.out (fun k y hk F=>by rw[XK];exact A k y hk F) (by rw[XK];exact N);rwa [XK] at s
   exact QJ 2 ah B Z Z Z underlying32 Z infFault ⟨by show Ending.returned (.agg #[.int .i64 ((G q x).1),.int .i64 ((G q x).2)])=_;rw[R],B.bel⟩
  have s:((G q x).1)=0:=XH.1 u;have N:Hid (((G q x).1)=0):=s;clear s;clear u;refine XB <| T _ _ <| rg J fun d=>sad (by omega) Y Z Z Z <| sm Y Z Z <| Yb fun a0 g=>ag _ _ (l.length - (q+1)) (by omega) ⟨q+1,by omega,Z,?_,(g.keep (g.keep (g.keep (g.keep (g.keep (g.keep g.nil (t:=10) Z) (t:=9) Z) (t:=8) Z) (t:=4) Z) (t:=0) Z) (t:=1) Z),m.tail.tail⟩
  ·intro j y hj F
   by_cases e:j=q
   ·subst e;rw[o.out] at F;cases F;exact N.out
   ·exact A j y (by omega) F
 have ax:q=l.length:=by have:=Xw u;omega
 clear u;refine wp_exit <| ap _ _ <| XW fun bd Q=>rg s fun d=>fun bl S=>Q9 (t:=24) (v:=.agg #[.int .i64 0,.int .i64 0]) (w':=w7) S Z Z Z (fun K hK=>?_) ?_
 ·go_simp
  exact hK
 clear S;intro bj ad;refine St.go ad <| sT 0 M Z Z infFault Z Z Z <| fun a1 D=>Yb fun aw aq=>Q _ _ ?_
 refine XA ?_;with_reducible repeat first | refine Qg ?_ | refine Qd ?_
 have R:firstF G 0 l=(0,0):=QaM (fun k y F=>by rw[XK];exact A k y (by have:=(Zi F).1;omega) F);exact QJ 0 aq D Z Z Z underlying32 Z infFault ⟨by show Ending.returned (.agg #[.int .i64 0,.int .i64 0])=_;rw[R],D.bel⟩
theorem QeO {l:List (Qk n)}{Bc:Nat}(G:Nat->(Qk n)->Int × Int) (O:(Zu n).list.In w All l [.slice p l.length c]) (a2:l.length<=100000)
 (F:∀ (i:Nat) x (z:BP) wx,l[i]?=some x->BIn wx All x z->Below w.heap.size w wx->Rd prog 95 #[.int .i64 (i:Int),.agg #[.int .i64 x.regs,.slice z.pP x.params.length z.cP,.slice z.pC x.code.length z.cC,.int .i64 x.fin.op,.int .i64 x.fin.a,.int .i64 x.fin.yes.block,.slice z.e.pYR x.fin.yes.regs.length z.e.cYR,.slice z.e.pYA x.fin.yes.args.length z.e.cYA,.int .i64 x.fin.no.block,.slice z.e.pNR x.fin.no.regs.length z.e.cNR,.slice z.e.pNA x.fin.no.args.length z.e.cNA,.slice z.e.pA x.fin.args.length z.e.cA],.pointer (some ⟨Bc,0,none⟩)] wx (Qar (G i x))) :
 Rd prog 94 #[.slice p l.length c,.func (.func 95) #[] #[.pointer (some ⟨Bc,0,none⟩)]] w (Qar (firstF G 0 l)):=by
 have hl:Hid _:=O;have an:Hid _:=F;clear O F;refine Qv (n:=25) func94 Z Z Z <| fun a hF=>?_
 have hW:=Ye w;replace hF:Fr 25 a [(0,.slice p l.length c),(1,.func (.func 95) #[] #[.pointer (some ⟨Bc,0,none⟩)])]:=hF;refine XW fun K1 ak=>rg hF fun b=>ZI hW Y Z <| fun w2 B2 aa hN=>Yb fun a3 h3=>ak _ _ <| XW fun K4 ao=>XW fun K5 aj=>rg h3 fun b=>sm Y Z Z <| QdS Y Z Z <| sm Y Z Z <| Yb fun a6 B=>aj _ _ <| XJ <| Qay (fun r a w'=>∃ q:Nat,q<=l.length/\r=l.length - q/\(∀ (j:Nat) y,j<q->l[j]?=some y->(G j y).1=0)/\Fr 25 a [(1,.func (.func 95) #[] #[.pointer (some ⟨Bc,0,none⟩)]),(0,.slice p l.length c),(4,.pointer (some ⟨B2,0,none⟩)),(8,.slice p l.length c),(9,.int .i64 (l.length:Int)),(10,.int .i64 (q:Int))]/\Wd w w' [(B2,#[.int .i64 0,.int .i64 0],32)]) (l.length) ⟨0,Xb _,Z,(fun j y hj=>by omega),(B.keep (B.keep (B.keep (B.keep (B.keep (B.keep B.nil (t:=10) Z) (t:=9) Z) (t:=8) Z) (t:=4) Z) (t:=0) Z) (t:=1) Z),aa⟩ ?_
 clear B aa;rintro r a7 w7 ⟨q,hq,hr,u,ai,L⟩ KL af;refine XW fun K8 al=>rg ai fun b=>slt Y Z Z Z <| Yb fun a9 o=>al _ _ <| XW fun bg V=>QR (t:=11) o Z (fun s=>?_) (fun s=>?_)
 ·have D:q<l.length:=by have:=Xv s;omega
  clear s;obtain⟨x,m⟩:∃ v9,(l)[q]?=some v9:=⟨_,Zg D⟩
  obtain⟨g1,o1,b1,J,E1,H⟩:=Qby hl.out m
  replace H:Hid _:=H;replace J:Hid _:=J;replace m:Hid _:=m;replace E1:Hid _:=E1;refine XB <| V _ _ <| XW fun bj S=>XJ <| XW fun a1 T=>rg o fun b=>sm Y Z Z <| QdA J.out D Y Z Z Z <| sSE underlying73 Z (QW E1.out L.bel) infBlock Y Z Z <| Qfd L Y Z <| fun au aq W hN=>sa Y Z Z <| sT 0 W Z Z infBlock Z Z Z <| fun ae g=>Yb fun a8 ah=>T _ _ <| XW fun a4 U=>rg ah fun b=>sm Y Z Z <| sm Y Z Z <| sS 0 12 underlying73 Z infBlock g Y Z Z Z Z <| Qj1 cf95 g (an.out q x b1 ae m.out (H.out.below g.bel) g.bel) Y Z Z Z Z <| fun bf ad=>ZI ad Y Z <| fun be ba N hN=>sT 0 N Z Z infFault Z Z Z <| fun bd h=>Yb fun a5 am=>U _ _ <| XW fun bh ab=>rg am fun b=>sfFault0 Y Z Z <| Qa9 0 h Y Z Z Z Z <| sne Y Z Z Z <| Yb fun ay I=>ab _ _ <| QR (t:=21) I Z (fun s=>?_) (fun s=>?_)
  ·have o:¬ ((G q x).1)=0:=bne_iff_ne.1 s
   have M:¬ ((G q x).1)=0:=o;clear o;clear s;refine XW fun bb X=>rg I fun b=>sS 0 2 underlying32 Z infFault h Y Z Z Z Z <| sT 2 h Z Z infFault Z Z Z <| fun ar A=>Yb fun ax ag=>X _ _ ?_
   refine XA ?_;with_reducible repeat first | refine Qg ?_ | refine Qd ?_
   have R:firstF G 0 l=G q x:=by have o:=QbG (f:=G) (j:=0) m.out (fun k y hk E=>by rw[XK];exact u k y hk E) (by rw[XK];exact M);rwa [XK] at o
   exact QJ 2 ag A Z Z Z underlying32 Z infFault ⟨by show Ending.returned (.agg #[.int .i64 ((G q x).1),.int .i64 ((G q x).2)])=_;rw[R],A.bel⟩
  have o:((G q x).1)=0:=XH.1 s;have M:Hid (((G q x).1)=0):=o;clear o;clear s;refine XB <| S _ _ <| rg I fun b=>sad (by omega) Y Z Z Z <| sm Y Z Z <| Yb fun az d=>af _ _ (l.length - (q+1)) (by omega) ⟨q+1,by omega,Z,?_,(d.keep (d.keep (d.keep (d.keep (d.keep (d.keep d.nil (t:=10) Z) (t:=9) Z) (t:=8) Z) (t:=4) Z) (t:=0) Z) (t:=1) Z),h.tail.tail⟩
  ·intro j y hj E
   by_cases e:j=q
   ·subst e;rw[m.out] at E;cases E;exact M.out
   ·exact u j y (by omega) E
 have aw:q=l.length:=by have:=Xw s;omega
 clear s;refine wp_exit <| ao _ _ <| XW fun bc P=>rg o fun b=>fun bk Q=>Q9 (t:=24) (v:=.agg #[.int .i64 0,.int .i64 0]) (w':=w7) Q Z Z Z (fun K hK=>?_) ?_
 ·go_simp
  exact hK
 clear Q;intro bi ac;refine St.go ac <| sT 0 L Z Z infFault Z Z Z <| fun a0 C=>Yb fun av ap=>P _ _ ?_
 refine XA ?_;with_reducible repeat first | refine Qg ?_ | refine Qd ?_
 have R:firstF G 0 l=(0,0):=QaM (fun k y E=>by rw[XK];exact u k y (by have:=(Zi E).1;omega) E);exact QJ 0 ap C Z Z Z underlying32 Z infFault ⟨by show Ending.returned (.agg #[.int .i64 0,.int .i64 0])=_;rw[R],C.bel⟩
theorem Qgg {l:List (Qe n)}{Bc:Nat}(G:Nat->(Qe n)->Int × Int) (O:(Qam n).In w All l [.slice p l.length c]) (a2:l.length<=100000)
 (F:∀ (i:Nat) x (z:FP) wx,l[i]?=some x->FIn wx All x z->Below w.heap.size w wx->Rd prog 57 #[.int .i64 (i:Int),.agg #[.int .i64 x.regs,.slice z.pP x.params.length z.cP,.slice z.pR x.results.length z.cR,.slice z.pB x.blocks.length z.cB],.pointer (some ⟨Bc,0,none⟩)] wx (Qar (G i x))) :
 Rd prog 56 #[.slice p l.length c,.func (.func 57) #[] #[.pointer (some ⟨Bc,0,none⟩)]] w (Qar (firstF G 0 l)):=by
 have hl:Hid _:=O;have an:Hid _:=F;clear O F;refine Qv (n:=25) func56 Z Z Z <| fun a hF=>?_
 have hW:=Ye w;replace hF:Fr 25 a [(0,.slice p l.length c),(1,.func (.func 57) #[] #[.pointer (some ⟨Bc,0,none⟩)])]:=hF;refine XW fun K1 ak=>rg hF fun b=>ZI hW Y Z <| fun w2 B2 aa hN=>Yb fun a3 h3=>ak _ _ <| XW fun K4 ao=>XW fun K5 aj=>rg h3 fun b=>sm Y Z Z <| QcH Y Z Z <| sm Y Z Z <| Yb fun a6 B=>aj _ _ <| XJ <| Qay (fun r a w'=>∃ q:Nat,q<=l.length/\r=l.length - q/\(∀ (j:Nat) y,j<q->l[j]?=some y->(G j y).1=0)/\Fr 25 a [(1,.func (.func 57) #[] #[.pointer (some ⟨Bc,0,none⟩)]),(0,.slice p l.length c),(4,.pointer (some ⟨B2,0,none⟩)),(8,.slice p l.length c),(9,.int .i64 (l.length:Int)),(10,.int .i64 (q:Int))]/\Wd w w' [(B2,#[.int .i64 0,.int .i64 0],32)]) (l.length) ⟨0,Xb _,Z,(fun j y hj=>by omega),(B.keep (B.keep (B.keep (B.keep (B.keep (B.keep B.nil (t:=10) Z) (t:=9) Z) (t:=8) Z) (t:=4) Z) (t:=0) Z) (t:=1) Z),aa⟩ ?_
 clear B aa;rintro r a7 w7 ⟨q,hq,hr,u,ai,L⟩ KL af;refine XW fun K8 al=>rg ai fun b=>slt Y Z Z Z <| Yb fun a9 o=>al _ _ <| XW fun bg V=>QR (t:=11) o Z (fun s=>?_) (fun s=>?_)
 ·have D:q<l.length:=by have:=Xv s;omega
  clear s;obtain⟨x,m⟩:∃ v9,(l)[q]?=some v9:=⟨_,Zg D⟩
  obtain⟨g1,o1,f1,J,E1,H⟩:=QbK hl.out m
  replace H:Hid _:=H;replace J:Hid _:=J;replace m:Hid _:=m;replace E1:Hid _:=E1;refine XB <| V _ _ <| XW fun bj S=>XJ <| XW fun a1 T=>rg o fun b=>sm Y Z Z <| Qe5 J.out D Y Z Z Z <| sSE underlying76 Z (QW E1.out L.bel) infFunc Y Z Z <| QhI L Y Z <| fun au aq W hN=>sa Y Z Z <| sT 0 W Z Z infFunc Z Z Z <| fun ae g=>Yb fun a8 ah=>T _ _ <| XW fun a4 U=>rg ah fun b=>sm Y Z Z <| sm Y Z Z <| sS 0 4 underlying76 Z infFunc g Y Z Z Z Z <| Qj1 cf57 g (an.out q x f1 ae m.out (H.out.below g.bel) g.bel) Y Z Z Z Z <| fun bf ad=>ZI ad Y Z <| fun be ba N hN=>sT 0 N Z Z infFault Z Z Z <| fun bd h=>Yb fun a5 am=>U _ _ <| XW fun bh ab=>rg am fun b=>sfFault0 Y Z Z <| Qa9 0 h Y Z Z Z Z <| sne Y Z Z Z <| Yb fun ay I=>ab _ _ <| QR (t:=21) I Z (fun s=>?_) (fun s=>?_)
  ·have o:¬ ((G q x).1)=0:=bne_iff_ne.1 s
   have M:¬ ((G q x).1)=0:=o;clear o;clear s;refine XW fun bb X=>rg I fun b=>sS 0 2 underlying32 Z infFault h Y Z Z Z Z <| sT 2 h Z Z infFault Z Z Z <| fun ar A=>Yb fun ax ag=>X _ _ ?_
   refine XA ?_;with_reducible repeat first | refine Qg ?_ | refine Qd ?_
   have R:firstF G 0 l=G q x:=by have o:=QbG (f:=G) (j:=0) m.out (fun k y hk E=>by rw[XK];exact u k y hk E) (by rw[XK];exact M);rwa [XK] at o
   exact QJ 2 ag A Z Z Z underlying32 Z infFault ⟨by show Ending.returned (.agg #[.int .i64 ((G q x).1),.int .i64 ((G q x).2)])=_;rw[R],A.bel⟩
  have o:((G q x).1)=0:=XH.1 s;have M:Hid (((G q x).1)=0):=o;clear o;clear s;refine XB <| S _ _ <| rg I fun b=>sad (by omega) Y Z Z Z <| sm Y Z Z <| Yb fun az d=>af _ _ (l.length - (q+1)) (by omega) ⟨q+1,by omega,Z,?_,(d.keep (d.keep (d.keep (d.keep (d.keep (d.keep d.nil (t:=10) Z) (t:=9) Z) (t:=8) Z) (t:=4) Z) (t:=0) Z) (t:=1) Z),h.tail.tail⟩
  ·intro j y hj E
   by_cases e:j=q
   ·subst e;rw[m.out] at E;cases E;exact M.out
   ·exact u j y (by omega) E
 have aw:q=l.length:=by have:=Xw s;omega
 clear s;refine wp_exit <| ao _ _ <| XW fun bc P=>rg o fun b=>fun bk Q=>Q9 (t:=24) (v:=.agg #[.int .i64 0,.int .i64 0]) (w':=w7) Q Z Z Z (fun K hK=>?_) ?_
 ·go_simp
  exact hK
 clear Q;intro bi ac;refine St.go ac <| sT 0 L Z Z infFault Z Z Z <| fun a0 C=>Yb fun av ap=>P _ _ ?_
 refine XA ?_;with_reducible repeat first | refine Qg ?_ | refine Qd ?_
 have R:firstF G 0 l=(0,0):=QaM (fun k y E=>by rw[XK];exact u k y (by have:=(Zi E).1;omega) E);exact QJ 0 ap C Z Z Z underlying32 Z infFault ⟨by show Ending.returned (.agg #[.int .i64 0,.int .i64 0])=_;rw[R],C.bel⟩
theorem Qhv {m:List (Qe n)}{x:Qe n}{fp:FP}{y:Qk n}{bp:BP}{Bc:Nat}{z:Qz}{d:IP}(hq:q<1000000) (hm:m.length<=100000) (ab:fi<1000000) (aa:bi<1000000) (r:Blk w Bc #[.slice p m.length c,.int .i64 x.regs,.slice fp.pP x.params.length fp.cP,.slice fp.pR x.results.length fp.cR,.slice fp.pB x.blocks.length fp.cB,.int .i64 (fi:Int),.int .i64 y.regs,.slice bp.pP y.params.length bp.cP,.slice bp.pC y.code.length bp.cC,.int .i64 y.fin.op,.int .i64 y.fin.a,.int .i64 y.fin.yes.block,.slice bp.e.pYR y.fin.yes.regs.length bp.e.cYR,.slice bp.e.pYA y.fin.yes.args.length bp.e.cYA,.int .i64 y.fin.no.block,.slice bp.e.pNR y.fin.no.regs.length bp.e.cNR,.slice bp.e.pNA y.fin.no.args.length bp.e.cNA,.slice bp.e.pA y.fin.args.length bp.e.cA,.int .i64 (bi:Int)] 166) :
 Rd prog 143 #[.int .i64 (q:Int),.agg #[.int .i64 z.op,.int .i64 z.a,.int .i64 z.b,.int .i64 z.c,.int .i64 z.k,.int .i64 z.n,.slice d.pR z.regs.length d.cR,.slice d.pA z.args.length d.cA],.pointer (some ⟨Bc,0,none⟩)] w (Qar (atF (z.form m.length) (10000*(fi:Int)+100*(bi:Int)+(q:Int)))):=by
 have l:Hid _:=r;clear r;refine Qv (n:=19) func143 Z Z Z <| fun a O=>?_
 have g:=Ye w;replace O:Fr 19 a [(0,.int .i64 (q:Int)),(1,.agg #[.int .i64 z.op,.int .i64 z.a,.int .i64 z.b,.int .i64 z.c,.int .i64 z.k,.int .i64 z.n,.slice d.pR z.regs.length d.cR,.slice d.pA z.args.length d.cA]),(2,.pointer (some ⟨Bc,0,none⟩))]:=O;refine XW fun K1 W=>rg O fun S=>sB g Y Z Z <| fun w2 j P hN=>ZI P Y Z <| fun w3 M E hN=>Yb fun L s=>W _ _ <| XW fun K5 V=>?_
 have D:Fr 19 L [(2,.pointer (some ⟨Bc,0,none⟩)),(1,.agg #[.int .i64 z.op,.int .i64 z.a,.int .i64 z.b,.int .i64 z.c,.int .i64 z.k,.int .i64 z.n,.slice d.pR z.regs.length d.cR,.slice d.pA z.args.length d.cA]),(0,.int .i64 (q:Int)),(4,.pointer (some ⟨j,0,none⟩)),(5,.pointer (some ⟨M,0,none⟩))]:=(s.keep (s.keep (s.keep (s.keep (s.keep s.nil (t:=5) Z) (t:=4) Z) (t:=0) Z) (t:=1) Z) (t:=2) Z);have Q:L.tmps.getD 2 undef=.pointer (some ⟨Bc,0,none⟩):=s.sl 2 _ Z;have U:L.tmps.getD 4 undef=.pointer (some ⟨j,0,none⟩):=s.sl 4 _ Z;have X:L.tmps.getD 0 undef=.int .i64 (q:Int):=s.sl 0 _ Z;refine Qa0 13 ([(2,fun v _=>v=.pointer (some ⟨Bc,0,none⟩)),(4,fun v _=>v=.pointer (some ⟨j,0,none⟩)),(0,fun v _=>v=.int .i64 (q:Int)),(6,fun v _=>v=.pointer (some ⟨Bc,0,none⟩)),(7,fun v _=>v=.pointer (some ⟨Bc,0,none⟩)),(8,fun v _=>v=.agg #[.slice p m.length c]),(9,fun v _=>v=.agg #[.int .i64 z.op,.int .i64 z.a,.int .i64 z.b,.int .i64 z.c,.int .i64 z.k,.int .i64 z.n,.slice d.pR z.regs.length d.cR,.slice d.pA z.args.length d.cA]),(10,fun v _=>v=.int .i64 (z.form m.length)),(11,fun v _=>v=.pointer (some ⟨Bc,0,none⟩)),(12,fun v _=>v=.pointer (some ⟨Bc,5,none⟩)),(13,fun v _=>v=.int .i64 (fi:Int)),(14,fun v _=>v=.pointer (some ⟨Bc,18,none⟩)),(15,fun v _=>v=.int .i64 (bi:Int)),(16,fun v _=>v=.int .i64 (q:Int)),(17,fun v _=>v=.int .i64 (10000*(fi:Int)+100*(bi:Int)+(q:Int))),(18,fun v _=>v=.agg #[.int .i64 ((atF (z.form m.length) (10000*(fi:Int)+100*(bi:Int)+(q:Int))).1),.int .i64 ((atF (z.form m.length) (10000*(fi:Int)+100*(bi:Int)+(q:Int))).2)])]:Qcf) (fun N=>Wd w N [(M,#[.int .i64 0,.int .i64 0],32),(j,#[.int .i64 z.op,.int .i64 z.a,.int .i64 z.b,.int .i64 z.c,.int .i64 z.k,.int .i64 z.n,.slice d.pR z.regs.length d.cR,.slice d.pA z.args.length d.cA],65)]/\Below w3.heap.size w3 N) (fun w N=>Below w.heap.size w N) (outs:=[2,4,0]) (gs:=[]) (bs:=[true,true,true,true,true,true,true,true,true,true,true,true,true]) (by kernel_rfl) D Z (by kernel_rfl) (by kernel_rfl) ?hR ?hG ⟨E.drewN 1,ZR (m:=1) Zr⟩ ⟨Q,U,X,Y⟩ ?hA ?hend
 case hR =>
  iterate 16 refine⟨fun _ _ _ _ h=>h,?_⟩
  trivial
 case hG=>exact Y
 case hA =>
  iterate 4
   refine⟨fun a w g A K B=>?_,?_⟩
   ·obtain⟨u,-⟩:=A
    conv at u=>whnf;rhs;whnf
    have u0:w.cell? ⟨Bc,0,none⟩=some (.slice p m.length c):=Qcc g.1.bel (Qa l.out 0 _ Z);have u1:w.cell? ⟨j,0,none⟩=some (.int .i64 z.op):=Qa (g.1.get 1 Z) 0 _ Z;have u2:w.cell? ⟨j,1,none⟩=some (.int .i64 z.a):=Qa (g.1.get 1 Z) 1 _ Z;have u3:w.cell? ⟨j,2,none⟩=some (.int .i64 z.b):=Qa (g.1.get 1 Z) 2 _ Z;have u4:w.cell? ⟨j,3,none⟩=some (.int .i64 z.c):=Qa (g.1.get 1 Z) 3 _ Z;have u5:w.cell? ⟨j,4,none⟩=some (.int .i64 z.k):=Qa (g.1.get 1 Z) 4 _ Z;have u6:w.cell? ⟨j,5,none⟩=some (.int .i64 z.n):=Qa (g.1.get 1 Z) 5 _ Z;have u7:w.cell? ⟨j,6,none⟩=some (.slice d.pR z.regs.length d.cR):=Qa (g.1.get 1 Z) 6 _ Z;have u8:w.cell? ⟨j,7,none⟩=some (.slice d.pA z.args.length d.cA):=Qa (g.1.get 1 Z) 7 _ Z;go_simp;exact B _ _ Zr g Z
  refine⟨fun a w g A K B=>?_,?_⟩
  ·obtain⟨u,I,-⟩:=A
   conv at u=>whnf;rhs;whnf
   conv at I=>whnf;rhs;whnf
   have G:Rd prog 144 #[.agg #[.slice p m.length c],.agg #[.int .i64 z.op,.int .i64 z.a,.int .i64 z.b,.int .i64 z.c,.int .i64 z.k,.int .i64 z.n,.slice d.pR z.regs.length d.cR,.slice d.pA z.args.length d.cA]] w (.int .i64 (z.form m.length)):=Qij m.length z d p c w (by omega);go_simp;refine G.mono ?_;rintro e w9 ⟨rfl,o⟩;exact B _ _ o ⟨g.1.below o,Xl g.2 o⟩ Z
  iterate 6
   refine⟨fun a w g A K B=>?_,?_⟩
   ·obtain⟨u,-⟩:=A
    conv at u=>whnf;rhs;whnf
    have u0:w.cell? ⟨Bc,5,none⟩=some (.int .i64 (fi:Int)):=Qcc g.1.bel (Qa l.out 5 _ Z);have u1:w.cell? ⟨Bc,18,none⟩=some (.int .i64 (bi:Int)):=Qcc g.1.bel (Qa l.out 18 _ Z);go_simp;exact B _ _ Zr g Z
  refine⟨fun a w g A K B=>?_,?_⟩
  ·obtain⟨u,I,k2,-⟩:=A
   conv at u=>whnf;rhs;whnf
   conv at I=>whnf;rhs;whnf
   conv at k2=>whnf;rhs;whnf
   have G:Rd prog 105 #[.int .i64 (fi:Int),.int .i64 (bi:Int),.int .i64 (q:Int)] w (.int .i64 (10000*(fi:Int)+100*(bi:Int)+(q:Int))):=Qc1 (f:=fi) (b:=bi) (i:=q) ⟨by omega,by omega,by omega⟩;go_simp;refine G.mono ?_;rintro e w9 ⟨rfl,o⟩;exact B _ _ o ⟨g.1.below o,Xl g.2 o⟩ Z
  refine⟨fun a w g A K B=>?_,?_⟩
  ·obtain⟨u,I,-⟩:=A
   conv at u=>whnf;rhs;whnf
   conv at I=>whnf;rhs;whnf
   have G:Rd prog 92 #[.int .i64 (z.form m.length),.int .i64 (10000*(fi:Int)+100*(bi:Int)+(q:Int))] w (.agg #[.int .i64 ((atF (z.form m.length) (10000*(fi:Int)+100*(bi:Int)+(q:Int))).1),.int .i64 ((atF (z.form m.length) (10000*(fi:Int)+100*(bi:Int)+(q:Int))).2)]):=QaL (xc:=z.form m.length) (xp:=10000*(fi:Int)+100*(bi:Int)+(q:Int));go_simp;refine G.mono ?_;rintro e w9 ⟨rfl,o⟩;exact B _ _ o ⟨g.1.below o,Xl g.2 o⟩ Z
  trivial
 case hend =>
  intro S a7 w7 F hE J;have C:a7.tmps.getD 18 undef=.agg #[.int .i64 ((atF (z.form m.length) (10000*(fi:Int)+100*(bi:Int)+(q:Int))).1),.int .i64 ((atF (z.form m.length) (10000*(fi:Int)+100*(bi:Int)+(q:Int))).2)]:=hE 18 Z;have T:Fr 19 a7 [(18,.agg #[.int .i64 ((atF (z.form m.length) (10000*(fi:Int)+100*(bi:Int)+(q:Int))).1),.int .i64 ((atF (z.form m.length) (10000*(fi:Int)+100*(bi:Int)+(q:Int))).2)]),(2,.pointer (some ⟨Bc,0,none⟩)),(1,.agg #[.int .i64 z.op,.int .i64 z.a,.int .i64 z.b,.int .i64 z.c,.int .i64 z.k,.int .i64 z.n,.slice d.pR z.regs.length d.cR,.slice d.pA z.args.length d.cA]),(0,.int .i64 (q:Int)),(4,.pointer (some ⟨j,0,none⟩)),(5,.pointer (some ⟨M,0,none⟩))]:=(J.cons C);clear C;have R:Wd w w7 [(M,#[.int .i64 0,.int .i64 0],32),(j,#[.int .i64 z.op,.int .i64 z.a,.int .i64 z.b,.int .i64 z.c,.int .i64 z.k,.int .i64 z.n,.slice d.pR z.regs.length d.cR,.slice d.pA z.args.length d.cA],65)]:=F.1;clear J F hE D s;clear E;refine St.go T <| sT 0 R Z Z infFault Z Z Z <| fun w8 H=>Yb fun a9 h9=>V _ _ ?_
  refine XA ?_;with_reducible repeat first | refine Qg ?_ | refine Qd ?_
  exact QJ 0 h9 H Z Z Z underlying32 Z infFault ⟨Z,H.bel⟩
theorem QcI {m:List (Qe n)}{x:Qe n}{fp:FP}{y:Qk n}{bp:BP}(al:FIn w All x fp) (ae:x.small) (aj:BIn w All y bp) (ap:y.small) (hm:m.length<=100000) (a6:fi<1000000) (av:bi<1000000) :
 Rd prog 96 #[.agg #[.slice p m.length c,.int .i64 x.regs,.slice fp.pP x.params.length fp.cP,.slice fp.pR x.results.length fp.cR,.slice fp.pB x.blocks.length fp.cB,.int .i64 (fi:Int),.int .i64 y.regs,.slice bp.pP y.params.length bp.cP,.slice bp.pC y.code.length bp.cC,.int .i64 y.fin.op,.int .i64 y.fin.a,.int .i64 y.fin.yes.block,.slice bp.e.pYR y.fin.yes.regs.length bp.e.cYR,.slice bp.e.pYA y.fin.yes.args.length bp.e.cYA,.int .i64 y.fin.no.block,.slice bp.e.pNR y.fin.no.regs.length bp.e.cNR,.slice bp.e.pNA y.fin.no.args.length bp.e.cNA,.slice bp.e.pA y.fin.args.length bp.e.cA,.int .i64 (bi:Int)]] w (Qar (Qk.fault m.length fi x bi y)):=by
 have hx:Hid _:=al;have hs:Hid _:=ae;have hy:Hid _:=aj;have ht:Hid _:=ap;clear al ae aj ap;refine Qv (n:=40) func96 Z Z Z <| fun a hF=>?_
 have g:=Ye w;replace hF:Fr 40 a [(0,.agg #[.slice p m.length c,.int .i64 x.regs,.slice fp.pP x.params.length fp.cP,.slice fp.pR x.results.length fp.cR,.slice fp.pB x.blocks.length fp.cB,.int .i64 (fi:Int),.int .i64 y.regs,.slice bp.pP y.params.length bp.cP,.slice bp.pC y.code.length bp.cC,.int .i64 y.fin.op,.int .i64 y.fin.a,.int .i64 y.fin.yes.block,.slice bp.e.pYR y.fin.yes.regs.length bp.e.cYR,.slice bp.e.pYA y.fin.yes.args.length bp.e.cYA,.int .i64 y.fin.no.block,.slice bp.e.pNR y.fin.no.regs.length bp.e.cNR,.slice bp.e.pNA y.fin.no.args.length bp.e.cNA,.slice bp.e.pA y.fin.args.length bp.e.cA,.int .i64 (bi:Int)])]:=hF;refine XW fun K1 az=>rg hF fun s=>sB g Y Z Z <| fun w2 d a5 hN=>ZI a5 Y Z <| fun w3 B3 D hN=>Yb fun a4 h4=>az _ _ <| XW fun K5 ay=>XW fun K6 a1=>rg h4 fun s=>sS 1 19 underlying166 Z infblockLook D Y Z Z Z Z <| Qko cf140 D (QdN (m:=m) (p:=p) (c:=c) (fi:=fi) (bi:=bi) (hx.out.below D.bel) hs.out (hy.out.below D.bel) ht.out) Y Z Z <| fun w7 q=>sa Y Z Z <| Yb fun a8 h8=>a1 _ _ <| XW fun K9 aw=>rg h8 fun s=>sm Y Z Z <| sne Y Z Z Z <| Yb fun bx Q=>aw _ _ <| QR (t:=8) Q Z (fun k=>?_) (fun k=>?_)
 ·have u:¬ (y.code' x bi)=0:=bne_iff_ne.1 k
  have ah:¬ (y.code' x bi)=0:=u;clear u;clear k;refine XW fun bm W=>rg Q fun s=>sm Y Z Z <| sfblockLook0 Y Z Z <| sffuncLook2 Y Z Z <| Qa9 1 q Y Z Z Z Z <| sfblockLook2 Y Z Z <| Qa9 1 q Y Z Z Z Z <| Qib cf141 q (Qes (f:=fi) (b:=bi) ⟨by omega,by omega⟩) Y Z Z Z <| fun bd ag=>Qib cf92 ag (QaL (xc:=y.code' x bi) (xp:=10000*(fi:Int)+100*(bi:Int)+90)) Y Z Z Z <| fun bh af=>sT 0 af Z Z infFault Z Z Z <| fun bq G=>Yb fun bn ax=>W _ _ ?_
  refine XA ?_;with_reducible repeat first | refine Qg ?_ | refine Qd ?_
  have R:=ah;have I:=Qk.fault_eq m.length fi x bi y;have N:=Qbw (f:=fun i z=>(Qz.form m.length z,(10000*(fi:Int)+100*(bi:Int)+(i:Int)))) (l:=y.code) (j:=0);dsimp only at N
  rw[Xr R] at I
  exact QJ 0 ax G Z Z Z underlying32 Z infFault ⟨by show Ending.returned (.agg #[.int .i64 ((atF (y.code' x bi) (10000*(fi:Int)+100*(bi:Int)+90)).1),.int .i64 ((atF (y.code' x bi) (10000*(fi:Int)+100*(bi:Int)+90)).2)])=_;rw[I] ;simp[atF,R],G.bel⟩
 have u:(y.code' x bi)=0:=XH.1 k;have H:Hid ((y.code' x bi)=0):=u;clear u;clear k;refine XB <| ay _ _ <| XW fun bu ak=>rg Q fun s=>sfblockLook1 Y Z Z <| sfBlock2 Y Z Z <| Qfy 1 q Y Z Z Z Z <| fun au P=>Q9 (t:=20) (v:=.func (.func 143) #[] #[.pointer (some ⟨d,0,none⟩)]) (w':=w7) P Z Z Z (fun K A=>?_) ?_
 ·have B:au.tmps.getD 1 undef=.pointer (some ⟨d,0,none⟩):=P.sl 1 _ Z
  go_simp;exact A
 clear P;intro a2 M;refine St.go M ?_;clear M a2;refine Qib cf142 q (QgY (Bc:=d) (fun i z=>atF (Qz.form m.length z) (10000*(fi:Int)+100*(bi:Int)+(i:Int))) (Ya hy.out.code q.bel) ht.out.1 (fun i z zi wx hz hi k=>Qhv (y:=y) (by have u:=(Zi hz).1;have:=ht.out.1;omega) hm a6 av ((q.get 1 Z).below k))) Y Z Z Z ?_;clear q;intro b0 ab;refine ZI ab Y Z <| fun bc E ad hN=>sT 0 ad Z Z infFault Z Z Z <| fun aq r=>Yb fun br a0=>ak _ _ <| XW fun bo U=>XW fun bg T=>rg a0 fun s=>sfFault0 Y Z Z <| Qa9 0 r Y Z Z Z Z <| sne Y Z Z Z <| Yb fun an o=>T _ _ <| QR (t:=24) o Z (fun k=>?_) (fun k=>?_)
 ·have u:¬ ((firstF (fun i z=>atF (Qz.form m.length z) (10000*(fi:Int)+100*(bi:Int)+(i:Int))) 0 y.code).1)=0:=bne_iff_ne.1 k
  have ao:¬ ((firstF (fun i z=>atF (Qz.form m.length z) (10000*(fi:Int)+100*(bi:Int)+(i:Int))) 0 y.code).1)=0:=u;clear u;clear k;refine XW fun bv V=>rg o fun s=>sS 0 2 underlying32 Z infFault r Y Z Z Z Z <| sT 1 r Z Z infFault Z Z Z <| fun bk L=>Yb fun be a7=>V _ _ ?_
  refine XA ?_;with_reducible repeat first | refine Qg ?_ | refine Qd ?_
  have R:=H.out;have e1:=ao;have I:=Qk.fault_eq m.length fi x bi y;have N:=Qbw (f:=fun i z=>(Qz.form m.length z,(10000*(fi:Int)+100*(bi:Int)+(i:Int)))) (l:=y.code) (j:=0);dsimp only at N
  rw[Xs R,Xr (by rw[<-N];exact e1),<-N] at I
  exact QJ 1 a7 L Z Z Z underlying32 Z infFault ⟨by show Ending.returned (.agg #[.int .i64 ((firstF (fun i z=>atF (Qz.form m.length z) (10000*(fi:Int)+100*(bi:Int)+(i:Int))) 0 y.code).1),.int .i64 ((firstF (fun i z=>atF (Qz.form m.length z) (10000*(fi:Int)+100*(bi:Int)+(i:Int))) 0 y.code).2)])=_;rw[I],L.bel⟩
 have u:((firstF (fun i z=>atF (Qz.form m.length z) (10000*(fi:Int)+100*(bi:Int)+(i:Int))) 0 y.code).1)=0:=XH.1 k;have S:Hid (((firstF (fun i z=>atF (Qz.form m.length z) (10000*(fi:Int)+100*(bi:Int)+(i:Int))) 0 y.code).1)=0):=u;clear u;clear k;refine XB <| U _ _ <| XW fun bw ai=>?_
 have J:Fr 40 an [(0,.agg #[.slice p m.length c,.int .i64 x.regs,.slice fp.pP x.params.length fp.cP,.slice fp.pR x.results.length fp.cR,.slice fp.pB x.blocks.length fp.cB,.int .i64 (fi:Int),.int .i64 y.regs,.slice bp.pP y.params.length bp.cP,.slice bp.pC y.code.length bp.cC,.int .i64 y.fin.op,.int .i64 y.fin.a,.int .i64 y.fin.yes.block,.slice bp.e.pYR y.fin.yes.regs.length bp.e.cYR,.slice bp.e.pYA y.fin.yes.args.length bp.e.cYA,.int .i64 y.fin.no.block,.slice bp.e.pNR y.fin.no.regs.length bp.e.cNR,.slice bp.e.pNA y.fin.no.args.length bp.e.cNA,.slice bp.e.pA y.fin.args.length bp.e.cA,.int .i64 (bi:Int)]),(1,.pointer (some ⟨d,0,none⟩)),(2,.pointer (some ⟨B3,0,none⟩)),(3,.int .i64 (y.code' x bi)),(4,.pointer (some ⟨E,0,none⟩))]:=(o.keep (o.keep (o.keep (o.keep (o.keep o.nil (t:=4) Z) (t:=3) Z) (t:=2) Z) (t:=1) Z) (t:=0) Z);have a9:an.tmps.getD 1 undef=.pointer (some ⟨d,0,none⟩):=o.sl 1 _ Z;refine Qa0 14 ([(1,fun v _=>v=.pointer (some ⟨d,0,none⟩)),(26,fun v _=>v=.pointer (some ⟨d,0,none⟩)),(27,fun v _=>v=.pointer (some ⟨d,1,none⟩)),(28,fun v _=>v=.agg #[.int .i64 x.regs,.slice fp.pP x.params.length fp.cP,.slice fp.pR x.results.length fp.cR,.slice fp.pB x.blocks.length fp.cB]),(29,fun v _=>v=.pointer (some ⟨d,6,none⟩)),(30,fun v _=>v=.pointer (some ⟨d,9,none⟩)),(31,fun v _=>v=.agg #[.int .i64 y.fin.op,.int .i64 y.fin.a,.int .i64 y.fin.yes.block,.slice bp.e.pYR y.fin.yes.regs.length bp.e.cYR,.slice bp.e.pYA y.fin.yes.args.length bp.e.cYA,.int .i64 y.fin.no.block,.slice bp.e.pNR y.fin.no.regs.length bp.e.cNR,.slice bp.e.pNA y.fin.no.args.length bp.e.cNA,.slice bp.e.pA y.fin.args.length bp.e.cA]),(32,fun v _=>v=.int .i64 (y.fin.form x.blocks.length)),(33,fun v _=>v=.pointer (some ⟨d,0,none⟩)),(34,fun v _=>v=.pointer (some ⟨d,5,none⟩)),(35,fun v _=>v=.int .i64 (fi:Int)),(36,fun v _=>v=.pointer (some ⟨d,18,none⟩)),(37,fun v _=>v=.int .i64 (bi:Int)),(38,fun v _=>v=.int .i64 (10000*(fi:Int)+100*(bi:Int)+91)),(39,fun v _=>v=.agg #[.int .i64 ((atF (y.fin.form x.blocks.length) (10000*(fi:Int)+100*(bi:Int)+91)).1),.int .i64 ((atF (y.fin.form x.blocks.length) (10000*(fi:Int)+100*(bi:Int)+91)).2)])]:Qcf) (fun w'=>Wd w w' [(E,#[.int .i64 ((firstF (fun i z=>atF (Qz.form m.length z) (10000*(fi:Int)+100*(bi:Int)+(i:Int))) 0 y.code).1),.int .i64 ((firstF (fun i z=>atF (Qz.form m.length z) (10000*(fi:Int)+100*(bi:Int)+(i:Int))) 0 y.code).2)],32),(B3,#[.int .i64 0,.int .i64 0],32),(d,#[.slice p m.length c,.int .i64 x.regs,.slice fp.pP x.params.length fp.cP,.slice fp.pR x.results.length fp.cR,.slice fp.pB x.blocks.length fp.cB,.int .i64 (fi:Int),.int .i64 y.regs,.slice bp.pP y.params.length bp.cP,.slice bp.pC y.code.length bp.cC,.int .i64 y.fin.op,.int .i64 y.fin.a,.int .i64 y.fin.yes.block,.slice bp.e.pYR y.fin.yes.regs.length bp.e.cYR,.slice bp.e.pYA y.fin.yes.args.length bp.e.cYA,.int .i64 y.fin.no.block,.slice bp.e.pNR y.fin.no.regs.length bp.e.cNR,.slice bp.e.pNA y.fin.no.args.length bp.e.cNA,.slice bp.e.pA y.fin.args.length bp.e.cA,.int .i64 (bi:Int)],166)]/\Below aq.heap.size aq w') (fun w w'=>Below w.heap.size w w') (outs:=[1]) (gs:=[]) (bs:=[true,true,true,true,true,true,true,true,true,true,true,true,true,true]) (by kernel_rfl) J Z (by kernel_rfl) (by kernel_rfl) ?hR ?hG ⟨r.drewN 1,ZR (m:=1) Zr⟩ ⟨a9,Y⟩ ?hA ?hend
 case hR =>
  iterate 15 refine⟨fun _ _ _ _ h=>h,?_⟩
  trivial
 case hG=>exact Y
 case hA =>
  iterate 6
   refine⟨fun a w g C K A=>?_,?_⟩
   ·obtain⟨B,-⟩:=C
    conv at B=>whnf;rhs;whnf
    have u0:w.cell? ⟨d,1,none⟩=some (.int .i64 x.regs):=Qa (g.1.get 2 Z) 1 _ Z;have u1:w.cell? ⟨d,2,none⟩=some (.slice fp.pP x.params.length fp.cP):=Qa (g.1.get 2 Z) 2 _ Z;have u2:w.cell? ⟨d,3,none⟩=some (.slice fp.pR x.results.length fp.cR):=Qa (g.1.get 2 Z) 3 _ Z;have u3:w.cell? ⟨d,4,none⟩=some (.slice fp.pB x.blocks.length fp.cB):=Qa (g.1.get 2 Z) 4 _ Z;have u4:w.cell? ⟨d,9,none⟩=some (.int .i64 y.fin.op):=Qa (g.1.get 2 Z) 9 _ Z;have u5:w.cell? ⟨d,10,none⟩=some (.int .i64 y.fin.a):=Qa (g.1.get 2 Z) 10 _ Z;have u6:w.cell? ⟨d,11,none⟩=some (.int .i64 y.fin.yes.block):=Qa (g.1.get 2 Z) 11 _ Z;have u7:w.cell? ⟨d,12,none⟩=some (.slice bp.e.pYR y.fin.yes.regs.length bp.e.cYR):=Qa (g.1.get 2 Z) 12 _ Z;have u8:w.cell? ⟨d,13,none⟩=some (.slice bp.e.pYA y.fin.yes.args.length bp.e.cYA):=Qa (g.1.get 2 Z) 13 _ Z;have u9:w.cell? ⟨d,14,none⟩=some (.int .i64 y.fin.no.block):=Qa (g.1.get 2 Z) 14 _ Z;have bj:w.cell? ⟨d,15,none⟩=some (.slice bp.e.pNR y.fin.no.regs.length bp.e.cNR):=Qa (g.1.get 2 Z) 15 _ Z;have bf:w.cell? ⟨d,16,none⟩=some (.slice bp.e.pNA y.fin.no.args.length bp.e.cNA):=Qa (g.1.get 2 Z) 16 _ Z;have bz:w.cell? ⟨d,17,none⟩=some (.slice bp.e.pA y.fin.args.length bp.e.cA):=Qa (g.1.get 2 Z) 17 _ Z;go_simp;exact A _ _ Zr g Z
  refine⟨fun a w g C K A=>?_,?_⟩
  ·obtain⟨B,k1,-⟩:=C
   conv at B=>whnf;rhs;whnf
   conv at k1=>whnf;rhs;whnf
   have hC:Rd prog 145 #[.agg #[.int .i64 x.regs,.slice fp.pP x.params.length fp.cP,.slice fp.pR x.results.length fp.cR,.slice fp.pB x.blocks.length fp.cB],.agg #[.int .i64 y.fin.op,.int .i64 y.fin.a,.int .i64 y.fin.yes.block,.slice bp.e.pYR y.fin.yes.regs.length bp.e.cYR,.slice bp.e.pYA y.fin.yes.args.length bp.e.cYA,.int .i64 y.fin.no.block,.slice bp.e.pNR y.fin.no.regs.length bp.e.cNR,.slice bp.e.pNA y.fin.no.args.length bp.e.cNA,.slice bp.e.pA y.fin.args.length bp.e.cA]] w (.int .i64 (y.fin.form x.blocks.length)):=Qit (x:=y.fin) (e:=bp.e) (fr:=x.regs) (fp:=fp.pP) (fl:=x.params.length) (fc:=fp.cP) (fq:=fp.pR) (fm:=x.results.length) (fd:=fp.cR) (fb:=fp.pB) (bl:=x.blocks.length) (fe:=fp.cB) (by have:=ht.out.2.2.1;exact⟨by have:=this.1.1;omega,by have:=this.1.2;omega,by have:=this.2.1.1;omega,by have:=this.2.1.2;omega⟩) (by have:=hs.out.1;omega);go_simp;refine hC.mono ?_;rintro e w9 ⟨rfl,k⟩;exact A _ _ k ⟨g.1.below k,Xl g.2 k⟩ Z
  iterate 5
   refine⟨fun a w g C K A=>?_,?_⟩
   ·obtain⟨B,-⟩:=C
    conv at B=>whnf;rhs;whnf
    have u0:w.cell? ⟨d,5,none⟩=some (.int .i64 (fi:Int)):=Qa (g.1.get 2 Z) 5 _ Z;have u1:w.cell? ⟨d,18,none⟩=some (.int .i64 (bi:Int)):=Qa (g.1.get 2 Z) 18 _ Z;go_simp;exact A _ _ Zr g Z
  refine⟨fun a w g C K A=>?_,?_⟩
  ·obtain⟨B,k1,-⟩:=C
   conv at B=>whnf;rhs;whnf
   conv at k1=>whnf;rhs;whnf
   have hC:Rd prog 106 #[.int .i64 (fi:Int),.int .i64 (bi:Int)] w (.int .i64 (10000*(fi:Int)+100*(bi:Int)+91)):=Qc4 (f:=fi) (b:=bi) ⟨by omega,by omega⟩;go_simp;refine hC.mono ?_;rintro e w9 ⟨rfl,k⟩;exact A _ _ k ⟨g.1.below k,Xl g.2 k⟩ Z
  refine⟨fun a w g C K A=>?_,?_⟩
  ·obtain⟨B,k1,-⟩:=C
   conv at B=>whnf;rhs;whnf
   conv at k1=>whnf;rhs;whnf
   have hC:Rd prog 92 #[.int .i64 (y.fin.form x.blocks.length),.int .i64 (10000*(fi:Int)+100*(bi:Int)+91)] w (.agg #[.int .i64 ((atF (y.fin.form x.blocks.length) (10000*(fi:Int)+100*(bi:Int)+91)).1),.int .i64 ((atF (y.fin.form x.blocks.length) (10000*(fi:Int)+100*(bi:Int)+91)).2)]):=QaL (xc:=y.fin.form x.blocks.length) (xp:=10000*(fi:Int)+100*(bi:Int)+91);go_simp;refine hC.mono ?_;rintro e w9 ⟨rfl,k⟩;exact A _ _ k ⟨g.1.below k,Xl g.2 k⟩ Z
  trivial
 case hend =>
  intro s am a3 X hE ar;have F:am.tmps.getD 39 undef=.agg #[.int .i64 ((atF (y.fin.form x.blocks.length) (10000*(fi:Int)+100*(bi:Int)+91)).1),.int .i64 ((atF (y.fin.form x.blocks.length) (10000*(fi:Int)+100*(bi:Int)+91)).2)]:=hE 39 Z;have ac:Fr 40 am [(39,.agg #[.int .i64 ((atF (y.fin.form x.blocks.length) (10000*(fi:Int)+100*(bi:Int)+91)).1),.int .i64 ((atF (y.fin.form x.blocks.length) (10000*(fi:Int)+100*(bi:Int)+91)).2)]),(0,.agg #[.slice p m.length c,.int .i64 x.regs,.slice fp.pP x.params.length fp.cP,.slice fp.pR x.results.length fp.cR,.slice fp.pB x.blocks.length fp.cB,.int .i64 (fi:Int),.int .i64 y.regs,.slice bp.pP y.params.length bp.cP,.slice bp.pC y.code.length bp.cC,.int .i64 y.fin.op,.int .i64 y.fin.a,.int .i64 y.fin.yes.block,.slice bp.e.pYR y.fin.yes.regs.length bp.e.cYR,.slice bp.e.pYA y.fin.yes.args.length bp.e.cYA,.int .i64 y.fin.no.block,.slice bp.e.pNR y.fin.no.regs.length bp.e.cNR,.slice bp.e.pNA y.fin.no.args.length bp.e.cNA,.slice bp.e.pA y.fin.args.length bp.e.cA,.int .i64 (bi:Int)]),(1,.pointer (some ⟨d,0,none⟩)),(2,.pointer (some ⟨B3,0,none⟩)),(3,.int .i64 (y.code' x bi)),(4,.pointer (some ⟨E,0,none⟩))]:=(ar.cons F);clear F;have aa:Wd w a3 [(E,#[.int .i64 ((firstF (fun i z=>atF (Qz.form m.length z) (10000*(fi:Int)+100*(bi:Int)+(i:Int))) 0 y.code).1),.int .i64 ((firstF (fun i z=>atF (Qz.form m.length z) (10000*(fi:Int)+100*(bi:Int)+(i:Int))) 0 y.code).2)],32),(B3,#[.int .i64 0,.int .i64 0],32),(d,#[.slice p m.length c,.int .i64 x.regs,.slice fp.pP x.params.length fp.cP,.slice fp.pR x.results.length fp.cR,.slice fp.pB x.blocks.length fp.cB,.int .i64 (fi:Int),.int .i64 y.regs,.slice bp.pP y.params.length bp.cP,.slice bp.pC y.code.length bp.cC,.int .i64 y.fin.op,.int .i64 y.fin.a,.int .i64 y.fin.yes.block,.slice bp.e.pYR y.fin.yes.regs.length bp.e.cYR,.slice bp.e.pYA y.fin.yes.args.length bp.e.cYA,.int .i64 y.fin.no.block,.slice bp.e.pNR y.fin.no.regs.length bp.e.cNR,.slice bp.e.pNA y.fin.no.args.length bp.e.cNA,.slice bp.e.pA y.fin.args.length bp.e.cA,.int .i64 (bi:Int)],166)]:=X.1;clear ar X hE J o;clear r;refine St.go ac <| sT 1 aa Z Z infFault Z Z Z <| fun bb O=>Yb fun bt ba=>ai _ _ ?_
  refine XA ?_;with_reducible repeat first | refine Qg ?_ | refine Qd ?_
  have R:=H.out;have e1:=S.out;have I:=Qk.fault_eq m.length fi x bi y;have N:=Qbw (f:=fun i z=>(Qz.form m.length z,(10000*(fi:Int)+100*(bi:Int)+(i:Int)))) (l:=y.code) (j:=0);dsimp only at N
  rw[Xs R,Xs (by rw[<-N];exact e1)] at I
  exact QJ 1 ba O Z Z Z underlying32 Z infFault ⟨by show Ending.returned (.agg #[.int .i64 ((atF (y.fin.form x.blocks.length) (10000*(fi:Int)+100*(bi:Int)+91)).1),.int .i64 ((atF (y.fin.form x.blocks.length) (10000*(fi:Int)+100*(bi:Int)+91)).2)])=_;rw[I],O.bel⟩
theorem QgP {m:List (Qe n)}{x:Qe n}{fp:FP}{y:Qk n}{bp:BP}(f:FIn w All x fp) (l:x.small) (h:BIn w All y bp) (i:y.small){Bc:Nat}(O:m.length<=100000) (z:fi<1000000) (u:bi<1000000) (d:Blk w Bc #[.slice p m.length c,.int .i64 x.regs,.slice fp.pP x.params.length fp.cP,.slice fp.pR x.results.length fp.cR,.slice fp.pB x.blocks.length fp.cB,.int .i64 (fi:Int)] 119) :
 Rd prog 95 #[.int .i64 (bi:Int),.agg #[.int .i64 y.regs,.slice bp.pP y.params.length bp.cP,.slice bp.pC y.code.length bp.cC,.int .i64 y.fin.op,.int .i64 y.fin.a,.int .i64 y.fin.yes.block,.slice bp.e.pYR y.fin.yes.regs.length bp.e.cYR,.slice bp.e.pYA y.fin.yes.args.length bp.e.cYA,.int .i64 y.fin.no.block,.slice bp.e.pNR y.fin.no.regs.length bp.e.cNR,.slice bp.e.pNA y.fin.no.args.length bp.e.cNA,.slice bp.e.pA y.fin.args.length bp.e.cA],.pointer (some ⟨Bc,0,none⟩)] w (Qar (Qk.fault m.length fi x bi y)):=by
 have F:Hid _:=f;have I:Hid _:=l;have Q:Hid _:=h;have H:Hid _:=i;clear f l h i;have g:Hid _:=d;clear d;refine Qv (n:=11) func95 Z Z Z <| fun a o=>?_
 have J:=Ye w;replace o:Fr 11 a [(0,.int .i64 (bi:Int)),(1,.agg #[.int .i64 y.regs,.slice bp.pP y.params.length bp.cP,.slice bp.pC y.code.length bp.cC,.int .i64 y.fin.op,.int .i64 y.fin.a,.int .i64 y.fin.yes.block,.slice bp.e.pYR y.fin.yes.regs.length bp.e.cYR,.slice bp.e.pYA y.fin.yes.args.length bp.e.cYA,.int .i64 y.fin.no.block,.slice bp.e.pNR y.fin.no.regs.length bp.e.cNR,.slice bp.e.pNA y.fin.no.args.length bp.e.cNA,.slice bp.e.pA y.fin.args.length bp.e.cA]),(2,.pointer (some ⟨Bc,0,none⟩))]:=o;refine XW fun T E=>rg o fun A=>sB J Y Z Z <| fun S B2 q G=>ZI q Y Z <| fun M X b G=>Yb fun V L=>E _ _ <| XW fun K5 C=>rg L fun A=>sSE underlying119 Z (QW (Qdx g.out 0 6 Z) b.bel) inffuncLook Y Z Z <| sS 1 12 underlying73 Z infBlock b Y Z Z Z Z <| sm Y Z Z <| fun s k=>Q9 (t:=9) (v:=.agg #[.slice p m.length c,.int .i64 x.regs,.slice fp.pP x.params.length fp.cP,.slice fp.pR x.results.length fp.cR,.slice fp.pB x.blocks.length fp.cB,.int .i64 (fi:Int),.int .i64 y.regs,.slice bp.pP y.params.length bp.cP,.slice bp.pC y.code.length bp.cC,.int .i64 y.fin.op,.int .i64 y.fin.a,.int .i64 y.fin.yes.block,.slice bp.e.pYR y.fin.yes.regs.length bp.e.cYR,.slice bp.e.pYA y.fin.yes.args.length bp.e.cYA,.int .i64 y.fin.no.block,.slice bp.e.pNR y.fin.no.regs.length bp.e.cNR,.slice bp.e.pNA y.fin.no.args.length bp.e.cNA,.slice bp.e.pA y.fin.args.length bp.e.cA,.int .i64 (bi:Int)]) (w':=M) k Z Z Z (fun K P=>?_) ?_
 ·have R:s.tmps[6]?.getD undef=.agg #[.slice p m.length c,.int .i64 x.regs,.slice fp.pP x.params.length fp.cP,.slice fp.pR x.results.length fp.cR,.slice fp.pB x.blocks.length fp.cB,.int .i64 (fi:Int)]:=k.sl2 6 _ Z
  have k1:s.tmps[7]?.getD undef=.agg #[.int .i64 y.regs,.slice bp.pP y.params.length bp.cP,.slice bp.pC y.code.length bp.cC,.int .i64 y.fin.op,.int .i64 y.fin.a,.int .i64 y.fin.yes.block,.slice bp.e.pYR y.fin.yes.regs.length bp.e.cYR,.slice bp.e.pYA y.fin.yes.args.length bp.e.cYA,.int .i64 y.fin.no.block,.slice bp.e.pNR y.fin.no.regs.length bp.e.cNR,.slice bp.e.pNA y.fin.no.args.length bp.e.cNA,.slice bp.e.pA y.fin.args.length bp.e.cA]:=k.sl2 7 _ Z;have W:s.tmps[8]?.getD undef=.int .i64 (bi:Int):=k.sl2 8 _ Z;go_simp;exact P
 clear k;intro a7 B;refine St.go B <| Qko cf96 b (QcI (m:=m) (p:=p) (c:=c) (x:=x) (fp:=fp) (fi:=fi) (y:=y) (bp:=bp) (bi:=bi) (F.out.below b.bel) I.out (Q.out.below b.bel) H.out O z u) Y Z Z <| fun U D=>sT 0 D Z Z infFault Z Z Z <| fun w9 j=>Yb fun N r=>C _ _ ?_
 refine XA ?_;with_reducible repeat first | refine Qg ?_ | refine Qd ?_
 exact QJ 0 r j Z Z Z underlying32 Z infFault ⟨Z,j.bel⟩
theorem QcS {m:List (Qe n)}{x:Qe n}{fp:FP}(z:FIn w All x fp) (F:x.small) (hm:m.length<=100000) (N:fi<1000000) :
 Rd prog 58 #[.agg #[.slice p m.length c,.int .i64 x.regs,.slice fp.pP x.params.length fp.cP,.slice fp.pR x.results.length fp.cR,.slice fp.pB x.blocks.length fp.cB,.int .i64 (fi:Int)]] w (Qar (Qe.fault m.length fi x)):=by
 have I:Hid _:=z;have A:Hid _:=F;clear z F;refine Qv (n:=18) func58 Z Z Z <| fun a L=>?_
 have hW:=Ye w;replace L:Fr 18 a [(0,.agg #[.slice p m.length c,.int .i64 x.regs,.slice fp.pP x.params.length fp.cP,.slice fp.pR x.results.length fp.cR,.slice fp.pB x.blocks.length fp.cB,.int .i64 (fi:Int)])]:=L;refine XW fun K1 P=>rg L fun e=>sB hW Y Z Z <| fun w2 V M hN=>ZI M Y Z <| fun w3 B3 l hN=>Yb fun a4 h4=>P _ _ <| XW fun K5 O=>XW fun K6 T=>rg h4 fun e=>sS 1 6 underlying119 Z inffuncLook l Y Z Z Z Z <| Qko cf91 l (Qez (m:=m) (p:=p) (c:=c) (fi:=fi) (I.out.below l.bel) A.out) Y Z Z <| fun X d=>sa Y Z Z <| Yb fun a8 h8=>T _ _ <| XW fun K9 Q=>rg h8 fun e=>sm Y Z Z <| sne Y Z Z Z <| Yb fun ae o=>Q _ _ <| QR (t:=7) o Z (fun g=>?_) (fun g=>?_)
 ·have q:¬ (x.code fi)=0:=bne_iff_ne.1 g
  have s:¬ (x.code fi)=0:=q;clear q;clear g;refine XW fun af C=>rg o fun e=>sm Y Z Z <| sffuncLook2 Y Z Z <| Qa9 1 d Y Z Z Z Z <| Qko cf93 d (Qfg (f:=fi) (by omega)) Y Z Z <| fun ad r=>Qib cf92 r (QaL (xc:=x.code fi) (xp:=10000*(fi:Int)+9999)) Y Z Z Z <| fun ab G=>sT 0 G Z Z infFault Z Z Z <| fun ah i=>Yb fun ag R=>C _ _ ?_
  refine XA ?_;with_reducible repeat first | refine Qg ?_ | refine Qd ?_
  have H:=s;have B:=Qe.fault_eq m.length fi x;rw[Xr H] at B
  exact QJ 0 R i Z Z Z underlying32 Z infFault ⟨by show Ending.returned (.agg #[.int .i64 ((atF (x.code fi) (10000*(fi:Int)+9999)).1),.int .i64 ((atF (x.code fi) (10000*(fi:Int)+9999)).2)])=_;rw[B] ;simp[atF,H],i.bel⟩
 have q:(x.code fi)=0:=XH.1 g;have E:Hid ((x.code fi)=0):=q;clear q;clear g;refine XB <| O _ _ <| XW fun aa u=>rg o fun e=>sffuncLook1 Y Z Z <| sfFunc3 Y Z Z <| QfO 1 d Y Z Z Z Z <| fun J k=>Q9 (t:=16) (v:=.func (.func 95) #[] #[.pointer (some ⟨V,0,none⟩)]) (w':=X) k Z Z Z (fun K hK=>?_) ?_
 ·have k0:J.tmps.getD 1 undef=.pointer (some ⟨V,0,none⟩):=k.sl 1 _ Z
  go_simp;exact hK
 clear k;intro S j;refine St.go j ?_;clear j S;refine Qib cf94 d (QeO (Bc:=V) (fun b y=>Qk.fault m.length fi x b y) (Ya I.out.blocks d.bel) (by have:=A.out.1;omega) (fun b y yi wx W hi g=>QgP ((I.out.below d.bel).below g) A.out hi (A.out.2.2.2 _ (Zm W)) hm N (by have q:=(Zi W).1;have:=A.out.1;omega) ((d.get 1 Z).below g))) Y Z Z Z ?_;clear d;intro aj D;refine sT 0 D Z Z infFault Z Z Z <| fun ac h=>Yb fun ai U=>u _ _ ?_
 refine XA ?_;with_reducible repeat first | refine Qg ?_ | refine Qd ?_
 have H:=E.out;have B:=Qe.fault_eq m.length fi x;rw[Xs H] at B
 exact QJ 0 U h Z Z Z underlying32 Z infFault ⟨by show Ending.returned (.agg #[.int .i64 ((firstF (fun b y=>Qk.fault m.length fi x b y) 0 x.blocks).1),.int .i64 ((firstF (fun b y=>Qk.fault m.length fi x b y) 0 x.blocks).2)])=_;rw[B],h.bel⟩
theorem Qhq {m:List (Qe n)}{x:Qe n}{fp:FP}(e:FIn w All x fp) (i:x.small){Bc:Nat}(H:m.length<=100000) (q:fi<1000000) (b:Blk w Bc #[.slice p m.length c] 24) :
 Rd prog 57 #[.int .i64 (fi:Int),.agg #[.int .i64 x.regs,.slice fp.pP x.params.length fp.cP,.slice fp.pR x.results.length fp.cR,.slice fp.pB x.blocks.length fp.cB],.pointer (some ⟨Bc,0,none⟩)] w (Qar (Qe.fault m.length fi x)):=by
 have A:Hid _:=e;have C:Hid _:=i;clear e i;have f:Hid _:=b;clear b;refine Qv (n:=11) func57 Z Z Z <| fun a j=>?_
 have D:=Ye w;replace j:Fr 11 a [(0,.int .i64 (fi:Int)),(1,.agg #[.int .i64 x.regs,.slice fp.pP x.params.length fp.cP,.slice fp.pR x.results.length fp.cR,.slice fp.pB x.blocks.length fp.cB]),(2,.pointer (some ⟨Bc,0,none⟩))]:=j;refine XW fun M z=>rg j fun r=>sB D Y Z Z <| fun L V k B=>ZI k Y Z <| fun F Q d B=>Yb fun O E=>z _ _ <| XW fun U u=>rg E fun r=>sSE underlying24 Z (QW (Qdx f.out 0 1 Z) d.bel) infModule Y Z Z <| sS 1 4 underlying76 Z infFunc d Y Z Z Z Z <| sm Y Z Z <| fun o h=>Q9 (t:=9) (v:=.agg #[.slice p m.length c,.int .i64 x.regs,.slice fp.pP x.params.length fp.cP,.slice fp.pR x.results.length fp.cR,.slice fp.pB x.blocks.length fp.cB,.int .i64 (fi:Int)]) (w':=F) h Z Z Z (fun K I=>?_) ?_
 ·have J:o.tmps[6]?.getD undef=.agg #[.slice p m.length c]:=h.sl2 6 _ Z
  have T:o.tmps[7]?.getD undef=.agg #[.int .i64 x.regs,.slice fp.pP x.params.length fp.cP,.slice fp.pR x.results.length fp.cR,.slice fp.pB x.blocks.length fp.cB]:=h.sl2 7 _ Z;have P:o.tmps[8]?.getD undef=.int .i64 (fi:Int):=h.sl2 8 _ Z;go_simp;exact I
 clear h;intro R s;refine St.go s <| Qko cf58 d (QcS (m:=m) (p:=p) (c:=c) (x:=x) (fp:=fp) (fi:=fi) (A.out.below d.bel) C.out H q) Y Z Z <| fun N y=>sT 0 y Z Z infFault Z Z Z <| fun S g=>Yb fun G l=>u _ _ ?_
 refine XA ?_;with_reducible repeat first | refine Qg ?_ | refine Qd ?_
 exact QJ 0 l g Z Z Z underlying32 Z infFault ⟨Z,g.bel⟩
theorem Qdo {m:List (Qe n)}(D:(Qam n).In w All m [.slice p m.length c]) (E:Qcl m) :
 Rd prog 32 #[.agg #[.slice p m.length c]] w (Qar (Qr m)):=by
 have W:Hid _:=D;have h:Hid _:=E;clear D E;refine Qv (n:=18) func32 Z Z Z <| fun a M=>?_
 have hW:=Ye w;replace M:Fr 18 a [(0,.agg #[.slice p m.length c])]:=M;refine XW fun K1 U=>rg M fun g=>sB hW Y Z Z <| fun w2 B2 P hN=>ZI P Y Z <| fun S B3 b hN=>Yb fun a4 h4=>U _ _ <| XW fun K5 T=>XW fun K6 F=>Qap <| fun g l=>?_
 have d:(g[4]?).bind (fun o:Oper=>o.dst)=some 7:=l 4;clear l;refine St.go h4 <| sfModule0 Y Z Z <| Qdz 1 b Y Z Z Z Z <| QcH Y Z Z <| slt Y Z Z Z <| sm Y Z Z <| fun a7 J=>?_
 rcases Xa (decide ((m.length:Int)<1)) with e | e
 ·rw[e] at J
  have aq:m.length<1:=by have:=Xv e;omega
  clear e;refine St.go J <| so d Z Z Z Z <| so d Z Z Z Z <| so d Z Z Z Z <| so d Z Z Z Z <| sp Y Z Z Z <| Yb fun a9 N=>F _ _ <| Qhg (t:=12) N Z <| XW fun ao H=>rg N fun g=>fun am u=>Q9 (t:=13) (v:=.agg #[.int .i64 2,.int .i64 (-1)]) (w':=S) u Z Z Z (fun K C=>?_) ?_
  ·go_simp
   exact C
  clear u;intro al A;refine St.go A <| sT 0 b Z Z infFault Z Z Z <| fun ak i=>Yb fun aj Q=>H _ _ ?_
  refine XA ?_;with_reducible repeat first | refine Qg ?_ | refine Qd ?_
  have R:Qr m=(2,-1):=Xs (by omega);exact QJ 0 Q i Z Z Z underlying32 Z infFault ⟨by show Ending.returned (.agg #[.int .i64 2,.int .i64 (-1)])=_;rw[R],i.bel⟩
 rw[e] at J
 have aa:¬ (m.length<1):=by have:=Xw e;omega
 clear e;refine St.go J <| sfModule0 ⟨_,d,Z,Z⟩ Z Z <| Qdz 1 b ⟨_,d,Z,Z⟩ Z Z Z Z <| QcH ⟨_,d,Z,Z⟩ Z Z <| sgt ⟨_,d,Z,Z⟩ Z Z Z <| spf Y Z Z Z <| Yb fun an s=>F _ _ <| QR (t:=12) s Z (fun e=>?_) (fun e=>?_)
 ·have ac:8<m.length:=by have:=Xv e;omega
  clear e;refine XW fun ad y=>rg s fun g=>fun ae z=>Q9 (t:=13) (v:=.agg #[.int .i64 2,.int .i64 (-1)]) (w':=S) z Z Z Z (fun K C=>?_) ?_
  ·go_simp
   exact C
  clear z;intro au I;refine St.go I <| sT 0 b Z Z infFault Z Z Z <| fun ar q=>Yb fun af L=>y _ _ ?_
  refine XA ?_;with_reducible repeat first | refine Qg ?_ | refine Qd ?_
  have R:Qr m=(2,-1):=Xs (by omega);exact QJ 0 L q Z Z Z underlying32 Z infFault ⟨by show Ending.returned (.agg #[.int .i64 2,.int .i64 (-1)])=_;rw[R],q.bel⟩
 have ab:¬ (8<m.length):=by have:=Xw e;omega
 clear e;refine XB <| T _ _ <| XW fun ah B=>rg s fun g=>sfModule0 Y Z Z <| Qdz 1 b Y Z Z Z Z <| fun X r=>Q9 (t:=16) (v:=.func (.func 57) #[] #[.pointer (some ⟨B2,0,none⟩)]) (w':=S) r Z Z Z (fun K C=>?_) ?_
 ·have k0:X.tmps.getD 1 undef=.pointer (some ⟨B2,0,none⟩):=r.sl 1 _ Z
  go_simp;exact C
 clear r;intro O k;refine St.go k ?_;clear k O;refine Qib cf56 b (Qgg (Bc:=B2) (fun f x=>Qe.fault m.length f x) (Ya W.out b.bel) (by have:=h.out.1;omega) (fun f x xi wx hz hi e=>Qhq hi (h.out.2 _ (Zm hz)) (by have:=h.out.1;omega) (by have N:=(Zi hz).1;have:=h.out.1;omega) ((b.get 1 Z).below e))) Y Z Z Z ?_;clear b;intro ag G;refine sT 0 G Z Z infFault Z Z Z <| fun ai j=>Yb fun ap V=>B _ _ ?_
 refine XA ?_;with_reducible repeat first | refine Qg ?_ | refine Qd ?_
 have R:Qr m=firstF (fun f x=>Qe.fault m.length f x) 0 m:=Xr (by omega);exact QJ 0 V j Z Z Z underlying32 Z infFault ⟨by show Ending.returned (.agg #[.int .i64 ((firstF (fun f x=>Qe.fault m.length f x) 0 m).1),.int .i64 ((firstF (fun f x=>Qe.fault m.length f x) 0 m).2)])=_;rw[R],j.bel⟩
def N43 (lo pages most:Nat) (m:List (Qe 6)) (inp:List Int) (v:Value) (s:World × Tg):Prop:=∃ b g,v=.pointer (some ⟨b,0,none⟩)/\MAt s.1 b most m (IM.start inp pages) 0 0 g/\∀ x,g.A x->lo<=x
def B42 (lo pages most:Nat) (m:List (Qe 6)) (inp:List Int) (v:Value) (s:World × Tg):Prop:=∃ bm pm cm pi ci vc,v=.agg #[.pointer (some ⟨bm+1,0,none⟩),.slice pm m.length cm,.slice pi inp.length ci,.int .i64 (most:Int),vc,.int .i64 0,.slice none 0 0,.slice none 0 0,.int .i64 0,.bool false,.int .i64 0,.int .i64 0]/\H33 lo pages (.pointer (some ⟨bm+1,0,none⟩)) s/\M35 lo m (.agg #[.slice pm m.length cm]) s/\I37 lo inp (.slice pi inp.length ci) s/\C41 lo vc s
theorem QiP {Y:Nat}(h:Blk w Y #[.int .i64 0,.int .i64 0] 32):Below w.heap.size w ((w.setCell ⟨Y,0,none⟩ (.int .i64 0)).setCell ⟨Y,1,none⟩ (.int .i64 0)):=by
 have b:=((Below.refl 0 w).setCell (p:=⟨Y,0,none⟩) (Xb _) (.int .i64 0)).setCell (p:=⟨Y,1,none⟩) (Xb _) (.int .i64 0);refine⟨b.os,b.tape,b.output,b.size,fun k a=>?_⟩
 by_cases e:k=Y
 ·subst e;exact(Zs h (.int .i64 0) (.int .i64 0)).trans h.symm
 ·rw[Xd _ _ _ _ e,Xd _ _ _ _ e]
theorem N43.keep {m:List (Qe 6)}{s a:World × Tg}(h:N43 lo pages most m inp v s) (r:RT s a):N43 lo pages most m inp v a:=by
 obtain⟨b,g,d,c,e⟩:=h
 exact⟨b,g,d,c.below r.1,e⟩
theorem B42.keep {m:List (Qe 6)}{s a:World × Tg}(h:B42 lo pages most m inp v s) (r:RT s a):B42 lo pages most m inp v a:=by
 obtain⟨f,d,n,b,c,e,l,g,j,i,k⟩:=h
 exact⟨f,d,n,b,c,e,l,g.keep r,j.keep r,i.keep r,k.keep r⟩
def nwE (lo pages most X Y ci cm:Nat) (m:List (Qe 6)) (inp:List Int) (pm pi:Option Addr) (t:Tmp) (v:Value) (s:World × Tg):Prop :=
 match ([(33,H33 lo pages),(35,M35 lo m),(37,I37 lo inp),(40,F40 lo),(41,C41 lo),(42,B42 lo pages most m inp),(43,N43 lo pages most m inp),(8,N43 lo pages most m inp)]:List (Tmp × (Value->World × Tg->Prop))).lookup t with
 | some p=>p v s
 | none=>v=(([(3,.int .i64 (pages:Int)),(4,.pointer (some ⟨X,0,none⟩)),(1,.slice pi inp.length ci),(2,.int .i64 (most:Int)),(9,.pointer (some ⟨Y,0,none⟩)),(32,.int .i64 (pages:Int)),(34,.agg #[.slice pm m.length cm]),(36,.slice pi inp.length ci),(38,.int .i64 (most:Int)),(39,.agg frm0),(44,.agg #[.int .i64 0,.int .i64 0])]:List (Tmp × Value)).lookup t).getD undef
theorem nw6 {Y:Nat}{m:List (Qe 6)}(x0:w6.cell? ⟨X,0,none⟩=some (.slice pm m.length cm)) (BY:Hid (Blk w6 Y #[.int .i64 0,.int .i64 0] 32)) (N:Hid (∀ x∈inp,Zh x))
 (T:Hid (∀ wx,Below w6.heap.size w6 wx->Calls prog 35 #[.agg #[.slice pm m.length cm]] wx fun e w'=>∃ v,e=.returned v/\(∃ a' c',v=.agg #[.slice a' m.length c']/\(Qam 6).In w' (Qaq wx.heap.size) m [.slice a' m.length c'])/\Below wx.heap.size wx w'))
 (M:Hid (∀ wx,Below w6.heap.size w6 wx->Calls prog 36 #[.slice pi inp.length ci] wx fun e w'=>Qb0 wx inp e w'))
 (a:Act) (n:Nat) (hn:a.tmps.size=n) (L:45<=n) (Q:a.tmps.getD 3 undef=.int .i64 (pages:Int)) (h4:a.tmps.getD 4 undef=.pointer (some ⟨X,0,none⟩)) (W:a.tmps.getD 1 undef=.slice pi inp.length ci) (P:a.tmps.getD 2 undef=.int .i64 (most:Int)) (h9:a.tmps.getD 9 undef=.pointer (some ⟨Y,0,none⟩)) :
 Code.wp prog ((Tryz.f10.body.bind (Qn 6)).getD .skip) (fun e a' w'=>e=.normal/\∃ vs b g,a'=QT a vs [32,33,34,35,36,37,38,39,40,41,42,43,44,8]/\vs 8=.pointer (some ⟨b,0,none⟩)/\MAt w' b most m (IM.start inp pages) 0 0 g/\(∀ x,g.A x->w6.heap.size<=x)/\Below w6.heap.size w6 w') a w6:=by
 conv=>arg 2;whnf
 refine QcL (z:=fun _=>0) (nwE w6.heap.size pages most X Y ci cm m inp pm pi) (fun s=>Below w6.heap.size w6 s.1) RT (outs:=[3,4,1,2,9]) (gs:=[]) (bs:=[true,true,true,true,true,true,true,true,true,true,true,true,true,true,true]) (by kernel_rfl) (n:=45) hn L (by kernel_rfl) ?hR ?hG (QH Zr 1) ⟨Q,h4,W,P,h9,Yy⟩ ?hA ?hend
 case hR =>
  intro t v w w' hr h;unfold nwE at h |-;split at h
  ·rename_i p G
   simp only[List.lookup_cons,List.lookup_nil] at G
   repeat' split at G
   all_goals first | (cases G;exact h.keep hr) | cases G
  ·exact h
 case hG=>exact Yy
 case hend =>
  intro vs w' d i;obtain⟨b,g,e,I,J⟩:N43 w6.heap.size pages most m inp (vs 8) w':=i 8 (by kernel_rfl)
  exact⟨Z,vs,b,g,Z,e,I,J,d⟩
 case hA =>
  refine⟨fun a s d i K j=>?_,?_⟩
  ·obtain⟨w,z⟩:=s
   have d:Below w6.heap.size w6 w:=d;obtain⟨f,-⟩:=i
   have f:a.tmps.getD 3 undef=.int .i64 (pages:Int):=f;go_simp;exact j _ (w,z) (RT.refl _) d Z
  refine⟨fun a s d i K j=>?_,?_⟩
  ·obtain⟨w,z⟩:=s
   have d:Below w6.heap.size w6 w:=d;obtain⟨f,-⟩:=i
   have f:a.tmps.getD 32 undef=.int .i64 (pages:Int):=f;go_simp;refine Xm (Qik w pages) ?_;rintro r7 F ⟨rfl,R,q⟩;go_simp;exact j _ (F,mk 33 w z) (RT.mk q) (d.trans (q.mono d.size)) ⟨w.heap.size,Z,R,Qdf Ze,Qdf (Nat.le_succ _),d.size⟩
  refine⟨fun a s d i K j=>?_,?_⟩
  ·obtain⟨w,z⟩:=s
   have d:Below w6.heap.size w6 w:=d;obtain⟨f,-⟩:=i
   have f:a.tmps.getD 4 undef=.pointer (some ⟨X,0,none⟩):=f;have c0:=QI x0 d;go_simp;exact j _ (w,z) (RT.refl _) d Z
  refine⟨fun a s d i K j=>?_,?_⟩
  ·obtain⟨w,z⟩:=s
   have d:Below w6.heap.size w6 w:=d;obtain⟨f,-⟩:=i
   have f:a.tmps.getD 34 undef=.agg #[.slice pm m.length cm]:=f;go_simp;refine Xm (T.out w d) ?_;rintro r7 F ⟨v,rfl,⟨S,O,rfl,R⟩,q⟩;go_simp;exact j _ (F,mk 35 w z) (RT.mk q) (d.trans (q.mono d.size)) ⟨S,O,Z,(Qam 6).keep (fun _ _ _=>rfl) (fun k i hl=>⟨hl,Qdf i⟩) R⟩
  refine⟨fun a s d i K j=>?_,?_⟩
  ·obtain⟨w,z⟩:=s
   have d:Below w6.heap.size w6 w:=d;obtain⟨f,-⟩:=i
   have f:a.tmps.getD 1 undef=.slice pi inp.length ci:=f;go_simp;exact j _ (w,z) (RT.refl _) d Z
  refine⟨fun a s d i K j=>?_,?_⟩
  ·obtain⟨w,z⟩:=s
   have d:Below w6.heap.size w6 w:=d;obtain⟨f,-⟩:=i
   have f:a.tmps.getD 36 undef=.slice pi inp.length ci:=f;go_simp;refine Xm (M.out w d) ?_;rintro r7 F ⟨S,O,rfl,W,P,Q,q⟩;go_simp;exact j _ (F,mk 37 w z) (RT.mk q) (d.trans (q.mono d.size)) ⟨S,O,Z,W,P,fun x hx=>Qdf (Q x hx)⟩
  refine⟨fun a s d i K j=>?_,?_⟩
  ·obtain⟨w,z⟩:=s
   have d:Below w6.heap.size w6 w:=d;obtain⟨f,-⟩:=i
   have f:a.tmps.getD 2 undef=.int .i64 (most:Int):=f;go_simp;exact j _ (w,z) (RT.refl _) d Z
  refine⟨fun a s d i K j=>?_,?_⟩
  ·obtain⟨w,z⟩:=s
   have d:Below w6.heap.size w6 w:=d;go_simp;exact j _ (w,z) (RT.refl _) d Z
  refine⟨fun a s d i K j=>?_,?_⟩
  ·obtain⟨w,z⟩:=s
   have d:Below w6.heap.size w6 w:=d;obtain⟨f,-⟩:=i
   have f:a.tmps.getD 39 undef=.agg frm0:=f;go_simp;exact j _ (_,mk 40 w z) (RT.mk (QY w (.cells frm0 87))) (d.trans ((QY w _).mono d.size)) ⟨w.heap.size,Z,Qh w frm0 87,d.size,Qdf Ze⟩
  refine⟨fun a s d i K j=>?_,?_⟩
  ·obtain⟨w,z⟩:=s
   have d:Below w6.heap.size w6 w:=d;obtain⟨f,-⟩:=i
   have f:F40 w6.heap.size (a.tmps.getD 40 undef) (w,z):=f;obtain⟨c,f,hc,U,V⟩:=f
   have g0:a.tmps[40]?.getD undef=_:=(Za ..).symm.trans f;go_simp;exact j _ (_,mk 41 w z) (RT.mk (QY w (.cells #[.pointer (some ⟨c,0,none⟩)] 84))) (d.trans ((QY w _).mono d.size)) ⟨c,w.heap.size,Z,Qh w #[.pointer (some ⟨c,0,none⟩)] 84,Blk.below hc (QY w _),U,d.size,((RT.mk (s:=41) (z:=z) (QY w (.cells #[.pointer (some ⟨c,0,none⟩)] 84))).2 c (XC hc)).trans V,Qdf Ze⟩
  refine⟨fun a s d i K j=>?_,?_⟩
  ·obtain⟨w,z⟩:=s
   have d:Below w6.heap.size w6 w:=d;obtain⟨f,o,B,H,u,-⟩:=i
   have f:H33 w6.heap.size pages (a.tmps.getD 33 undef) (w,z):=f;have o:M35 w6.heap.size m (a.tmps.getD 35 undef) (w,z):=o;have B:I37 w6.heap.size inp (a.tmps.getD 37 undef) (w,z):=B;have H:a.tmps.getD 38 undef=.int .i64 (most:Int):=H;have u:C41 w6.heap.size (a.tmps.getD 41 undef) (w,z):=u;have l:=f;have D:=o;have y:=B;obtain⟨bm,f,-⟩:=f
   obtain⟨am,dm,o,-⟩:=o
   obtain⟨ai,di,B,-⟩:=B
   have C:=u;obtain⟨cc,rr,u,-⟩:=u
   rw[f] at l
   rw[o] at D
   rw[B] at y
   rw[u] at C
   have l:=Qb l;have D:=Qb D;have y:=Qb y;have C:=Qb C;have g0:a.tmps[33]?.getD undef=_:=(Za ..).symm.trans f;have g1:a.tmps[35]?.getD undef=_:=(Za ..).symm.trans o;have g2:a.tmps[37]?.getD undef=_:=(Za ..).symm.trans B;have g3:a.tmps[38]?.getD undef=_:=(Za ..).symm.trans H;have g4:a.tmps[41]?.getD undef=_:=(Za ..).symm.trans u;go_simp;exact j _ (w,z) (RT.refl _) d ⟨bm,am,dm,ai,di,_,Z,l.out,D.out,y.out,C.out⟩
  refine⟨fun a s d i K j=>?_,?_⟩
  ·obtain⟨w,z⟩:=s
   have d:Below w6.heap.size w6 w:=d;obtain⟨f,-⟩:=i
   have f:B42 w6.heap.size pages most m inp (a.tmps.getD 42 undef) (w,z):=f;obtain⟨bm,am,dm,ai,di,vc,f,l,D,y,c,r,rfl,q3,C,q5,q6,q7,q8⟩:=f
   have NA:=Qb (Qk8 (most:=most) d.size l D y N.out q3 C q5 q6 q7 q8);clear l D y q3 C q5 q6 q7 q8;go_simp;obtain⟨g,I,J⟩:=NA.out
   exact j _ (_,mk 43 w z) (RT.mk (QY w _)) (d.trans ((QY w _).mono d.size)) ⟨w.heap.size,g,Z,I,J⟩
  refine⟨fun a s d i K j=>?_,?_⟩
  ·obtain⟨w,z⟩:=s
   have d:Below w6.heap.size w6 w:=d;go_simp;exact j _ (w,z) (RT.refl _) d Z
  refine⟨fun a s d i K j=>?_,?_⟩
  ·obtain⟨w,z⟩:=s
   have d:Below w6.heap.size w6 w:=d;obtain⟨f,-⟩:=i
   have f:N43 w6.heap.size pages most m inp (a.tmps.getD 43 undef) (w,z):=f;have l:=Qb f;obtain⟨b,g,f,-⟩:=f
   rw[f] at l
   go_simp;exact j _ (w,z) (RT.refl _) d l.out
  refine⟨fun a s d i K j=>?_,?_⟩
  ·obtain⟨w,z⟩:=s
   have d:Below w6.heap.size w6 w:=d;obtain⟨f,o,-⟩:=i
   have f:a.tmps.getD 9 undef=.pointer (some ⟨Y,0,none⟩):=f;have o:a.tmps.getD 44 undef=.agg #[.int .i64 0,.int .i64 0]:=o;have E:=Blk.below BY.out d;have c0:=Qa E 0 _ Z;have c1:=Qa E 1 _ Z;have d0:=Qf E 0;have d1:=Qf E 1;have HY:=Qb E;have HB:=Qb (QiP HY.out);clear E;go_simp;exact j undef (_,z) ⟨HB.out,fun _ _=>rfl⟩ (d.trans (HB.out.mono d.size)) Yy
  trivial
section
theorem Qcm (w:World) (n k:Nat):Calls prog 33 #[.int .i64 (n:Int),.int .i64 (k:Int)] w fun e w'=>e=.returned (.bool (decide (n<=k)))/\w'=w:=by
 go_enter func33,ntmps33
 go_wp2
 all_goals refine Xy (v:=.bool (decide (n<=k))) (by simp[results,results33,go_sem]) Z ⟨Z,Z⟩
theorem QiJ {m:List (Qe 6)}(K:(Qam 6).In w All m [.slice pm m.length cm]) (J:Qcl m) (I:intsL.In w All inp [.slice pi inp.length ci]) (S:(Qr m).1=0) (j:∀ x∈inp,Zh x) (H:inp.length<=200) (G:most<=20000) (D:pages<=64) :
 Calls prog 10 #[.agg #[.slice pm m.length cm],.slice pi inp.length ci,.int .i64 (most:Int),.int .i64 (pages:Int)] w fun e w'=>QlV w m inp most pages e w':=by
 have L:=Qb K;have T:=Qb J;have HI:=Qb I;have t:=Qb j;have HF:=Qb S;have HL:=Qb (Xh H (Xh G D));have s:=Qb (Qai w (.cells #[.slice pm m.length cm] 24) (.cells #[.int .i64 0,.int .i64 0] 32))
 have P:Hid (∀ a,Calls prog 33 #[.int .i64 (inp.length:Int),.int .i64 200] a fun e w'=>e=.returned (.bool true)/\w'=a):=fun a=>by
  have:=Qcm a inp.length 200
  rwa [Xt H] at this
 have R:Hid (∀ a,Calls prog 33 #[.int .i64 (most:Int),.int .i64 20000] a fun e w'=>e=.returned (.bool true)/\w'=a):=fun a=>by
  have:=Qcm a most 20000
  rwa [Xt G] at this
 have Q:Hid (∀ a,Calls prog 33 #[.int .i64 (pages:Int),.int .i64 64] a fun e w'=>e=.returned (.bool true)/\w'=a):=fun a=>by
  have:=Qcm a pages 64
  rwa [Xt D] at this
 clear K J I j S H G D;go_enter func10,ntmps10
 go_upto_region 1 with fail
 have r:Hid (Blk ((w.alloc (.cells #[.slice pm m.length cm] 24)).alloc (.cells #[.int .i64 0,.int .i64 0] 32)) w.heap.size #[.slice pm m.length cm] 24):=Qf3 w #[.slice pm m.length cm] 24 _;have i:Hid (Blk ((w.alloc (.cells #[.slice pm m.length cm] 24)).alloc (.cells #[.int .i64 0,.int .i64 0] 32)) (w.heap.size+1) #[.int .i64 0,.int .i64 0] 32):=QbI w _ #[.int .i64 0,.int .i64 0] 32;generalize (w.alloc (.cells #[.slice pm m.length cm] 24)).alloc (.cells #[.int .i64 0,.int .i64 0] 32)=u at s r i |-;generalize w.heap.size+1=Y at i |-;have N:=Qa r.out 0 _ Z;generalize hX:w.heap.size=X at N r |-;have f:=Qb (Qdo (Ya L.out s.out) T.out);obtain⟨d,O⟩:∃ d,Qr m=(0,d):=⟨(Qr m).2,Prod.ext HF.out Z⟩
 rw[O] at f
 have f:Hid (Calls prog 32 #[.agg #[.slice pm m.length cm]] u fun e w'=>e=.returned (Z8 0 d)/\Below u.heap.size u w'):=f.out;clear O;go_upto_region 2 with (go_at_call 32;refine f.out.mono ?_;rintro e' p ⟨rfl,B⟩)
 have q:=Qh p #[.int .i64 0,.int .i64 d] 32;have c:=Qb (B.trans ((QY p (.cells #[.int .i64 0,.int .i64 d] 32)).mono B.size));clear B f;generalize p.alloc (.cells #[.int .i64 0,.int .i64 d] 32)=n at q c |-;generalize p.heap.size=F at q |-;have c0:=Qa q 0 _ Z;clear q N;go_upto_region 6 with (go_at_call 33;(first | with_reducible refine(P.out _).mono ?_ | with_reducible refine(R.out _).mono ?_ | with_reducible refine(Q.out _).mono ?_);rintro e' w' ⟨rfl,y⟩;have y:=y.symm;subst y)
 clear c0 P R Q;have U:=QI (Qa r.out 0 _ Z) c.out;have h:=Qb (s.out.trans (c.out.mono s.out.size));have E:Hid (∀ a,Below n.heap.size n a->Calls prog 35 #[.agg #[.slice pm m.length cm]] a fun e w'=>∃ v,e=.returned v/\(∃ a' c',v=.agg #[.slice a' m.length c']/\(Qam 6).In w' (Qaq a.heap.size) m [.slice a' m.length c'])/\Below a.heap.size a w'):=fun a C=>Qi9 m pm cm a (Ya (Ya L.out h.out) C) T.out;have A:Hid (∀ a,Below n.heap.size n a->Calls prog 36 #[.slice pi inp.length ci] a fun e w'=>Qb0 a inp e w'):=fun a C=>QbS (Ya (Ya HI.out h.out) C) (by have:=HL.out.1;omega);refine Code.wp_mono ?_ (nw6 U (Qb (Blk.below i.out c.out)) t E A _ _ Z (Xg (by kernel_rfl)) Z Z Z Z Z);rintro _ _ w5 ⟨rfl,vs,b,g,rfl,l,k,M,o⟩;have z:=Qb (Xh k (Xh M o));have V:=QI (QI (Qa i.out 0 _ Z) c.out) o;have y1:=QI (QI (Qa i.out 1 _ Z) c.out) o;clear k M o U;simp only[QT,Act.put,List.setIfInBounds_toArray,List.set_cons_zero,List.set_cons_succ,l]
 clear l;go_wp2
 exact Xy (v:=.tuple #[.pointer (some ⟨b,0,none⟩),Z8 0 0]) (by simp[results,results10,go_sem,V,y1]) Z ⟨b,g,Z,z.out.1,fun x W=>Zt h.out.size (z.out.2.1 x W),h.out.trans (z.out.2.2.mono h.out.size)⟩
end
section
variable {m:List (Qe 6)}{op:Int->Int->Int->Option Int}{most most':Nat}{M A B N N':IM}{j k:Nat}
theorem Qc9 (a:IM.steps m op most j M=some A) (c:A.done=true) (b:IM.steps m op most k M=some B) (e:B.done=true):A=B:=by
 rcases Nat.le_total j k with h | h
 ·obtain⟨d,rfl⟩:=Nat.exists_eq_add_of_le h
  have:=Qa7 (j:=d) a c
  rw[b] at this
  exact(Xn this).symm
 ·obtain⟨d,rfl⟩:=Nat.exists_eq_add_of_le h
  have:=Qa7 (j:=d) b e
  rw[a] at this
  exact Xn this
theorem QcN (e:IM.steps m op most j M=some A) (b:A.done=true) (c:IM.steps m op most k M=some N) (a:N.done=false) (f:IM.step m op most N=none):False:=by
 rcases Nat.lt_or_ge k j with h | h
 ·have g:IM.steps m op most (k+1) M=none:=by rw[QdO c a];exact f
  obtain⟨d,rfl⟩:=Nat.exists_eq_add_of_le (show k+1<=j from h)
  have:=Qbi (j:=d) g
  rw[e] at this
  cases this
 ·obtain⟨d,rfl⟩:=Nat.exists_eq_add_of_le h
  have:=Qa7 (j:=d) e b
  rw[c] at this
  rw[Xn this,b] at a
  cases a
theorem QhL (b:IM.steps m op most k M=some N) (g:N.done=false) (f:IM.step m op most N=none) (a:IM.steps m op most j M=some N') (e:N'.done=false) (c:IM.step m op most N'=none):N=N':=by
 have l:∀ {k j:Nat} {N N':IM},IM.steps m op most k M=some N->N.done=false->IM.step m op most N=none->IM.steps m op most j M=some N'->¬ k<j:=fun {k j N N'} b g f a h=>by
  have i:IM.steps m op most (k+1) M=none:=by rw[QdO b g];exact f
  obtain⟨d,rfl⟩:=Nat.exists_eq_add_of_le (show k+1<=j from h)
  have:=Qbi (j:=d) i
  rw[a] at this
  cases this
 have i:=l b g f a;have n:=l a e c b;obtain rfl:k=j:=by omega
 rw[b] at a
 exact Xn a
theorem QfR (inp:List Int){p p':Nat}(h:p<=p'):IM.start inp p'=(IM.start inp p).up (p' - p):=by
 obtain⟨d,rfl⟩:=Nat.exists_eq_add_of_le h
 rw[Nat.add_sub_cancel_left]
 rfl
theorem Qg4 {p p':Nat}(e:most<=most') (b:p<=p') (g:IM.steps m op most j (IM.start inp p)=some A) (a:A.done=true) (o:A.fin≠6) (n:A.fin≠7) :
 (∀ N k,IM.steps m op most' k (IM.start inp p')=some N->N.done=false->IM.step m op most' N≠none)/\∀ B k,IM.steps m op most' k (IM.start inp p')=some B->B.done=true->B.fin=A.fin/\B.back=A.back/\B.out=A.out/\B.fuel=A.fuel:=by
 have h:=(Qcx (k:=p' - p) e j (Xb _) g a Z).1 o n j Ze;rw[<-QfR inp b] at h
 refine⟨fun N k d l c=>QcN h a d l c,fun B k i f=>?_⟩
 rw[<-Qc9 h a i f]
 exact⟨Z,Z,Z,Z⟩
theorem Qhd {p p':Nat}(d:most<=most') (b:p<=p') (f:IM.steps m op most j (IM.start inp p)=some A) (c:A.done=true) (a:A.fin=6\/A.fin=7) :
 ∀ B k,IM.steps m op most' k (IM.start inp p')=some B->B.done=true->A.fuel<=B.fuel/\∃ l,B.out=A.out++l:=fun B k g e=>by
 have h:=(Qcx (k:=p' - p) d j (Xb _) f c Z).2 a k B;rw[<-QfR inp b] at h
 exact h g e
end
structure Bxs (w wx:World) (l:List (Nat × Array Value × TypeId)):Prop where
 bel:Below w.heap.size w wx
 ge:∀ b∈l,w.heap.size<=b.1
 box:∀ b∈l,Blk wx b.1 b.2.1 b.2.2
 nd:(l.map (·.1)).Nodup
section
variable {w wx w':World}{l a z:List (Nat × Array Value × TypeId)}{B:Nat}{c:Array Value}{t:TypeId}
theorem Bxs.start (w:World):Bxs w w []:=⟨Zr,fun _ h=>by simp at h,fun _ h=>by simp at h,by simp⟩
theorem Bxs.below (h:Bxs w wx l) (k:Below wx.heap.size wx w'):Bxs w w' l:=⟨h.bel.trans (k.mono h.bel.size),h.ge,fun b a=>(h.box b a).below k,h.nd⟩
theorem Bxs.drewN (h:Bxs w wx l) (n:Nat):Bxs w (wx.drewN n) l:=h.below (QH Zr n)
theorem Bxs.drew (h:Bxs w wx l):Bxs w wx.drew l:=h.drewN 1
theorem Bxs.add (h:Bxs w wx l) (hb:Blk wx B c t) (d:w.heap.size<=B) (hn:∀ b∈l,b.1≠B):Bxs w wx ((B,c,t)::l) :=
 ⟨h.bel,fun b a=>by rcases List.mem_cons.1 a with rfl | e;exact d;exact h.ge b e,fun b a=>by rcases List.mem_cons.1 a with rfl | e;exact hb;exact h.box b e,by
  simp only[List.map_cons,List.nodup_cons]
  refine⟨fun e=>?_,h.nd⟩
  obtain⟨b,a,e⟩:=List.mem_map.1 e
  exact hn b a e⟩
theorem Bxs.new (h:Bxs w wx l) (c:Array Value) (t:TypeId):Bxs w (wx.alloc (.cells c t)) ((wx.heap.size,c,t)::l) :=
 (h.below (QbH _ _)).add (Blk.new _ _ _) h.bel.size (fun b a e=>by have:=(h.box b a).lt;omega)
theorem Bxs.made (h:Bxs w wx l) (k:Below wx.heap.size wx w') (hb:Blk w' B c t) (d:wx.heap.size<=B):Bxs w w' ((B,c,t)::l) :=
 (h.below k).add hb (Zt h.bel.size d) (fun b a e=>by have:=(h.box b a).lt;omega)
theorem Bxs.at (h:Bxs w wx (a++(B,c,t)::z)):Blk wx B c t:=h.box (B,c,t) (by simp)
theorem Bxs.cell (h:Bxs w wx (a++(B,c,t)::z)) (i:Nat) (v:Value) (b:c[i]?=some v):wx.cell? ⟨B,i,none⟩=some v:=Qa h.at i v b
theorem Bxs.free (h:Bxs w wx (a++(B,c,t)::z)) (i:Nat):wx.frozen? ⟨B,i,none⟩=false:=Qf h.at i
theorem Bxs.set (h:Bxs w wx (a++(B,c,t)::z)) (i:Nat) (v:Value):Bxs w (wx.setCell ⟨B,i,none⟩ v) (a++(B,c.setIfInBounds i v,t)::z):=by
 have f:∀ b∈a++z,b.1≠B:=fun b d e=>by
  have g:=h.nd;rw[List.map_append,List.map_cons,List.nodup_append] at g
  obtain⟨-,j,k⟩:=g
  rw[List.nodup_cons] at j
  rcases List.mem_append.1 d with d | d
  ·exact k b.1 (List.mem_map_of_mem d) B (by simp) e
  ·exact j.1 (List.mem_map.2 ⟨b,d,e⟩)
 refine⟨h.bel.setCell (p:=⟨B,i,none⟩) (h.ge (B,c,t) (by simp)) v,fun b d=>?_,fun b d=>?_,?_⟩
 ·simp only[List.mem_append,List.mem_cons] at d
  rcases d with d | rfl | d
  ·exact h.ge b (by simp[d])
  ·exact h.ge (B,c,t) (by simp)
  ·exact h.ge b (by simp[d])
 ·simp only[List.mem_append,List.mem_cons] at d
  rcases d with d | rfl | d
  ·exact(Xd _ _ _ _ (f b (by simp[d]))).trans (h.box b (by simp[d]))
  ·have:=Qo h.at i v
   simpa using this
  ·exact(Xd _ _ _ _ (f b (by simp[d]))).trans (h.box b (by simp[d]))
 ·have:=h.nd
  simpa using this
theorem Bxs.drop (h:Bxs w wx ((B,c,t)::l)):Bxs w wx l:=⟨h.bel,fun b a=>h.ge b (by simp[a]),fun b a=>h.box b (by simp[a]),by have:=h.nd;simp only[List.map_cons,List.nodup_cons] at this;exact this.2⟩
theorem Bxs.ne (h:Bxs w wx ((B,c,t)::l)):∀ b∈l,b.1≠B:=fun b a e=>by
 have:=h.nd
 simp only[List.map_cons,List.nodup_cons] at this
 exact this.1 (List.mem_map.2 ⟨b,a,e⟩)
end
theorem Lay.flat {α:Type}{A:Lay α}{l:List α}(h:A.list.In w O l [.slice (some ⟨g,o,none⟩) n c]) (d:∀ (x:α) (ds:List Value),A.In w O x ds->∀ u∈ds,u.oneCell'=true) :
 ∃ ds:List Value,ds.length=l.length*A.size/\(∀ (j:Nat) (u:Value),ds[j]?=some u->w.cell? ((⟨g,o,none⟩:Addr).add j)=some u)/\(∀ u∈ds,u.oneCell'=true)/\∀ (i:Nat) (x:α),l[i]?=some x->A.In w O x ((ds.drop (i*A.size)).take A.size):=by
 have r:∀ k,k<=l.length->∃ ds:List Value,ds.length=k*A.size/\(∀ (j:Nat) (u:Value),ds[j]?=some u->w.cell? ⟨g,o+j,none⟩=some u)/\(∀ u∈ds,u.oneCell'=true)/\∀ (i:Nat) (x:α),i<k->l[i]?=some x->A.In w O x ((ds.drop (i*A.size)).take A.size):=by
  intro k
  induction k with
  | zero=>exact fun _=>⟨[],by simp,fun j u a=>by simp at a,fun u b=>by simp at b,fun i x I=>by omega⟩
  | succ k ih =>
    intro J;obtain⟨ds,p,z,B,t⟩:=ih (by omega)
    obtain⟨x,e⟩:∃ x,l[k]?=some x:=⟨_,Zg (by omega)⟩
    obtain⟨L,K,s,f,_,_,H,C⟩:=Yf h e
    injection f with f
    injection f with f e2
    subst f;subst e2;have q:=A.len C;refine⟨ds++s,by rw[List.length_append,p,q,Nat.add_mul];omega,fun j u a=>?_,fun u b=>?_,fun i y I m=>?_⟩
    ·rw[List.getElem?_append] at a
     split at a
     ·exact z j u a
     ·rename_i F
      have E:j - ds.length<s.length:=(Zi a).1;have D:=H (j - ds.length) (by omega);rw[a] at D
      rw[<-D]
      congr 2
      omega
    ·rcases List.mem_append.1 b with b | b
     ·exact B u b
     ·exact d x s C u b
    ·by_cases v:i=k
     ·subst v;rw[e] at m
      injection m with m
      subst m;rw[List.drop_append,List.drop_of_length_le (by omega),p,Nat.sub_self,List.drop_zero,List.nil_append,XO (by omega)]
      exact C
     ·have G:(i+1)*A.size<=k*A.size:=Xp _ (by omega);rw[Nat.add_mul] at G
      rw[List.drop_append_of_le_length (by omega),List.take_append_of_le_length (by simp;omega)]
      exact t i y (by omega) m
 obtain⟨ds,p,z,B,t⟩:=r l.length Ze
 exact⟨ds,p,fun j u a=>by rw[Go.WideShapes.add_plain];exact z j u a,B,fun i x e=>t i x (Zi e).1 e⟩
theorem QeR {α:Type}{P:α->List Value->Prop}{l l2:List α}{d:List Value}{s:Nat}(b:xs.length=l.length*s)
 (g:∀ (i:Nat) (x:α),l[i]?=some x->P x ((xs.drop (i*s)).take s)) (f:∀ (i:Nat) (x:α),l2[i]?=some x->P x ((d.drop (i*s)).take s)) :
 ∀ (i:Nat) (x:α),(l++l2)[i]?=some x->P x (((xs++d).drop (i*s)).take s):=by
 intro i y a;rw[List.getElem?_append] at a
 split at a
 ·rename_i e
  have c:(i+1)*s<=l.length*s:=Xp _ e;rw[Nat.add_mul] at c
  rw[List.drop_append_of_le_length (by omega),List.take_append_of_le_length (by simp;omega)]
  exact g i y a
 ·rename_i e
  have c:l.length*s<=i*s:=Xp _ (by omega)
  have:=f (i - l.length) y a
  rw[Nat.sub_mul] at this
  rw[List.drop_append,List.drop_of_length_le (by omega),List.nil_append,b]
  exact this
theorem QhD {s:Nat}(h:w.ownsRow 0 e s (.slice (some ⟨g,0,none⟩) N cap) N xs) (d:w'.heap[g]?=w.heap[g]?):w'.ownsRow 0 e s (.slice (some ⟨g,0,none⟩) N cap) N xs:=by
 obtain⟨f,j⟩:=h
 refine⟨f,?_⟩
 rcases j with i | ⟨m,c,b,k,a,l,r⟩
 ·exact .inl i
 ·injection k with e1 _ e2
  injection e1 with e1
  injection e1 with e1 _
  subst e1;subst e2;exact .inr ⟨g,cap,b,Z,a,d.trans l,r⟩
def TRq (w:World) (O Q:Nat->Prop) (v:Value) (L:List (TT 6)):Prop :=
 ∃ xs,w.ownsRow 0 92 3 v L.length xs/\(∀ g,v.ownBlock=some g->O g)/\∀ i x,L[i]?=some x->(Lay.tt 6).In w Q x ((xs.drop (i*3)).take 3)
section
variable {w w':World}{O O' Q Q':Nat->Prop}{v:Value}{L:List (TT 6)}
theorem TRq.keep (h:TRq w O Q v L) (hb:∀ k,k<w.heap.size->v.ownBlock=some k\/Q k->w'.heap[k]?=w.heap[k]?) (j:∀ k,v.ownBlock=some k->O' k) (s:∀ k,Q k->k<w.heap.size->Q' k):TRq w' O' Q' v L:=by
 obtain⟨e,⟨q,m⟩,t,n⟩:=h
 refine⟨e,⟨q,?_⟩,j,fun i x f=>(Lay.tt 6).keep (fun k l o=>hb k o (.inr l)) s (n i x f)⟩
 rcases m with p | ⟨g,a,b,rfl,d,c,r⟩
 ·exact Or.inl p
 ·exact Or.inr ⟨g,a,b,Z,d,(hb g (XC c) (.inl Z)).trans c,r⟩
theorem TRq.own (h:TRq w O Q v L)(a:v.ownBlock=some g):O g:=by
 obtain⟨c,e,b,d⟩:=h
 exact b g a
theorem TRq.block (h:TRq w O Q v L)(a:v.ownBlock=some g):∃ c,w.heap[g]?=some (.cells c 92 (0,0)):=by
 obtain⟨j,⟨i,d⟩,m,k⟩:=h
 rcases d with ⟨rfl,_⟩|⟨l,f,b,rfl,_,e,r⟩
 ·simp[Value.ownBlock] at a
 ·simp[Value.ownBlock] at a;subst a;exact⟨b,e⟩
theorem TRq.lt (h:TRq w O Q v L)(a:v.ownBlock=some g):g<w.heap.size:=by
 obtain⟨c,b⟩:=h.block a
 exact XC b
theorem TRq.form (h:TRq w O Q v L):∃ a cap,v=.slice a L.length cap/\L.length<=cap/\TRd w Q a L/\∃ xs,w.ownsRow 0 92 3 (.slice a L.length cap) L.length xs:=by
 obtain⟨xs,d,D,n⟩:=h
 obtain⟨E,s⟩:=id d
 rcases s with ⟨rfl,x⟩|⟨g,cap,A,rfl,_,z,m,C,B,k⟩
 ·have:L=[]:=Xf.1 x
  subst this;exact⟨none,0,Z,Ze,fun i t c=>by simp at c,xs,d⟩
 ·refine⟨some ⟨g,0,none⟩,cap,Z,m,fun i t c=>?_,xs,d⟩
  obtain⟨o,p,e,y,q⟩:=n i t c
  have l:i<L.length:=(Zi c).1
  have b:∀ j u,j<3->((xs.drop (i*3)).take 3)[j]?=some u->w.cell? ⟨g,i*3+j,none⟩=some u:=fun j u r f=>by
   rw[XR,Xs r,List.getElem?_drop,<-k,XR,Xs (by omega),Array.getElem?_toList] at f
   exact Qa z _ u f
  rw[e] at b
  exact⟨g,o,p,Z,b 0 _ (by omega) Z,b 1 _ (by omega) Z,b 2 _ (by omega) Z,y,q⟩
end
def JSt.has (s:JSt) (a:Int):Int:=match s.at a with | none=>1 | some _=>0
theorem TIn.over {w b w9:World}{A:Nat->Prop}{n:Nat}{t:TT n}{p:Option Addr}(h:TIn b (fun g=>¬ (A g\/w.heap.size<=g)) t p) (c:Below w.heap.size w b) (d:Below w.heap.size w w9):TIn w9 (fun g=>¬ (A g\/w.heap.size<=g)) t p :=
 h.keep (fun k a _=>(d.block k (Nat.lt_of_not_le (fun e=>a (.inr e)))).trans (c.block k (Nat.lt_of_not_le (fun e=>a (.inr e)))).symm) (fun _ h _=>h)
structure QkE (w wc:World) (R B:Nat) (A:Nat->Prop){n:Nat}(t:TT n) (p:Option Addr) (c:Nat):Prop where
 bel:Below w.heap.size w wc
 res:Blk wc R #[.int .i64 0,.int .i64 0,.slice none 0 0] 92
 box:Blk wc B #[.int .i64 t.kind,.int .i64 t.r,.slice p t.len c] 92
 lay:TIn wc (fun g=>¬ (A g\/w.heap.size<=g)) t p
 farR:w.heap.size<=R
 farB:w.heap.size<=B
 ne:¬ B=R
section
variable {w wc w9:World}{R B:Nat}{A:Nat->Prop}{n:Nat}{t:TT n}{p:Option Addr}{c:Nat}
theorem QkE.below (h:QkE w wc R B A t p c) (k:Below wc.heap.size wc w9):QkE w w9 R B A t p c :=
 ⟨h.bel.trans (k.mono h.bel.size),h.res.below k,h.box.below k,h.lay.below k,h.farR,h.farB,h.ne⟩
theorem QkE.cells (h:QkE w wc R B A t p c):wc.cell? ⟨B,0,none⟩=some (.int .i64 t.kind)/\wc.cell? ⟨B,1,none⟩=some (.int .i64 t.r)/\wc.cell? ⟨B,2,none⟩=some (.slice p t.len c) /\
 wc.cell? ⟨R,0,none⟩=some (.int .i64 0)/\wc.cell? ⟨R,1,none⟩=some (.int .i64 0)/\wc.cell? ⟨R,2,none⟩=some (.slice none 0 0)/\wc.frozen? ⟨R,0,none⟩=false/\wc.frozen? ⟨R,1,none⟩=false/\wc.frozen? ⟨R,2,none⟩=false :=
 ⟨Qa h.box 0 _ Z,Qa h.box 1 _ Z,Qa h.box 2 _ Z,Qa h.res 0 _ Z,Qa h.res 1 _ Z,Qa h.res 2 _ Z,Qf h.res 0,Qf h.res 1,Qf h.res 2⟩
end
structure TuS (w wc:World) (B lo:Nat) (A:Nat->Prop) (r:Int) (v:Value) (L:List (TT 6)):Prop where
 bel:Below w.heap.size w wc
 box:Blk wc B #[.int .i64 3,.int .i64 r,v] 92
 row:TRq wc (fun g=>lo<=g) (fun g=>¬ (A g\/w.heap.size<=g)) v L
 lo1:B<lo
 lo2:lo<=wc.heap.size
 far:w.heap.size<=B
section
variable {w wc w9:World}{B lo:Nat}{A:Nat->Prop}{r:Int}{v:Value}{L:List (TT 6)}
theorem TRq.below {w:World}{Q:Nat->Prop}{v:Value}{L:List (TT 6)}(h:TRq w O Q v L) (k:Below w.heap.size w w'):TRq w' O Q v L:=h.keep (fun g a _=>k.block g a) (fun _ b=>h.own b) (fun _ h _=>h)
theorem TuS.below (h:TuS w wc B lo A r v L) (k:Below wc.heap.size wc w9):TuS w w9 B lo A r v L :=
 ⟨h.bel.trans (k.mono h.bel.size),h.box.below k,h.row.below k,h.lo1,Zt h.lo2 k.size,h.far⟩
theorem TuS.push {t:TT 6}(h:TuS w wc B lo A r (.slice a L.length c) L) (j:wc.ownsRow 0 92 3 (.slice a L.length c) L.length xs) (T:(Lay.tt 6).In wc (fun g=>¬ (A g\/w.heap.size<=g)) t [.int .i64 t.kind,.int .i64 t.r,.slice p t.len d])
 (h1:w9.ownsRow 0 92 3 (.slice (some ⟨g,0,none⟩) (L.length+1) cap) (L.length+1) (xs++[.int .i64 t.kind,.int .i64 t.r,.slice p t.len d])) (n:wc.grownBy w9 (Value.slice a L.length c).ownBlock) (z:(Value.slice a L.length c).ownBlock=some g\/g=wc.heap.size) :
 w9.cell? ⟨B,2,none⟩=some (.slice a L.length c)/\w9.frozen? ⟨B,2,none⟩=false/\TuS w (w9.setCell ⟨B,2,none⟩ (.slice (some ⟨g,0,none⟩) (L.length+1) cap)) B lo A r (.slice (some ⟨g,0,none⟩) (L.length+1) cap) (L++[t]):=by
 have aa:=n.size;have u:=h.lo1;have N:=h.lo2;have D:=h.box.lt;have W:=h.bel.size;have b:∀ k,(Value.slice a L.length c).ownBlock=some k->lo<=k:=fun k f=>h.row.own f;have H:Blk w9 B #[.int .i64 3,.int .i64 r,.slice a L.length c] 92:=(n.block B D (fun e=>by have:=b B e.symm;omega)).trans h.box
 have q:lo<=g:=by
  rcases z with z | z
  ·exact b g z
  ·omega
 have E:g≠B:=by omega
 have F:=h.far
 have o:∀ k,k<w.heap.size->(w9.setCell ⟨B,2,none⟩ (.slice (some ⟨g,0,none⟩) (L.length+1) cap)).heap[k]?=wc.heap[k]?:=fun k f=>by
  rw[Xd _ _ _ _ (show k≠B by omega),n.block k (by omega) (fun e=>by have:=b k e.symm;omega)]
 refine⟨Qa H 2 _ Z,Qf H 2,⟨⟨n.os.trans h.bel.os,n.tape.trans h.bel.tape,n.output.trans h.bel.output,by simp;omega,fun k f=>(o k f).trans (h.bel.block k f)⟩,?_,?_,u,by simp;omega,F⟩⟩
 ·have:=Qo H 2 (.slice (some ⟨g,0,none⟩) (L.length+1) cap)
  simpa using this
 ·obtain⟨m,J,q2,q3⟩:=h.row
  have e:m=xs:=by
   obtain⟨V,S⟩:=J
   obtain⟨f1,f2⟩:=j
   rcases S with ⟨y,I⟩|⟨g1,Q,R,y,I,U,e6,e7,e8,X⟩
   ·have:L.length=0:=I
    rw[Xf.1 (show m.length=0 by rw[V,this]),Xf.1 (show xs.length=0 by rw[f1,this])]
   ·rcases f2 with ⟨v,f4⟩|⟨g2,K,M,v,f4,O,f6,f7,f8,f9⟩
    ·rw[v] at y;cases y
    ·rw[y] at v
     cases v
     rw[U] at O
     cases O
     rw[<-X,<-f9]
  subst e;refine⟨m++[.int .i64 t.kind,.int .i64 t.r,.slice p t.len d],?_,fun k f=>?_,?_⟩
  ·rw[List.length_append]
   exact QhD h1 (Xd _ _ _ _ E)
  ·simp[Value.ownBlock] at f
   subst f;exact q
  ·have l:∀ {x:TT 6} {C:List Value},(Lay.tt 6).In wc (fun g=>¬ (A g\/w.heap.size<=g)) x C->(Lay.tt 6).In (w9.setCell ⟨B,2,none⟩ (.slice (some ⟨g,0,none⟩) (L.length+1) cap)) (fun g=>¬ (A g\/w.heap.size<=g)) x C:=fun j=>(Lay.tt 6).keep (fun k f _=>o k (Nat.lt_of_not_le (fun e=>f (.inr e)))) (fun _ h _=>h) j;refine QeR (s:=3) (P:=fun x C=>(Lay.tt 6).In _ _ x C) J.1 (fun i x j=>l (q3 i x j)) (fun i x j=>?_);have hi:i<1:=by simpa using (Zi j).1
   have G:i=0:=by omega
   subst G;simp at j
   subst j;exact l T
end
end Go.Proofs.YtofjjohefamljafGreat
