import Derived.Test.YtlnkdhnibcenbaeGreatP4
set_option maxHeartbeats 16000000
set_option maxRecDepth 100000
namespace Go.Proofs.YtlnkdhnibcenbaeGreat
open Go.ChangeShapes Go.WideShapes Go.ChangeAt Go.RowKit _root_.Go.Proofs.Tryz
set_option linter.unusedSimpArgs false
set_option linter.unusedVariables false
variable {w w' w2 wc wr w6:World}{b n c rc ac B X m j k g i N rl al lo d cm f q cap s fm fi id fl R cR G fc fd bl o cL cA n1 lm funcs fe d1:Nat}{O Q A O':Nat→Prop}{p ag a ra aa pm pR pA na fp fq p1:Option Addr}{t e bt:TypeId}{l regs:List Int}{v v0:Value}{P:Program}{xc xa xb xk xn fr x:Int}{L:List Bool}{xs cs ds:List Value}{x0:Operand}
theorem Qeb (x:MTo) (pR pA:Option Addr) (cR cA:Nat) (w:World) (h:QcO w All x pR cR pA cA) (b1:x.regs.length<=4294967296) (b2:x.args.length<=4294967296) :
 Calls prog 150 #[.agg #[.int .i64 x.block,.slice pR x.regs.length cR,.slice pA x.args.length cA]] w fun e w'=>∃ p c p2 c2,e=.returned (.agg #[.int .i64 x.block,.slice p x.regs.length c,.slice p2 x.args.length c2])/\QcO w' (ZJ w.heap.size) x p c p2 c2/\Below w.heap.size w w':=by
 have T:Hid _:=h.regs;have hg:Hid _:=h.args;have W:=h.bnd;clear h;refine Qv (n:=12) func150 Z Z Z <| fun a hF=>?_
 have g:=Ye w;replace hF:Fr 12 a [(0,.agg #[.int .i64 x.block,.slice pR x.regs.length cR,.slice pA x.args.length cA])]:=hF;refine XW fun K1 af=>rg hF fun S=>sB g Y Z Z <| fun w2 l ae hN=>Qlv ae Y Z <| fun B Q o hN=>Yb fun a4 D=>af _ _ <| XW fun K5 aa=>?_
 have R:Fr 12 a4 [(0,.agg #[.int .i64 x.block,.slice pR x.regs.length cR,.slice pA x.args.length cA]),(1,.pointer (some ⟨l,0,none⟩)),(2,.pointer (some ⟨Q,0,none⟩))]:=(D.keep (D.keep (D.keep D.nil (t:=2) Z) (t:=1) Z) (t:=0) Z);have ab:a4.tmps.getD 1 undef=.pointer (some ⟨l,0,none⟩):=D.sl 1 _ Z;refine ZN 7 ([(1,fun v _=>v=.pointer (some ⟨l,0,none⟩)),(3,fun v _=>v=.pointer (some ⟨l,1,none⟩)),(4,fun v _=>v=.slice pR x.regs.length cR),(5,fun v w'=>∃ p c,v=.slice p x.regs.length c/\intsL.In w' (ZJ B.heap.size) x.regs [.slice p x.regs.length c]),(6,fun v _=>v=.pointer (some ⟨l,2,none⟩)),(7,fun v _=>v=.slice pA x.args.length cA),(8,fun v w'=>∃ p c,v=.slice p x.args.length c/\intsL.In w' (ZJ B.heap.size) x.args [.slice p x.args.length c]),(9,fun v _=>v=.pointer (some ⟨l,1,none⟩))]:Qb9) (fun w'=>Wd w w' [(Q,#[.int .i64 0,.slice none 0 0,.slice none 0 0],56),(l,#[.int .i64 x.block,.slice pR x.regs.length cR,.slice pA x.args.length cA],56)]/\Below B.heap.size B w') (fun w w'=>Below w.heap.size w w') (outs:=[1]) (gs:=[]) (bs:=[true,true,true,true,true,true,true]) (by kernel_rfl) R Z (by kernel_rfl) (by kernel_rfl) ?hR ?hG ⟨o.drewN 1,QQ (m:=1) Zr⟩ ⟨ab,Y⟩ ?hA ?hend
 case hR=>exact⟨fun _ _ _ _ h=>h,fun _ _ _ _ h=>h,fun _ _ _ _ h=>h,fun v w w' T h=>by obtain⟨p,c,h1,h2⟩:=h;exact⟨p,c,h1,Ya h2 T⟩,fun _ _ _ _ h=>h,fun _ _ _ _ h=>h,fun v w w' T h=>by obtain⟨p,c,h1,h2⟩:=h;exact⟨p,c,h1,Ya h2 T⟩,fun _ _ _ _ h=>h,Y⟩
 case hG=>exact Y
 case hA =>
  iterate 2
   refine⟨fun a w g i K s=>?_,?_⟩
   ·obtain⟨r,-⟩:=i
    conv at r=>whnf;rhs;whnf
    have u0:w.cell? ⟨l,1,none⟩=some (.slice pR x.regs.length cR):=Qb (g.1.get 1 Z) 1 _ Z;go_simp;exact s _ _ Zr g Z
  refine⟨fun a w g i K s=>?_,?_⟩
  ·obtain⟨r,-⟩:=i
   conv at r=>whnf;rhs;whnf
   go_simp;refine(Qaj _ _ _ w (Ya T.out g.1.bel) b1).mono ?_
   rintro e w9 ⟨p9,c9,rfl,h9,C⟩;exact s _ _ C ⟨g.1.below C,Xl g.2 C⟩ ⟨p9,c9,Z,Yc h9 (fun k i _=>Zt g.2.size i)⟩
  iterate 2
   refine⟨fun a w g i K s=>?_,?_⟩
   ·obtain⟨r,-⟩:=i
    conv at r=>whnf;rhs;whnf
    have u0:w.cell? ⟨l,2,none⟩=some (.slice pA x.args.length cA):=Qb (g.1.get 1 Z) 2 _ Z;go_simp;exact s _ _ Zr g Z
  refine⟨fun a w g i K s=>?_,?_⟩
  ·obtain⟨r,-⟩:=i
   conv at r=>whnf;rhs;whnf
   go_simp;refine(Qaj _ _ _ w (Ya hg.out g.1.bel) b2).mono ?_
   rintro e w9 ⟨p9,c9,rfl,h9,C⟩;exact s _ _ C ⟨g.1.below C,Xl g.2 C⟩ ⟨p9,c9,Z,Yc h9 (fun k i _=>Zt g.2.size i)⟩
  refine⟨fun a w g i K s=>?_,?_⟩
  ·obtain⟨r,-⟩:=i
   conv at r=>whnf;rhs;whnf
   go_simp;exact s _ _ Zr g Z
  trivial
 case hend =>
  intro S V w7 O U N;obtain⟨F,J,q,d⟩:=U 5 Z
  replace q:V.tmps.getD 5 undef=.slice F x.regs.length J:=q;obtain⟨M,E,u,f⟩:=U 8 Z
  replace u:V.tmps.getD 8 undef=.slice M x.args.length E:=u;have P:V.tmps.getD 9 undef=.pointer (some ⟨l,1,none⟩):=U 9 Z;have ad:Fr 12 V [(9,.pointer (some ⟨l,1,none⟩)),(8,.slice M x.args.length E),(5,.slice F x.regs.length J),(0,.agg #[.int .i64 x.block,.slice pR x.regs.length cR,.slice pA x.args.length cA]),(1,.pointer (some ⟨l,0,none⟩)),(2,.pointer (some ⟨Q,0,none⟩))]:=(((N.cons q).cons u).cons P);clear q u P;have I:Wd w w7 [(Q,#[.int .i64 0,.slice none 0 0,.slice none 0 0],56),(l,#[.int .i64 x.block,.slice pR x.regs.length cR,.slice pA x.args.length cA],56)]:=O.1;have z:Q<B.heap.size:=(o.get 0 Z).lt;have j:l<B.heap.size:=(o.get 1 Z).lt;have H:w.heap.size<=B.heap.size:=o.bel.size;clear N O U R D;clear o;refine St.go ad <| s1k 1 inf1Ints I Z Z Z Z Z Z <| fun w8 b L=>?_
  replace d:=Yd d b j;replace f:=Yd f b j;clear b I;refine sfTo2 Y Z Z <| s1k 1 inf1Ints L Z Z Z Z Z Z <| fun w9 b A=>?_
  replace d:=Yd d b j;replace f:=Yd f b j;clear b L;refine Yb fun ah X=>aa _ _ <| XW fun aj G=>rg X fun S=>sS 1 3 underlying56 Z infTo A Y Z Z Z Z <| sTk 0 A Z Z infTo Z Z Z <| fun ag b y=>?_
  replace d:=Yd d b z;replace f:=Yd f b z;clear b A;refine Yb fun ai ac=>G _ _ ?_;refine XA ?_;with_reducible repeat first | refine Qd ?_ | refine Qc ?_
  exact QW 0 ac y Z Z Z underlying56 Z infTo ⟨_,_,_,_,Z,⟨Yc d (fun k i _=>Zt H i),Yc f (fun k i _=>Zt H i),W⟩,y.bel⟩
theorem QfM (x:QC) (i:IP) (w:World) (h:IIn w All x i) (b1:x.regs.length<=4294967296) (b2:x.args.length<=4294967296) :
 Calls prog 137 #[.agg #[.int .i64 x.op,.int .i64 x.a,.int .i64 x.b,.int .i64 x.c,.int .i64 x.k,.int .i64 x.n,.slice i.pR x.regs.length i.cR,.slice i.pA x.args.length i.cA]] w fun e w'=>∃ i':IP,e=.returned (.agg #[.int .i64 x.op,.int .i64 x.a,.int .i64 x.b,.int .i64 x.c,.int .i64 x.k,.int .i64 x.n,.slice i'.pR x.regs.length i'.cR,.slice i'.pA x.args.length i'.cA])/\IIn w' (ZJ w.heap.size) x i'/\Below w.heap.size w w':=by
 have V:Hid _:=h.regs;have hg:Hid _:=h.args;have aa:=h.bnd;clear h;refine Qv (n:=12) func137 Z Z Z <| fun a hF=>?_
 have j:=Ye w;replace hF:Fr 12 a [(0,.agg #[.int .i64 x.op,.int .i64 x.a,.int .i64 x.b,.int .i64 x.c,.int .i64 x.k,.int .i64 x.n,.slice i.pR x.regs.length i.cR,.slice i.pA x.args.length i.cA])]:=hF;refine XW fun K1 ah=>rg hF fun U=>sB j Y Z Z <| fun w2 q ag hN=>QjB ag Y Z <| fun H S r hN=>Yb fun a4 J=>ah _ _ <| XW fun K5 ac=>?_
 have T:Fr 12 a4 [(0,.agg #[.int .i64 x.op,.int .i64 x.a,.int .i64 x.b,.int .i64 x.c,.int .i64 x.k,.int .i64 x.n,.slice i.pR x.regs.length i.cR,.slice i.pA x.args.length i.cA]),(1,.pointer (some ⟨q,0,none⟩)),(2,.pointer (some ⟨S,0,none⟩))]:=(J.keep (J.keep (J.keep J.nil (t:=2) Z) (t:=1) Z) (t:=0) Z);have ad:a4.tmps.getD 1 undef=.pointer (some ⟨q,0,none⟩):=J.sl 1 _ Z;refine ZN 7 ([(1,fun v _=>v=.pointer (some ⟨q,0,none⟩)),(3,fun v _=>v=.pointer (some ⟨q,6,none⟩)),(4,fun v _=>v=.slice i.pR x.regs.length i.cR),(5,fun v w'=>∃ p c,v=.slice p x.regs.length c/\intsL.In w' (ZJ H.heap.size) x.regs [.slice p x.regs.length c]),(6,fun v _=>v=.pointer (some ⟨q,7,none⟩)),(7,fun v _=>v=.slice i.pA x.args.length i.cA),(8,fun v w'=>∃ p c,v=.slice p x.args.length c/\intsL.In w' (ZJ H.heap.size) x.args [.slice p x.args.length c]),(9,fun v _=>v=.pointer (some ⟨q,6,none⟩))]:Qb9) (fun w'=>Wd w w' [(S,#[.int .i64 0,.int .i64 0,.int .i64 0,.int .i64 0,.int .i64 0,.int .i64 0,.slice none 0 0,.slice none 0 0],46),(q,#[.int .i64 x.op,.int .i64 x.a,.int .i64 x.b,.int .i64 x.c,.int .i64 x.k,.int .i64 x.n,.slice i.pR x.regs.length i.cR,.slice i.pA x.args.length i.cA],46)]/\Below H.heap.size H w') (fun w w'=>Below w.heap.size w w') (outs:=[1]) (gs:=[]) (bs:=[true,true,true,true,true,true,true]) (by kernel_rfl) T Z (by kernel_rfl) (by kernel_rfl) ?hR ?hG ⟨r.drewN 1,QQ (m:=1) Zr⟩ ⟨ad,Y⟩ ?hA ?hend
 case hR=>exact⟨fun _ _ _ _ h=>h,fun _ _ _ _ h=>h,fun _ _ _ _ h=>h,fun v w w' V h=>by obtain⟨p,c,h1,h2⟩:=h;exact⟨p,c,h1,Ya h2 V⟩,fun _ _ _ _ h=>h,fun _ _ _ _ h=>h,fun v w w' V h=>by obtain⟨p,c,h1,h2⟩:=h;exact⟨p,c,h1,Ya h2 V⟩,fun _ _ _ _ h=>h,Y⟩
 case hG=>exact Y
 case hA =>
  iterate 2
   refine⟨fun a w j l K y=>?_,?_⟩
   ·obtain⟨u,-⟩:=l
    conv at u=>whnf;rhs;whnf
    have u0:w.cell? ⟨q,6,none⟩=some (.slice i.pR x.regs.length i.cR):=Qb (j.1.get 1 Z) 6 _ Z;go_simp;exact y _ _ Zr j Z
  refine⟨fun a w j l K y=>?_,?_⟩
  ·obtain⟨u,-⟩:=l
   conv at u=>whnf;rhs;whnf
   go_simp;refine(Qaj _ _ _ w (Ya V.out j.1.bel) b1).mono ?_
   rintro e w9 ⟨p9,c9,rfl,h9,I⟩;exact y _ _ I ⟨j.1.below I,Xl j.2 I⟩ ⟨p9,c9,Z,Yc h9 (fun k l _=>Zt j.2.size l)⟩
  iterate 2
   refine⟨fun a w j l K y=>?_,?_⟩
   ·obtain⟨u,-⟩:=l
    conv at u=>whnf;rhs;whnf
    have u0:w.cell? ⟨q,7,none⟩=some (.slice i.pA x.args.length i.cA):=Qb (j.1.get 1 Z) 7 _ Z;go_simp;exact y _ _ Zr j Z
  refine⟨fun a w j l K y=>?_,?_⟩
  ·obtain⟨u,-⟩:=l
   conv at u=>whnf;rhs;whnf
   go_simp;refine(Qaj _ _ _ w (Ya hg.out j.1.bel) b2).mono ?_
   rintro e w9 ⟨p9,c9,rfl,h9,I⟩;exact y _ _ I ⟨j.1.below I,Xl j.2 I⟩ ⟨p9,c9,Z,Yc h9 (fun k l _=>Zt j.2.size l)⟩
  refine⟨fun a w j l K y=>?_,?_⟩
  ·obtain⟨u,-⟩:=l
   conv at u=>whnf;rhs;whnf
   go_simp;exact y _ _ Zr j Z
  trivial
 case hend =>
  intro U X w7 Q W P;obtain⟨D,F,s,f⟩:=W 5 Z
  replace s:X.tmps.getD 5 undef=.slice D x.regs.length F:=s;obtain⟨G,C,z,g⟩:=W 8 Z
  replace z:X.tmps.getD 8 undef=.slice G x.args.length C:=z;have R:X.tmps.getD 9 undef=.pointer (some ⟨q,6,none⟩):=W 9 Z;have af:Fr 12 X [(9,.pointer (some ⟨q,6,none⟩)),(8,.slice G x.args.length C),(5,.slice D x.regs.length F),(0,.agg #[.int .i64 x.op,.int .i64 x.a,.int .i64 x.b,.int .i64 x.c,.int .i64 x.k,.int .i64 x.n,.slice i.pR x.regs.length i.cR,.slice i.pA x.args.length i.cA]),(1,.pointer (some ⟨q,0,none⟩)),(2,.pointer (some ⟨S,0,none⟩))]:=(((P.cons s).cons z).cons R);clear s z R;have N:Wd w w7 [(S,#[.int .i64 0,.int .i64 0,.int .i64 0,.int .i64 0,.int .i64 0,.int .i64 0,.slice none 0 0,.slice none 0 0],46),(q,#[.int .i64 x.op,.int .i64 x.a,.int .i64 x.b,.int .i64 x.c,.int .i64 x.k,.int .i64 x.n,.slice i.pR x.regs.length i.cR,.slice i.pA x.args.length i.cA],46)]:=Q.1;have B:S<H.heap.size:=(r.get 0 Z).lt;have o:q<H.heap.size:=(r.get 1 Z).lt;have M:w.heap.size<=H.heap.size:=r.bel.size;clear P Q W T J;clear r;refine St.go af <| s1k 1 inf1Ints N Z Z Z Z Z Z <| fun w8 d O=>?_
  replace f:=Yd f d o;replace g:=Yd g d o;clear d N;refine sfIns7 Y Z Z <| s1k 1 inf1Ints O Z Z Z Z Z Z <| fun w9 d E=>?_
  replace f:=Yd f d o;replace g:=Yd g d o;clear d O;refine Yb fun aj ab=>ac _ _ <| XW fun al L=>rg ab fun U=>sS 1 8 underlying46 Z infIns E Y Z Z Z Z <| sTk 0 E Z Z infIns Z Z Z <| fun ai d A=>?_
  replace f:=Yd f d B;replace g:=Yd g d B;clear d E;refine Yb fun ak ae=>L _ _ ?_;refine XA ?_;with_reducible repeat first | refine Qd ?_ | refine Qc ?_
  exact QW 0 ae A Z Z Z underlying46 Z infIns ⟨⟨D,F,G,C⟩,Z,⟨Yc f (fun k l _=>Zt M l),Yc g (fun k l _=>Zt M l),aa⟩,A.bel⟩
theorem Qf6 (x:MEnd) (i:EP) (w:World) (h:EIn w All x i) (b1:x.yes.regs.length<=4294967296) (b2:x.yes.args.length<=4294967296) (b3:x.no.regs.length<=4294967296) (b4:x.no.args.length<=4294967296) (b5:x.args.length<=4294967296) :
 Calls prog 138 #[.agg #[.int .i64 x.op,.int .i64 x.a,.int .i64 x.yes.block,.slice i.pYR x.yes.regs.length i.cYR,.slice i.pYA x.yes.args.length i.cYA,.int .i64 x.no.block,.slice i.pNR x.no.regs.length i.cNR,.slice i.pNA x.no.args.length i.cNA,.slice i.pA x.args.length i.cA]] w fun e w'=>∃ i':EP,e=.returned (.agg #[.int .i64 x.op,.int .i64 x.a,.int .i64 x.yes.block,.slice i'.pYR x.yes.regs.length i'.cYR,.slice i'.pYA x.yes.args.length i'.cYA,.int .i64 x.no.block,.slice i'.pNR x.no.regs.length i'.cNR,.slice i'.pNA x.no.args.length i'.cNA,.slice i'.pA x.args.length i'.cA])/\EIn w' (ZJ w.heap.size) x i'/\Below w.heap.size w w':=by
 have hy:Hid _:=h.yes;have hn:Hid _:=h.no;have hg:Hid _:=h.args;have ap:=h.bnd;clear h;refine Qv (n:=16) func138 Z Z Z <| fun a hF=>?_
 have g:=Ye w;replace hF:Fr 16 a [(0,.agg #[.int .i64 x.op,.int .i64 x.a,.int .i64 x.yes.block,.slice i.pYR x.yes.regs.length i.cYR,.slice i.pYA x.yes.args.length i.cYA,.int .i64 x.no.block,.slice i.pNR x.no.regs.length i.cNR,.slice i.pNA x.no.args.length i.cNA,.slice i.pA x.args.length i.cA])]:=hF;refine XW fun K1 au=>rg hF fun ag=>sB g Y Z Z <| fun w2 s am hN=>Qlk am Y Z <| fun W B3 O hN=>Yb fun a4 h4=>au _ _ <| XW fun K5 aq=>?_
 have ad:Fr 16 a4 [(0,.agg #[.int .i64 x.op,.int .i64 x.a,.int .i64 x.yes.block,.slice i.pYR x.yes.regs.length i.cYR,.slice i.pYA x.yes.args.length i.cYA,.int .i64 x.no.block,.slice i.pNR x.no.regs.length i.cNR,.slice i.pNA x.no.args.length i.cNA,.slice i.pA x.args.length i.cA]),(1,.pointer (some ⟨s,0,none⟩)),(2,.pointer (some ⟨B3,0,none⟩))]:=(h4.keep (h4.keep (h4.keep h4.nil (t:=2) Z) (t:=1) Z) (t:=0) Z);have aj:a4.tmps.getD 1 undef=.pointer (some ⟨s,0,none⟩):=h4.sl 1 _ Z;refine ZN 10 ([(1,fun v _=>v=.pointer (some ⟨s,0,none⟩)),(3,fun v _=>v=.pointer (some ⟨s,2,none⟩)),(4,fun v _=>v=.agg #[.int .i64 x.yes.block,.slice i.pYR x.yes.regs.length i.cYR,.slice i.pYA x.yes.args.length i.cYA]),(5,fun v w'=>∃ p c R S,v=.agg #[.int .i64 x.yes.block,.slice p x.yes.regs.length c,.slice R x.yes.args.length S]/\QcO w' (ZJ W.heap.size) x.yes p c R S),(6,fun v _=>v=.pointer (some ⟨s,5,none⟩)),(7,fun v _=>v=.agg #[.int .i64 x.no.block,.slice i.pNR x.no.regs.length i.cNR,.slice i.pNA x.no.args.length i.cNA]),(8,fun v w'=>∃ p c R S,v=.agg #[.int .i64 x.no.block,.slice p x.no.regs.length c,.slice R x.no.args.length S]/\QcO w' (ZJ W.heap.size) x.no p c R S),(9,fun v _=>v=.pointer (some ⟨s,8,none⟩)),(10,fun v _=>v=.slice i.pA x.args.length i.cA),(11,fun v w'=>∃ p c,v=.slice p x.args.length c/\intsL.In w' (ZJ W.heap.size) x.args [.slice p x.args.length c]),(12,fun v _=>v=.pointer (some ⟨s,2,none⟩))]:Qb9) (fun w'=>Wd w w' [(B3,#[.int .i64 0,.int .i64 0,.int .i64 0,.slice none 0 0,.slice none 0 0,.int .i64 0,.slice none 0 0,.slice none 0 0,.slice none 0 0],58),(s,#[.int .i64 x.op,.int .i64 x.a,.int .i64 x.yes.block,.slice i.pYR x.yes.regs.length i.cYR,.slice i.pYA x.yes.args.length i.cYA,.int .i64 x.no.block,.slice i.pNR x.no.regs.length i.cNR,.slice i.pNA x.no.args.length i.cNA,.slice i.pA x.args.length i.cA],58)]/\Below W.heap.size W w') (fun w w'=>Below w.heap.size w w') (outs:=[1]) (gs:=[]) (bs:=[true,true,true,true,true,true,true,true,true,true]) (by kernel_rfl) ad Z (by kernel_rfl) (by kernel_rfl) ?hR ?hG ⟨O.drewN 1,QQ (m:=1) Zr⟩ ⟨aj,Y⟩ ?hA ?hend
 case hR=>exact⟨fun _ _ _ _ h=>h,fun _ _ _ _ h=>h,fun _ _ _ _ h=>h,fun v w w' hr h=>by obtain⟨p,c,R,S,h1,V⟩:=h;exact⟨p,c,R,S,h1,⟨Ya V.regs hr,Ya V.args hr,V.bnd⟩⟩,fun _ _ _ _ h=>h,fun _ _ _ _ h=>h,fun v w w' hr h=>by obtain⟨p,c,R,S,h1,V⟩:=h;exact⟨p,c,R,S,h1,⟨Ya V.regs hr,Ya V.args hr,V.bnd⟩⟩,fun _ _ _ _ h=>h,fun _ _ _ _ h=>h,fun v w w' hr h=>by obtain⟨p,c,h1,V⟩:=h;exact⟨p,c,h1,Ya V hr⟩,fun _ _ _ _ h=>h,Y⟩
 case hG=>exact Y
 case hA =>
  iterate 2
   refine⟨fun a w g j K z=>?_,?_⟩
   ·obtain⟨A,-⟩:=j
    conv at A=>whnf;rhs;whnf
    have u0:w.cell? ⟨s,2,none⟩=some (.int .i64 x.yes.block):=Qb (g.1.get 1 Z) 2 _ Z;have u1:w.cell? ⟨s,3,none⟩=some (.slice i.pYR x.yes.regs.length i.cYR):=Qb (g.1.get 1 Z) 3 _ Z;have u2:w.cell? ⟨s,4,none⟩=some (.slice i.pYA x.yes.args.length i.cYA):=Qb (g.1.get 1 Z) 4 _ Z;go_simp;exact z _ _ Zr g Z
  refine⟨fun a w g j K z=>?_,?_⟩
  ·obtain⟨A,-⟩:=j
   conv at A=>whnf;rhs;whnf
   go_simp;refine(Qeb _ _ _ _ _ w ⟨Ya hy.out.regs g.1.bel,Ya hy.out.args g.1.bel,hy.out.bnd⟩ b1 b2).mono ?_
   rintro e w9 ⟨p9,c9,p8,c8,rfl,Q,N⟩;exact z _ _ N ⟨g.1.below N,Xl g.2 N⟩ ⟨p9,c9,p8,c8,Z,⟨Yc Q.regs (fun k j _=>Zt g.2.size j),Yc Q.args (fun k j _=>Zt g.2.size j),Q.bnd⟩⟩
  iterate 2
   refine⟨fun a w g j K z=>?_,?_⟩
   ·obtain⟨A,-⟩:=j
    conv at A=>whnf;rhs;whnf
    have u0:w.cell? ⟨s,5,none⟩=some (.int .i64 x.no.block):=Qb (g.1.get 1 Z) 5 _ Z;have u1:w.cell? ⟨s,6,none⟩=some (.slice i.pNR x.no.regs.length i.cNR):=Qb (g.1.get 1 Z) 6 _ Z;have u2:w.cell? ⟨s,7,none⟩=some (.slice i.pNA x.no.args.length i.cNA):=Qb (g.1.get 1 Z) 7 _ Z;go_simp;exact z _ _ Zr g Z
  refine⟨fun a w g j K z=>?_,?_⟩
  ·obtain⟨A,-⟩:=j
   conv at A=>whnf;rhs;whnf
   go_simp;refine(Qeb _ _ _ _ _ w ⟨Ya hn.out.regs g.1.bel,Ya hn.out.args g.1.bel,hn.out.bnd⟩ b3 b4).mono ?_
   rintro e w9 ⟨p9,c9,p8,c8,rfl,Q,N⟩;exact z _ _ N ⟨g.1.below N,Xl g.2 N⟩ ⟨p9,c9,p8,c8,Z,⟨Yc Q.regs (fun k j _=>Zt g.2.size j),Yc Q.args (fun k j _=>Zt g.2.size j),Q.bnd⟩⟩
  iterate 2
   refine⟨fun a w g j K z=>?_,?_⟩
   ·obtain⟨A,-⟩:=j
    conv at A=>whnf;rhs;whnf
    have u0:w.cell? ⟨s,8,none⟩=some (.slice i.pA x.args.length i.cA):=Qb (g.1.get 1 Z) 8 _ Z;go_simp;exact z _ _ Zr g Z
  refine⟨fun a w g j K z=>?_,?_⟩
  ·obtain⟨A,-⟩:=j
   conv at A=>whnf;rhs;whnf
   go_simp;refine(Qaj _ _ _ w (Ya hg.out g.1.bel) b5).mono ?_
   rintro e w9 ⟨p9,c9,rfl,Q,N⟩;exact z _ _ N ⟨g.1.below N,Xl g.2 N⟩ ⟨p9,c9,Z,Yc Q (fun k j _=>Zt g.2.size j)⟩
  refine⟨fun a w g j K z=>?_,?_⟩
  ·obtain⟨A,-⟩:=j
   conv at A=>whnf;rhs;whnf
   go_simp;exact z _ _ Zr g Z
  trivial
 case hend =>
  intro ag a7 w7 ac hE ab;obtain⟨G,L,I,B,U,⟨q,o,ar⟩⟩:=hE 5 Z
  replace U:a7.tmps.getD 5 undef=.agg #[.int .i64 x.yes.block,.slice G x.yes.regs.length L,.slice I x.yes.args.length B]:=U;obtain⟨E,M,P,D,T,⟨l,r,ao⟩⟩:=hE 8 Z
  replace T:a7.tmps.getD 8 undef=.agg #[.int .i64 x.no.block,.slice E x.no.regs.length M,.slice P x.no.args.length D]:=T;obtain⟨F,J,y,f⟩:=hE 11 Z
  replace y:a7.tmps.getD 11 undef=.slice F x.args.length J:=y;have aa:a7.tmps.getD 12 undef=.pointer (some ⟨s,2,none⟩):=hE 12 Z;have al:Fr 16 a7 [(12,.pointer (some ⟨s,2,none⟩)),(11,.slice F x.args.length J),(8,.agg #[.int .i64 x.no.block,.slice E x.no.regs.length M,.slice P x.no.args.length D]),(5,.agg #[.int .i64 x.yes.block,.slice G x.yes.regs.length L,.slice I x.yes.args.length B]),(0,.agg #[.int .i64 x.op,.int .i64 x.a,.int .i64 x.yes.block,.slice i.pYR x.yes.regs.length i.cYR,.slice i.pYA x.yes.args.length i.cYA,.int .i64 x.no.block,.slice i.pNR x.no.regs.length i.cNR,.slice i.pNA x.no.args.length i.cNA,.slice i.pA x.args.length i.cA]),(1,.pointer (some ⟨s,0,none⟩)),(2,.pointer (some ⟨B3,0,none⟩))]:=((((ab.cons U).cons T).cons y).cons aa);clear U T y aa;have ae:Wd w w7 [(B3,#[.int .i64 0,.int .i64 0,.int .i64 0,.slice none 0 0,.slice none 0 0,.int .i64 0,.slice none 0 0,.slice none 0 0,.slice none 0 0],58),(s,#[.int .i64 x.op,.int .i64 x.a,.int .i64 x.yes.block,.slice i.pYR x.yes.regs.length i.cYR,.slice i.pYA x.yes.args.length i.cYA,.int .i64 x.no.block,.slice i.pNR x.no.regs.length i.cNR,.slice i.pNA x.no.args.length i.cNA,.slice i.pA x.args.length i.cA],58)]:=ac.1;have u:B3<W.heap.size:=(O.get 0 Z).lt;have d:s<W.heap.size:=(O.get 1 Z).lt;have C:w.heap.size<=W.heap.size:=O.bel.size;clear ab ac hE ad h4;clear O;refine St.go al <| sTk 1 ae Z Z infTo Z Z Z <| fun w8 b af=>?_
  replace f:=Yd f b d;replace q:=Yd q b d;replace o:=Yd o b d;replace l:=Yd l b d;replace r:=Yd r b d;clear b ae;refine sfEnd3 Y Z Z <| sTk 1 af Z Z infTo Z Z Z <| fun w9 b ai=>?_
  replace f:=Yd f b d;replace q:=Yd q b d;replace o:=Yd o b d;replace l:=Yd l b d;replace r:=Yd r b d;clear b af;refine sfEnd4 Y Z Z <| s1k 1 inf1Ints ai Z Z Z Z Z Z <| fun aw b H=>?_
  replace f:=Yd f b d;replace q:=Yd q b d;replace o:=Yd o b d;replace l:=Yd l b d;replace r:=Yd r b d;clear b ai;refine Yb fun av ak=>aq _ _ <| XW fun ay ah=>rg ak fun ag=>sS 1 9 underlying58 Z infEnd H Y Z Z Z Z <| sTk 0 H Z Z infEnd Z Z Z <| fun az b X=>?_
  replace f:=Yd f b u;replace q:=Yd q b u;replace o:=Yd o b u;replace l:=Yd l b u;replace r:=Yd r b u;clear b H;refine Yb fun ax an=>ah _ _ ?_;refine XA ?_;with_reducible repeat first | refine Qd ?_ | refine Qc ?_
  exact QW 0 an X Z Z Z underlying58 Z infEnd ⟨⟨G,L,I,B,E,M,P,D,F,J⟩,Z,⟨⟨Yc q (fun k j _=>Zt C j),Yc o (fun k j _=>Zt C j),hy.out.bnd⟩,⟨Yc l (fun k j _=>Zt C j),Yc r (fun k j _=>Zt C j),hn.out.bnd⟩,Yc f (fun k j _=>Zt C j),ap⟩,X.bel⟩
theorem Qd5 (x:MTo) (pR pA:Option Addr) (cR cA:Nat) (w:World) (h:QcO w All x pR cR pA cA) (b1:x.regs.length<=4294967296) (b2:x.args.length<=4294967296) :
 Calls prog 39 #[.agg #[.int .i64 x.block,.slice pR x.regs.length cR,.slice pA x.args.length cA]] w fun e w'=>∃ p c p2 c2,e=.returned (.agg #[.int .i64 x.block,.slice p x.regs.length c,.slice p2 x.args.length c2])/\QcO w' (ZJ w.heap.size) x p c p2 c2/\Below w.heap.size w w':=by
 have r:Hid _:=h.regs;have hg:Hid _:=h.args;have D:=h.bnd;clear h;refine Qv (n:=12) func39 Z Z Z <| fun a V=>?_
 have b:=Ye w;replace V:Fr 12 a [(0,.agg #[.int .i64 x.block,.slice pR x.regs.length cR,.slice pA x.args.length cA])]:=V;refine XW fun K1 ad=>rg V fun ac=>sB b Y Z Z <| fun w2 g ab hN=>Qlv ab Y Z <| fun q L i hN=>Yb fun a4 C=>ad _ _ <| XW fun K5 T=>?_
 have O:Fr 12 a4 [(0,.agg #[.int .i64 x.block,.slice pR x.regs.length cR,.slice pA x.args.length cA]),(1,.pointer (some ⟨g,0,none⟩)),(2,.pointer (some ⟨L,0,none⟩))]:=(C.keep (C.keep (C.keep C.nil (t:=2) Z) (t:=1) Z) (t:=0) Z);have U:a4.tmps.getD 1 undef=.pointer (some ⟨g,0,none⟩):=C.sl 1 _ Z;refine ZN 9 ([(1,fun v _=>v=.pointer (some ⟨g,0,none⟩)),(3,fun v _=>v=.pointer (some ⟨g,0,none⟩)),(4,fun v _=>v=.int .i64 x.block),(5,fun v _=>v=.pointer (some ⟨g,1,none⟩)),(6,fun v _=>v=.slice pR x.regs.length cR),(7,fun v w'=>∃ p c,v=.slice p x.regs.length c/\intsL.In w' (ZJ q.heap.size) x.regs [.slice p x.regs.length c]),(8,fun v _=>v=.pointer (some ⟨g,2,none⟩)),(9,fun v _=>v=.slice pA x.args.length cA),(10,fun v w'=>∃ p c,v=.slice p x.args.length c/\intsL.In w' (ZJ q.heap.size) x.args [.slice p x.args.length c]),(11,fun v w'=>∃ p c p2 c2,v=.agg #[.int .i64 x.block,.slice p x.regs.length c,.slice p2 x.args.length c2]/\QcO w' (ZJ q.heap.size) x p c p2 c2)]:Qb9) (fun w'=>Wd w w' [(L,#[.int .i64 0,.slice none 0 0,.slice none 0 0],56),(g,#[.int .i64 x.block,.slice pR x.regs.length cR,.slice pA x.args.length cA],56)]/\Below q.heap.size q w') (fun w w'=>Below w.heap.size w w') (outs:=[1]) (gs:=[]) (bs:=[true,true,true,true,true,true,true,true,true]) (by kernel_rfl) O Z (by kernel_rfl) (by kernel_rfl) ?hR ?hG ⟨i.drewN 1,QQ (m:=1) Zr⟩ ⟨U,Y⟩ ?hA ?hend
 case hR=>exact⟨fun _ _ _ _ h=>h,fun _ _ _ _ h=>h,fun _ _ _ _ h=>h,fun _ _ _ _ h=>h,fun _ _ _ _ h=>h,fun v w w' r h=>by obtain⟨p,c,P,z⟩:=h;exact⟨p,c,P,Ya z r⟩,fun _ _ _ _ h=>h,fun _ _ _ _ h=>h,fun v w w' r h=>by obtain⟨p,c,P,z⟩:=h;exact⟨p,c,P,Ya z r⟩,fun v w w' r h=>by obtain⟨p,c,p2,c2,P,z⟩:=h;exact⟨p,c,p2,c2,P,⟨Ya z.regs r,Ya z.args r,z.bnd⟩⟩,Y⟩
 case hG=>exact Y
 case hA =>
  iterate 4
   refine⟨fun a w b d K l=>?_,?_⟩
   ·obtain⟨j,-⟩:=d
    conv at j=>whnf;rhs;whnf
    have u0:w.cell? ⟨g,0,none⟩=some (.int .i64 x.block):=Qb (b.1.get 1 Z) 0 _ Z;have u1:w.cell? ⟨g,1,none⟩=some (.slice pR x.regs.length cR):=Qb (b.1.get 1 Z) 1 _ Z;go_simp;exact l _ _ Zr b Z
  refine⟨fun a w b d K l=>?_,?_⟩
  ·obtain⟨j,-⟩:=d
   conv at j=>whnf;rhs;whnf
   go_simp;refine(Qbo _ _ _ w (Ya r.out b.1.bel) b1).mono ?_
   rintro e w9 ⟨p9,c9,rfl,N,A⟩;exact l _ _ A ⟨b.1.below A,Xl b.2 A⟩ ⟨p9,c9,Z,Yc N (fun k d _=>Zt b.2.size d)⟩
  iterate 2
   refine⟨fun a w b d K l=>?_,?_⟩
   ·obtain⟨j,-⟩:=d
    conv at j=>whnf;rhs;whnf
    have u0:w.cell? ⟨g,2,none⟩=some (.slice pA x.args.length cA):=Qb (b.1.get 1 Z) 2 _ Z;go_simp;exact l _ _ Zr b Z
  refine⟨fun a w b d K l=>?_,?_⟩
  ·obtain⟨j,-⟩:=d
   conv at j=>whnf;rhs;whnf
   go_simp;refine(Qbo _ _ _ w (Ya hg.out b.1.bel) b2).mono ?_
   rintro e w9 ⟨p9,c9,rfl,N,A⟩;exact l _ _ A ⟨b.1.below A,Xl b.2 A⟩ ⟨p9,c9,Z,Yc N (fun k d _=>Zt b.2.size d)⟩
  refine⟨fun a w b d K l=>?_,?_⟩
  ·obtain⟨j,R,S,-⟩:=d
   have j:a.tmps[4]?.getD undef=.int .i64 x.block:=by rw[<-Za];exact j
   obtain⟨X,W,R,M⟩:=R
   have R:a.tmps[7]?.getD undef=.slice X x.regs.length W:=by rw[<-Za];exact R
   obtain⟨Q,F,S,B⟩:=S
   have S:a.tmps[10]?.getD undef=.slice Q x.args.length F:=by rw[<-Za];exact S
   go_simp;exact l _ _ Zr b ⟨_,_,_,_,Z,⟨M,B,D⟩⟩
  trivial
 case hend =>
  intro ac a7 w7 I hE J;obtain⟨pr,cr,pa,ca,f,⟨s,y,-⟩⟩:=hE 11 Z
  replace f:a7.tmps.getD 11 undef=.agg #[.int .i64 x.block,.slice pr x.regs.length cr,.slice pa x.args.length ca]:=f;have aa:Fr 12 a7 [(11,.agg #[.int .i64 x.block,.slice pr x.regs.length cr,.slice pa x.args.length ca]),(0,.agg #[.int .i64 x.block,.slice pR x.regs.length cR,.slice pA x.args.length cA]),(1,.pointer (some ⟨g,0,none⟩)),(2,.pointer (some ⟨L,0,none⟩))]:=(J.cons f);clear f;have G:Wd w w7 [(L,#[.int .i64 0,.slice none 0 0,.slice none 0 0],56),(g,#[.int .i64 x.block,.slice pR x.regs.length cR,.slice pA x.args.length cA],56)]:=I.1;have o:L<q.heap.size:=(i.get 0 Z).lt;have ae:g<q.heap.size:=(i.get 1 Z).lt;have E:w.heap.size<=q.heap.size:=i.bel.size;clear J I hE O C;clear i;refine St.go aa <| sTk 0 G Z Z infTo Z Z Z <| fun w8 u H=>?_
  replace s:=Yd s u o;replace y:=Yd y u o;clear u G;refine Yb fun a9 N=>T _ _ ?_;refine XA ?_;with_reducible repeat first | refine Qd ?_ | refine Qc ?_
  exact QW 0 N H Z Z Z underlying56 Z infTo ⟨_,_,_,_,Z,⟨Yc s (fun k d _=>Zt E d),Yc y (fun k d _=>Zt E d),D⟩,H.bel⟩
structure TP where
 p:Option Addr
 c:Nat
structure YIn (w:World) (O:Nat->Prop){n:Nat}(x:TT n) (i:TP):Prop where
 tree:TIn w O x i.p
 ok:x.ok
section
variable {w w':World}{O O':Nat->Prop}{n:Nat}{x:TT n}{i:TP}
theorem YIn.keep (a:∀ k,O k->k<w.heap.size->w'.heap[k]?=w.heap[k]?) (b:∀ k,O k->k<w.heap.size->O' k) (h:YIn w O x i):YIn w' O' x i:=⟨h.tree.keep a b,h.ok⟩
theorem YIn.below (h:YIn w O x i) (a:Below w.heap.size w w'):YIn w' O x i:=h.keep (fun k _ b=>a.block k b) (fun _ h _=>h)
theorem YIn.mono (h:YIn w O x i) (a:∀ k,O k->k<w.heap.size->O' k):YIn w O' x i:=h.keep (fun k _ _=>rfl) a
theorem Qiu (h:YIn w O x i):(Lay.tt n).In w O x [.int .i64 x.kind,.int .i64 x.r,.slice i.p x.len i.c]:=⟨i.p,i.c,Z,h.tree,h.ok⟩
theorem Qkf {l:List (TT n)}(h:(Lay.tt n).list.In w O l [.slice p m c])(k:l[q]?=some x) :
 ∃ (g o:Nat) (i:TP),p=some ⟨g,o,none⟩/\w.rangeAt g (o+q*3) [.int .i64 x.kind,.int .i64 x.r,.slice i.p x.len i.c]/\YIn w O x i:=by
 obtain⟨g,o,A,e,y,z,b,t⟩:=Yf h k
 obtain⟨a,c,rfl,f,u⟩:=t
 have s:(Lay.tt n).size=3:=rfl;rw[s] at b
 exact⟨g,o,⟨a,c⟩,e,fun j v d=>(b j (by have:=(Zi d).1;simpa using this)).trans d,f,u⟩
end
theorem Wd.of {a:World}(b:Below a.heap.size a w):Wd a w []:=⟨b,fun i x h=>by simp at h,fun i x h=>by simp at h,fun i j x y h=>by simp at h⟩
section
variable {α:Type}{A:Lay α}{e:TypeId}{w w':World}{lo g n q s:Nat}{l:List α}{xs:List Value}{x:α}{ds:List Value}
theorem ZI.start (n:A.size=s) (h:w.ownsRow lo e s (.slice (some ⟨g,0,none⟩) m m) m xs):ZI A e w lo (.slice (some ⟨g,0,none⟩) 0 m) (l.take 0) []:=by
 subst n;obtain⟨t,k⟩:=h
 rcases k with ⟨a,_⟩|⟨r,j,f,a,o,q,p,d,c,b⟩
 ·simp at a
 ·simp only[Value.slice.injEq,Option.some.injEq,Addr.mk.injEq,and_true,true_and] at a
  obtain⟨rfl,rfl⟩:=a
  exact⟨⟨by simp,.inr ⟨g,m,f,Z,o,q,Xb _,d,c,by simp⟩⟩,fun i x h=>by simp at h⟩
theorem ZI.blk (h:ZI A e w lo (.slice (some ⟨g,0,none⟩) q n) l xs) (m:A.size=s):∃ c,Blk w g c e/\c.size=n*s:=by
 subst m;obtain⟨t,k⟩:=h.own
 rcases k with ⟨a,_⟩|⟨r,i,f,a,u,p,o,j,d,b⟩
 ·simp at a
 ·simp only[Value.slice.injEq,Option.some.injEq,Addr.mk.injEq,and_true,true_and] at a
  obtain⟨rfl,-,rfl⟩:=a
  exact⟨f,p,d⟩
theorem ZI.fillq (h:ZI A e w lo (.slice (some ⟨g,0,none⟩) q n) (l.take q) xs) (f:A.size=s) (j:q<l.length) (i:l.length=n) (b:l[q]?=some x) (d:A.In w (fun k=>lo<=k/\k≠g) x ds) (c:w'=w.setCells g (0+q*s) ds) :
 ∃ xs',ZI A e w' lo (.slice (some ⟨g,0,none⟩) (q+1) n) (l.take (q+1)) xs':=by
 subst f c;have a:(l.take q).length=q:=by simp;omega
 have T:l.take (q+1)=l.take q++[x]:=by rw[XV,b];rfl
 have:=ZI.fill (l:=l.take q) (g:=g) (n:=n) (by rw[a];exact h) d (by omega)
 rw[a] at this
 rw[T,XK]
 exact⟨_,this⟩
theorem ZI.done (h:ZI A e w lo (.slice (some ⟨g,0,none⟩) q n) (l.take q) xs) (a:q=l.length):A.list.In w (ZJ lo) l [.slice (some ⟨g,0,none⟩) l.length n]:=by
 have:=h.lay
 subst a;rw[List.take_length] at this
 exact this
end
section
variable {n:Nat}{a:Act}{L:List (Tmp × Value)}{w0 w:World}{Bs:List (Nat × Array Value × TypeId)}{Q:Exit->Act->World->Prop}{ops:Array Oper}{rest:List Oper}{t:Tmp}{u v:Value}{ty ty2 ty3:TypeId}{pos:String}{aft:Array Edge}{gd:Option (Nat × Bool)}{x y:Operand}
theorem QjA {c:Array Value}{a:List Value}(p:Wd w0 w Bs) (q:w0.heap.size<=g) (b:∀ (i:Nat) x,Bs[i]?=some x->x.1≠g) (m:Blk w g c bt)
 (f:Qy L x=some (.pointer (some ⟨g,j,none⟩))) (l:Qy L y=some (.agg a.toArray)) (d:(prog.info? ty2).map (·.size)=some a.length) (e:a.all (·.oneCell')=true) (o:j+a.length<=c.size)
 (k:∀ w',Wd w0 w' Bs->w'=w.setCells g j a->St n L ops Q rest w'):St n L ops Q (⟨none,.store ty2 x y,ty,pos,aft,none⟩::rest) w :=
 QlY p q b m f l d e o (fun h=>k _ h Z)
end
theorem underIns:prog.underlying 25=some (.slice 46):=by kernel_rfl
theorem underBlocks:prog.underlying 38=some (.slice 60):=by kernel_rfl
theorem underFuncs:prog.underlying 22=some (.slice 40):=by kernel_rfl
theorem Qbx {z:Value}(h:(prog.info? t).map (fun i=>(i.zero,i.size,i.bytes))=some (some z,s,b)):∃ i,prog.info? t=some i/\i.zero=some z/\i.size=s/\i.bytes=b:=by
 obtain⟨i,a,e⟩:=Option.map_eq_some_iff.1 h
 simp only[Prod.mk.injEq] at e
 exact⟨i,a,e⟩
theorem infoIns:(prog.info? 46).map (fun i=>(i.zero,i.size,i.bytes))=some (some (.agg #[.int .i64 0,.int .i64 0,.int .i64 0,.int .i64 0,.int .i64 0,.int .i64 0,.slice none 0 0,.slice none 0 0]),8,96):=by kernel_rfl
theorem infoBlock:(prog.info? 60).map (fun i=>(i.zero,i.size,i.bytes))=some (some (.agg #[.int .i64 0,.slice none 0 0,.slice none 0 0,.int .i64 0,.int .i64 0,.int .i64 0,.slice none 0 0,.slice none 0 0,.int .i64 0,.slice none 0 0,.slice none 0 0,.slice none 0 0]),12,208):=by kernel_rfl
theorem infoFunc:(prog.info? 40).map (fun i=>(i.zero,i.size,i.bytes))=some (some (.agg #[.int .i64 0,.slice none 0 0,.slice none 0 0,.slice none 0 0]),4,80):=by kernel_rfl
theorem QaA (l:List (TT n)) (p:Option Addr) (c:Nat) (w:World) (E:(Lay.tt n).list.In w All l [.slice p l.length c]) (az:l.length<=4294967296)
 (hf:∀ x∈l,∀ (i:TP) (w:World),YIn w All x i->Calls prog 102 #[.agg #[.int .i64 x.kind,.int .i64 x.r,.slice i.p x.len i.c]] w fun e w'=>∃ v,e=.returned v/\(∃ i':TP,v=.agg #[.int .i64 x.kind,.int .i64 x.r,.slice i'.p x.len i'.c]/\YIn w' (ZJ w.heap.size) x i')/\Below w.heap.size w w') :
 Calls prog 101 #[.slice p l.length c,.func (.func 102) #[] #[]] w fun e w'=>Qdq (Lay.tt n) w w' l e:=by
 have hl:Hid _:=E;clear E;obtain⟨i0,hi,ai,ak,aj⟩:=infoT_parts
 refine Qv (n:=26) func101 Z Z Z <| fun a hF=>?_
 have hW:=Ye w;replace hF:Fr 26 a [(0,.slice p l.length c),(1,.func (.func 102) #[] #[])]:=hF;refine XW fun K1 aq=>rg hF fun f=>sa Y Z Z <| Yb fun a2 h2=>aq _ _ <| XW fun K3 ab=>rg h2 fun f=>sm Y Z Z <| Qbb Y Z Z ?_
 refine Qji underTs hi ai ak (by rw[aj];omega) (by unfold maxLen;omega) hW Y Z Z ?_;rintro w4 g a3 rfl hO N V;clear hW;refine sa Y Z Z <| Yb fun a5 h5=>ab _ _ <| XW fun K6 af=>XW fun K7 ah=>rg h5 fun f=>sm Y Z Z <| Qbb Y Z Z <| sm Y Z Z <| Yb fun a8 u=>ah _ _ <| XJ <| ZL (fun r a w'=>∃ q:Nat,q<=l.length/\r=l.length - q/\(∃ xs,ZI (Lay.tt n) 70 w' w.heap.size (.slice (some ⟨w.heap.size,0,none⟩) q l.length) (l.take q) xs)/\Fr 26 a [(1,.func (.func 102) #[] #[]),(0,.slice p l.length c),(4,.slice none 0 0),(5,.slice (some ⟨w.heap.size,0,none⟩) l.length l.length),(11,.slice p l.length c),(12,.int .i64 (l.length:Int)),(13,.int .i64 (q:Int))]/\Below w.heap.size w w') l.length ⟨0,Xb _,Z,⟨_,ZI.start Z hO⟩,(u.keep (u.keep (u.keep (u.keep (u.keep (u.keep (u.keep u.nil (t:=13) Z) (t:=12) Z) (t:=11) Z) (t:=5) Z) (t:=4) Z) (t:=0) Z) (t:=1) Z),N⟩ ?_
 clear u V hO N;rintro r a9 w9 ⟨q,hq,hr,⟨xs,Q⟩,U,J⟩ KL aa;have hA:Hid _:=Q;have T:Hid _:=J;clear Q J;have O:=Ye w9;refine XW fun bd L=>rg U fun f=>slt Y Z Z Z <| Yb fun av y=>L _ _ <| XW fun bb K=>Qt (t:=14) y Z (fun R=>?_) (fun R=>?_)
 ·have j:q<l.length:=by have:=Xv R;omega
  clear R;obtain⟨x,m⟩:∃ v9,(l)[q]?=some v9:=⟨_,Zg j⟩
  obtain⟨g1,o1,y1,z,E1,B⟩:=Qkf (Ya hl.out T.out) m
  replace B:Hid _:=B;replace z:Hid _:=z;replace m:Hid _:=m;replace E1:Hid _:=E1;have ac:Hid ((some ⟨w.heap.size,0,none⟩:Option Addr)=some ⟨w.heap.size,0,none⟩):=rfl;refine XB <| K _ _ <| XW fun ay S=>XJ <| XW fun aw M=>rg y fun f=>sm Y Z Z <| QdD z.out j Y Z Z Z <| sSE underlying70 Z (QS E1.out O.bel) infType Y Z Z <| QhW O Y Z <| fun a0 a1 P hN=>sa Y Z Z <| sT 0 P Z Z infType Z Z Z <| fun ag d=>Yb fun bc ae=>M _ _ <| rg ae fun f=>sm Y Z Z <| sm Y Z Z <| sm Y Z Z <| sS 0 3 underlying70 Z infType d Y Z Z Z Z <| QjL cf102 d (hf x (Zm m.out) y1 _ (B.out.below d.bel)) Y Z Z Z ?_
  rintro v9 D ⟨i2,rfl,hI⟩ au o;refine QdD ac.out j Y Z Z Z <| fun ba am=>St.go am ?_
  have A:=hA.out.below o.bel;obtain⟨cg,G,al⟩:=A.blk (s:=3) Z
  have X:Below w.heap.size w D:=Xl T.out o.bel;have bf:w9.heap.size<=ag.heap.size:=d.bel.size;have a6:w.heap.size<=w9.heap.size:=T.out.size;have ar:=(hA.out.lo_le (g:=w.heap.size) Z).2;have F:(Lay.tt n).In D (fun k=>w.heap.size<=k/\k≠w.heap.size) x [.int .i64 x.kind,.int .i64 x.r,.slice i2.p x.len i2.c]:=Yc (Qiu hI) (fun k hk _=>⟨by have:_<=k:=hk;omega,by have:_<=k:=hk;omega⟩);clear o d;refine QjA (Wd.of X) Ze (fun i x h=>by simp at h) G Z Z infType Z (by simp only[List.length_cons,List.length_nil];omega) ?_;intro an C H;obtain⟨a7,W⟩:=A.fillq (s:=3) (w':=an) Z j Z m.out F H
  clear H A G al F;exact Yb fun be ad=>S _ _ <| rg ad fun f=>sad (by omega) Y Z Z Z <| sm Y Z Z <| Yb fun a4 b=>aa _ _ (l.length - (q+1)) (by omega) ⟨q+1,by omega,Z,⟨_,W⟩,(b.keep (b.keep (b.keep (b.keep (b.keep (b.keep (b.keep b.nil (t:=13) Z) (t:=12) Z) (t:=11) Z) (t:=5) Z) (t:=4) Z) (t:=0) Z) (t:=1) Z),C.bel⟩
 have ap:q=l.length:=by have:=Xw R;omega
 clear R;refine wp_exit <| af _ _ <| XW fun ax I=>rg y fun f=>sm Y Z Z <| sa Y Z Z <| Yb fun bg ao=>I _ _ ?_
 refine XA ?_;with_reducible repeat first | refine Qd ?_ | refine Qc ?_
 exact Ql (t:=4) ao Z Z ⟨_,_,Z,hA.out.done ap,T.out⟩
theorem Qf0 (l:List (QC)) (p:Option Addr) (c:Nat) (w:World) (F:insL.list.In w All l [.slice p l.length c]) (a1:l.length<=4294967296)
 (hf:∀ x∈l,∀ (i:IP) (w:World),IIn w All x i->Calls prog 137 #[.agg #[.int .i64 x.op,.int .i64 x.a,.int .i64 x.b,.int .i64 x.c,.int .i64 x.k,.int .i64 x.n,.slice i.pR x.regs.length i.cR,.slice i.pA x.args.length i.cA]] w fun e w'=>∃ v,e=.returned v/\(∃ i':IP,v=.agg #[.int .i64 x.op,.int .i64 x.a,.int .i64 x.b,.int .i64 x.c,.int .i64 x.k,.int .i64 x.n,.slice i'.pR x.regs.length i'.cR,.slice i'.pA x.args.length i'.cA]/\IIn w' (ZJ w.heap.size) x i')/\Below w.heap.size w w') :
 Calls prog 136 #[.slice p l.length c,.func (.func 137) #[] #[]] w fun e w'=>Qdq insL w w' l e:=by
 have hl:Hid _:=F;clear F;obtain⟨i0,hi,ak,am,al⟩:=(Qbx infoIns)
 refine Qv (n:=26) func136 Z Z Z <| fun a hF=>?_
 have hW:=Ye w;replace hF:Fr 26 a [(0,.slice p l.length c),(1,.func (.func 137) #[] #[])]:=hF;refine XW fun K1 au=>rg hF fun j=>sa Y Z Z <| Yb fun a2 h2=>au _ _ <| XW fun K3 ad=>rg h2 fun j=>sm Y Z Z <| Qch Y Z Z ?_
 refine Qji underIns hi ak am (by rw[al];omega) (by unfold maxLen;omega) hW Y Z Z ?_;rintro w4 g a6 rfl hO O X;clear hW;refine sa Y Z Z <| Yb fun a5 h5=>ad _ _ <| XW fun K6 ah=>XW fun K7 aj=>rg h5 fun j=>sm Y Z Z <| Qch Y Z Z <| sm Y Z Z <| Yb fun a8 y=>aj _ _ <| XJ <| ZL (fun r a w'=>∃ q:Nat,q<=l.length/\r=l.length - q/\(∃ xs,ZI insL 46 w' w.heap.size (.slice (some ⟨w.heap.size,0,none⟩) q l.length) (l.take q) xs)/\Fr 26 a [(1,.func (.func 137) #[] #[]),(0,.slice p l.length c),(4,.slice none 0 0),(5,.slice (some ⟨w.heap.size,0,none⟩) l.length l.length),(11,.slice p l.length c),(12,.int .i64 (l.length:Int)),(13,.int .i64 (q:Int))]/\Below w.heap.size w w') l.length ⟨0,Xb _,Z,⟨_,ZI.start Z hO⟩,(y.keep (y.keep (y.keep (y.keep (y.keep (y.keep (y.keep y.nil (t:=13) Z) (t:=12) Z) (t:=11) Z) (t:=5) Z) (t:=4) Z) (t:=0) Z) (t:=1) Z),O⟩ ?_
 clear y X hO O;rintro r a9 w9 ⟨q,hq,hr,⟨xs,R⟩,W,K⟩ KL ac;have hA:Hid _:=R;have U:Hid _:=K;clear R K;have P:=Ye w9;refine XW fun bf M=>rg W fun j=>slt Y Z Z Z <| Yb fun ax z=>M _ _ <| XW fun bd L=>Qt (t:=14) z Z (fun S=>?_) (fun S=>?_)
 ·have m:q<l.length:=by have:=Xv S;omega
  clear S;obtain⟨x,o⟩:∃ v9,(l)[q]?=some v9:=⟨_,Zg m⟩
  obtain⟨g1,o1,i1,A,E1,C⟩:=Qdf (Ya hl.out U.out) o
  replace C:Hid _:=C;replace A:Hid _:=A;replace o:Hid _:=o;replace E1:Hid _:=E1;have ae:Hid ((some ⟨w.heap.size,0,none⟩:Option Addr)=some ⟨w.heap.size,0,none⟩):=rfl;refine XB <| L _ _ <| XW fun a0 T=>XJ <| XW fun ay N=>rg z fun j=>sm Y Z Z <| QgA A.out m Y Z Z Z <| sSE underlying46 Z (QS E1.out P.bel) infIns Y Z Z <| QjB P Y Z <| fun a3 a4 Q hN=>sa Y Z Z <| sT 0 Q Z Z infIns Z Z Z <| fun ai f=>Yb fun be ag=>N _ _ <| rg ag fun j=>sm Y Z Z <| sm Y Z Z <| sm Y Z Z <| sS 0 8 underlying46 Z infIns f Y Z Z Z Z <| QjL cf137 f (hf x (Zm o.out) i1 _ (C.out.below f.bel)) Y Z Z Z ?_
  rintro v9 E ⟨V,rfl,hI⟩ aw u;refine QgA ae.out m Y Z Z Z <| fun bc ao=>St.go ao ?_
  have B:=hA.out.below u.bel;obtain⟨cg,H,an⟩:=B.blk (s:=8) Z
  have ab:Below w.heap.size w E:=Xl U.out u.bel;have bh:w9.heap.size<=ai.heap.size:=f.bel.size;have ba:w.heap.size<=w9.heap.size:=U.out.size;have av:=(hA.out.lo_le (g:=w.heap.size) Z).2;have G:insL.In E (fun k=>w.heap.size<=k/\k≠w.heap.size) x [.int .i64 x.op,.int .i64 x.a,.int .i64 x.b,.int .i64 x.c,.int .i64 x.k,.int .i64 x.n,.slice V.pR x.regs.length V.cR,.slice V.pA x.args.length V.cA]:=Yc (Qjm hI) (fun k hk _=>⟨by have:_<=k:=hk;omega,by have:_<=k:=hk;omega⟩);clear u f;refine QjA (Wd.of ab) Ze (fun i x h=>by simp at h) H Z Z infIns Z (by simp only[List.length_cons,List.length_nil];omega) ?_;intro ap D I;obtain⟨bb,aa⟩:=B.fillq (s:=8) (w':=ap) Z m Z o.out G I
  clear I B H an G;exact Yb fun bg af=>T _ _ <| rg af fun j=>sad (by omega) Y Z Z Z <| sm Y Z Z <| Yb fun a7 d=>ac _ _ (l.length - (q+1)) (by omega) ⟨q+1,by omega,Z,⟨_,aa⟩,(d.keep (d.keep (d.keep (d.keep (d.keep (d.keep (d.keep d.nil (t:=13) Z) (t:=12) Z) (t:=11) Z) (t:=5) Z) (t:=4) Z) (t:=0) Z) (t:=1) Z),D.bel⟩
 have ar:q=l.length:=by have:=Xw S;omega
 clear S;refine wp_exit <| ah _ _ <| XW fun az J=>rg z fun j=>sm Y Z Z <| sa Y Z Z <| Yb fun bi aq=>J _ _ ?_
 refine XA ?_;with_reducible repeat first | refine Qd ?_ | refine Qc ?_
 exact Ql (t:=4) aq Z Z ⟨_,_,Z,hA.out.done ar,U.out⟩
theorem Qed (l:List (Qe n)) (p:Option Addr) (c:Nat) (w:World) (F:(Zy n).list.In w All l [.slice p l.length c]) (a0:l.length<=4294967296)
 (hf:∀ x∈l,∀ (i:BP) (w:World),BIn w All x i->Calls prog 104 #[.agg #[.int .i64 x.regs,.slice i.pP x.params.length i.cP,.slice i.pC x.code.length i.cC,.int .i64 x.fin.op,.int .i64 x.fin.a,.int .i64 x.fin.yes.block,.slice i.e.pYR x.fin.yes.regs.length i.e.cYR,.slice i.e.pYA x.fin.yes.args.length i.e.cYA,.int .i64 x.fin.no.block,.slice i.e.pNR x.fin.no.regs.length i.e.cNR,.slice i.e.pNA x.fin.no.args.length i.e.cNA,.slice i.e.pA x.fin.args.length i.e.cA]] w fun e w'=>∃ v,e=.returned v/\(∃ i':BP,v=.agg #[.int .i64 x.regs,.slice i'.pP x.params.length i'.cP,.slice i'.pC x.code.length i'.cC,.int .i64 x.fin.op,.int .i64 x.fin.a,.int .i64 x.fin.yes.block,.slice i'.e.pYR x.fin.yes.regs.length i'.e.cYR,.slice i'.e.pYA x.fin.yes.args.length i'.e.cYA,.int .i64 x.fin.no.block,.slice i'.e.pNR x.fin.no.regs.length i'.e.cNR,.slice i'.e.pNA x.fin.no.args.length i'.e.cNA,.slice i'.e.pA x.fin.args.length i'.e.cA]/\BIn w' (ZJ w.heap.size) x i')/\Below w.heap.size w w') :
 Calls prog 103 #[.slice p l.length c,.func (.func 104) #[] #[]] w fun e w'=>Qdq (Zy n) w w' l e:=by
 have hl:Hid _:=F;clear F;obtain⟨i0,hi,aj,al,ak⟩:=(Qbx infoBlock)
 refine Qv (n:=26) func103 Z Z Z <| fun a hF=>?_
 have hW:=Ye w;replace hF:Fr 26 a [(0,.slice p l.length c),(1,.func (.func 104) #[] #[])]:=hF;refine XW fun K1 ar=>rg hF fun f=>sa Y Z Z <| Yb fun a2 h2=>ar _ _ <| XW fun K3 ac=>rg h2 fun f=>sm Y Z Z <| QaW Y Z Z ?_
 refine Qji underBlocks hi aj al (by rw[ak];omega) (by unfold maxLen;omega) hW Y Z Z ?_;rintro w4 g a4 rfl hO O W;clear hW;refine sa Y Z Z <| Yb fun a5 h5=>ac _ _ <| XW fun K6 ag=>XW fun K7 ai=>rg h5 fun f=>sm Y Z Z <| QaW Y Z Z <| sm Y Z Z <| Yb fun a8 y=>ai _ _ <| XJ <| ZL (fun r a w'=>∃ q:Nat,q<=l.length/\r=l.length - q/\(∃ xs,ZI (Zy n) 60 w' w.heap.size (.slice (some ⟨w.heap.size,0,none⟩) q l.length) (l.take q) xs)/\Fr 26 a [(1,.func (.func 104) #[] #[]),(0,.slice p l.length c),(4,.slice none 0 0),(5,.slice (some ⟨w.heap.size,0,none⟩) l.length l.length),(11,.slice p l.length c),(12,.int .i64 (l.length:Int)),(13,.int .i64 (q:Int))]/\Below w.heap.size w w') l.length ⟨0,Xb _,Z,⟨_,ZI.start Z hO⟩,(y.keep (y.keep (y.keep (y.keep (y.keep (y.keep (y.keep y.nil (t:=13) Z) (t:=12) Z) (t:=11) Z) (t:=5) Z) (t:=4) Z) (t:=0) Z) (t:=1) Z),O⟩ ?_
 clear y W hO O;rintro r a9 w9 ⟨q,hq,hr,⟨xs,R⟩,V,K⟩ KL ab;have hA:Hid _:=R;have U:Hid _:=K;clear R K;have P:=Ye w9;refine XW fun be M=>rg V fun f=>slt Y Z Z Z <| Yb fun aw z=>M _ _ <| XW fun bc L=>Qt (t:=14) z Z (fun S=>?_) (fun S=>?_)
 ·have j:q<l.length:=by have:=Xv S;omega
  clear S;obtain⟨x,o⟩:∃ v9,(l)[q]?=some v9:=⟨_,Zg j⟩
  obtain⟨g1,o1,b1,A,E1,C⟩:=Qa6 (Ya hl.out U.out) o
  replace C:Hid _:=C;replace A:Hid _:=A;replace o:Hid _:=o;replace E1:Hid _:=E1;have ad:Hid ((some ⟨w.heap.size,0,none⟩:Option Addr)=some ⟨w.heap.size,0,none⟩):=rfl;refine XB <| L _ _ <| XW fun az T=>XJ <| XW fun ax N=>rg z fun f=>sm Y Z Z <| QcT A.out j Y Z Z Z <| sSE underlying60 Z (QS E1.out P.bel) infBlock Y Z Z <| QeF P Y Z <| fun a1 a3 Q hN=>sa Y Z Z <| sT 0 Q Z Z infBlock Z Z Z <| fun ah d=>Yb fun bd af=>N _ _ <| rg af fun f=>sm Y Z Z <| sm Y Z Z <| sm Y Z Z <| sS 0 12 underlying60 Z infBlock d Y Z Z Z Z <| QjL cf104 d (hf x (Zm o.out) b1 _ (C.out.below d.bel)) Y Z Z Z ?_
  rintro v9 E ⟨m,rfl,hI⟩ av u;refine QcT ad.out j Y Z Z Z <| fun bb an=>St.go an ?_
  have B:=hA.out.below u.bel;obtain⟨cg,H,am⟩:=B.blk (s:=12) Z
  have aa:Below w.heap.size w E:=Xl U.out u.bel;have bg:w9.heap.size<=ah.heap.size:=d.bel.size;have a7:w.heap.size<=w9.heap.size:=U.out.size;have au:=(hA.out.lo_le (g:=w.heap.size) Z).2;have G:(Zy n).In E (fun k=>w.heap.size<=k/\k≠w.heap.size) x [.int .i64 x.regs,.slice m.pP x.params.length m.cP,.slice m.pC x.code.length m.cC,.int .i64 x.fin.op,.int .i64 x.fin.a,.int .i64 x.fin.yes.block,.slice m.e.pYR x.fin.yes.regs.length m.e.cYR,.slice m.e.pYA x.fin.yes.args.length m.e.cYA,.int .i64 x.fin.no.block,.slice m.e.pNR x.fin.no.regs.length m.e.cNR,.slice m.e.pNA x.fin.no.args.length m.e.cNA,.slice m.e.pA x.fin.args.length m.e.cA]:=Yc (Qhd hI) (fun k hk _=>⟨by have:_<=k:=hk;omega,by have:_<=k:=hk;omega⟩);clear u d;refine QjA (Wd.of aa) Ze (fun i x h=>by simp at h) H Z Z infBlock Z (by simp only[List.length_cons,List.length_nil];omega) ?_;intro ao D I;obtain⟨ba,X⟩:=B.fillq (s:=12) (w':=ao) Z j Z o.out G I
  clear I B H am G;exact Yb fun bf ae=>T _ _ <| rg ae fun f=>sad (by omega) Y Z Z Z <| sm Y Z Z <| Yb fun a6 b=>ab _ _ (l.length - (q+1)) (by omega) ⟨q+1,by omega,Z,⟨_,X⟩,(b.keep (b.keep (b.keep (b.keep (b.keep (b.keep (b.keep b.nil (t:=13) Z) (t:=12) Z) (t:=11) Z) (t:=5) Z) (t:=4) Z) (t:=0) Z) (t:=1) Z),D.bel⟩
 have aq:q=l.length:=by have:=Xw S;omega
 clear S;refine wp_exit <| ag _ _ <| XW fun ay J=>rg z fun f=>sm Y Z Z <| sa Y Z Z <| Yb fun bh ap=>J _ _ ?_
 refine XA ?_;with_reducible repeat first | refine Qd ?_ | refine Qc ?_
 exact Ql (t:=4) ap Z Z ⟨_,_,Z,hA.out.done aq,U.out⟩
theorem Qfm (l:List (Qf n)) (p:Option Addr) (c:Nat) (w:World) (F:(ZR n).list.In w All l [.slice p l.length c]) (a0:l.length<=4294967296)
 (hf:∀ x∈l,∀ (i:FP) (w:World),FIn w All x i->Calls prog 59 #[.agg #[.int .i64 x.regs,.slice i.pP x.params.length i.cP,.slice i.pR x.results.length i.cR,.slice i.pB x.blocks.length i.cB]] w fun e w'=>∃ v,e=.returned v/\(∃ i':FP,v=.agg #[.int .i64 x.regs,.slice i'.pP x.params.length i'.cP,.slice i'.pR x.results.length i'.cR,.slice i'.pB x.blocks.length i'.cB]/\FIn w' (ZJ w.heap.size) x i')/\Below w.heap.size w w') :
 Calls prog 58 #[.slice p l.length c,.func (.func 59) #[] #[]] w fun e w'=>Qdq (ZR n) w w' l e:=by
 have hl:Hid _:=F;clear F;obtain⟨i0,hi,aj,al,ak⟩:=(Qbx infoFunc)
 refine Qv (n:=26) func58 Z Z Z <| fun a hF=>?_
 have hW:=Ye w;replace hF:Fr 26 a [(0,.slice p l.length c),(1,.func (.func 59) #[] #[])]:=hF;refine XW fun K1 ar=>rg hF fun f=>sa Y Z Z <| Yb fun a2 h2=>ar _ _ <| XW fun K3 ac=>rg h2 fun f=>sm Y Z Z <| QaG Y Z Z ?_
 refine Qji underFuncs hi aj al (by rw[ak];omega) (by unfold maxLen;omega) hW Y Z Z ?_;rintro w4 g a4 rfl hO O W;clear hW;refine sa Y Z Z <| Yb fun a5 h5=>ac _ _ <| XW fun K6 ag=>XW fun K7 ai=>rg h5 fun f=>sm Y Z Z <| QaG Y Z Z <| sm Y Z Z <| Yb fun a8 u=>ai _ _ <| XJ <| ZL (fun r a w'=>∃ q:Nat,q<=l.length/\r=l.length - q/\(∃ xs,ZI (ZR n) 40 w' w.heap.size (.slice (some ⟨w.heap.size,0,none⟩) q l.length) (l.take q) xs)/\Fr 26 a [(1,.func (.func 59) #[] #[]),(0,.slice p l.length c),(4,.slice none 0 0),(5,.slice (some ⟨w.heap.size,0,none⟩) l.length l.length),(11,.slice p l.length c),(12,.int .i64 (l.length:Int)),(13,.int .i64 (q:Int))]/\Below w.heap.size w w') l.length ⟨0,Xb _,Z,⟨_,ZI.start Z hO⟩,(u.keep (u.keep (u.keep (u.keep (u.keep (u.keep (u.keep u.nil (t:=13) Z) (t:=12) Z) (t:=11) Z) (t:=5) Z) (t:=4) Z) (t:=0) Z) (t:=1) Z),O⟩ ?_
 clear u W hO O;rintro r a9 w9 ⟨q,hq,hr,⟨xs,R⟩,V,K⟩ KL ab;have hA:Hid _:=R;have U:Hid _:=K;clear R K;have P:=Ye w9;refine XW fun be M=>rg V fun f=>slt Y Z Z Z <| Yb fun aw y=>M _ _ <| XW fun bc L=>Qt (t:=14) y Z (fun S=>?_) (fun S=>?_)
 ·have j:q<l.length:=by have:=Xv S;omega
  clear S;obtain⟨x,m⟩:∃ v9,(l)[q]?=some v9:=⟨_,Zg j⟩
  obtain⟨g1,o1,f1,z,E1,B⟩:=Qbk (Ya hl.out U.out) m
  replace B:Hid _:=B;replace z:Hid _:=z;replace m:Hid _:=m;replace E1:Hid _:=E1;have ad:Hid ((some ⟨w.heap.size,0,none⟩:Option Addr)=some ⟨w.heap.size,0,none⟩):=rfl;refine XB <| L _ _ <| XW fun az T=>XJ <| XW fun ax N=>rg y fun f=>sm Y Z Z <| Qej z.out j Y Z Z Z <| sSE underlying40 Z (QS E1.out P.bel) infFunc Y Z Z <| Qgr P Y Z <| fun a1 a3 Q hN=>sa Y Z Z <| sT 0 Q Z Z infFunc Z Z Z <| fun ah d=>Yb fun bd af=>N _ _ <| rg af fun f=>sm Y Z Z <| sm Y Z Z <| sm Y Z Z <| sS 0 4 underlying40 Z infFunc d Y Z Z Z Z <| QjL cf59 d (hf x (Zm m.out) f1 _ (B.out.below d.bel)) Y Z Z Z ?_
  rintro v9 E ⟨C,rfl,hI⟩ av o;refine Qej ad.out j Y Z Z Z <| fun bb an=>St.go an ?_
  have A:=hA.out.below o.bel;obtain⟨cg,H,am⟩:=A.blk (s:=4) Z
  have aa:Below w.heap.size w E:=Xl U.out o.bel;have bg:w9.heap.size<=ah.heap.size:=d.bel.size;have a7:w.heap.size<=w9.heap.size:=U.out.size;have au:=(hA.out.lo_le (g:=w.heap.size) Z).2;have G:(ZR n).In E (fun k=>w.heap.size<=k/\k≠w.heap.size) x [.int .i64 x.regs,.slice C.pP x.params.length C.cP,.slice C.pR x.results.length C.cR,.slice C.pB x.blocks.length C.cB]:=Yc (QhB hI) (fun k hk _=>⟨by have:_<=k:=hk;omega,by have:_<=k:=hk;omega⟩);clear o d;refine QjA (Wd.of aa) Ze (fun i x h=>by simp at h) H Z Z infFunc Z (by simp only[List.length_cons,List.length_nil];omega) ?_;intro ao D I;obtain⟨ba,X⟩:=A.fillq (s:=4) (w':=ao) Z j Z m.out G I
  clear I A H am G;exact Yb fun bf ae=>T _ _ <| rg ae fun f=>sad (by omega) Y Z Z Z <| sm Y Z Z <| Yb fun a6 b=>ab _ _ (l.length - (q+1)) (by omega) ⟨q+1,by omega,Z,⟨_,X⟩,(b.keep (b.keep (b.keep (b.keep (b.keep (b.keep (b.keep b.nil (t:=13) Z) (t:=12) Z) (t:=11) Z) (t:=5) Z) (t:=4) Z) (t:=0) Z) (t:=1) Z),D.bel⟩
 have aq:q=l.length:=by have:=Xw S;omega
 clear S;refine wp_exit <| ag _ _ <| XW fun ay J=>rg y fun f=>sm Y Z Z <| sa Y Z Z <| Yb fun bh ap=>J _ _ ?_
 refine XA ?_;with_reducible repeat first | refine Qd ?_ | refine Qc ?_
 exact Ql (t:=4) ap Z Z ⟨_,_,Z,hA.out.done aq,U.out⟩
theorem QbM {α:Type}{A:Lay α}{f:FuncId}{args:Array Value}{l:List α}(h:Calls prog f args w fun e w'=>Qdq A w w' l e) :
 Calls prog f args w fun e w'=>∃ v,e=.returned v/\(∃ a' c',v=.slice a' l.length c'/\A.list.In w' (ZJ w.heap.size) l [.slice a' l.length c'])/\Below w.heap.size w w' :=
 h.mono fun e w' ⟨a',c',a,c,b⟩=>⟨_,a,⟨a',c',Z,c⟩,b⟩
theorem EIn.keep1 {x:MEnd}{e:EP}(h:EIn w (ZJ lo) x e) (b:QdH B w w') (c:B<lo):EIn w' (ZJ lo) x e :=
 h.keep (fun k a _=>b k (by have:lo<=k:=a;omega)) (fun _ h _=>h)
theorem QiS {x:QC}(d:x.small) (i:IP) (w:World) (h:IIn w All x i):Calls prog 137 #[.agg #[.int .i64 x.op,.int .i64 x.a,.int .i64 x.b,.int .i64 x.c,.int .i64 x.k,.int .i64 x.n,.slice i.pR x.regs.length i.cR,.slice i.pA x.args.length i.cA]] w fun e w'=>∃ v,e=.returned v/\(∃ i':IP,v=.agg #[.int .i64 x.op,.int .i64 x.a,.int .i64 x.b,.int .i64 x.c,.int .i64 x.k,.int .i64 x.n,.slice i'.pR x.regs.length i'.cR,.slice i'.pA x.args.length i'.cA]/\IIn w' (ZJ w.heap.size) x i')/\Below w.heap.size w w' :=
 (QfM x i w h (by have:=d.1;omega) (by have:=d.2;omega)).mono fun e w' ⟨i',f,j,g⟩=>⟨_,f,⟨i',Z,j⟩,g⟩
theorem QhJ {x:MEnd}(b:x.small) (i:EP) (w:World) (h:EIn w All x i):Calls prog 138 #[.agg #[.int .i64 x.op,.int .i64 x.a,.int .i64 x.yes.block,.slice i.pYR x.yes.regs.length i.cYR,.slice i.pYA x.yes.args.length i.cYA,.int .i64 x.no.block,.slice i.pNR x.no.regs.length i.cNR,.slice i.pNA x.no.args.length i.cNA,.slice i.pA x.args.length i.cA]] w fun e w'=>∃ v,e=.returned v/\(∃ i':EP,v=.agg #[.int .i64 x.op,.int .i64 x.a,.int .i64 x.yes.block,.slice i'.pYR x.yes.regs.length i'.cYR,.slice i'.pYA x.yes.args.length i'.cYA,.int .i64 x.no.block,.slice i'.pNR x.no.regs.length i'.cNR,.slice i'.pNA x.no.args.length i'.cNA,.slice i'.pA x.args.length i'.cA]/\EIn w' (ZJ w.heap.size) x i')/\Below w.heap.size w w' :=
 (Qf6 x i w h (by have:=b.1.1;omega) (by have:=b.1.2;omega) (by have:=b.2.1.1;omega) (by have:=b.2.1.2;omega) (by have:=b.2.2;omega)).mono fun e w' ⟨i',c,f,d⟩=>⟨_,c,⟨i',Z,f⟩,d⟩
def Qk3 (n:Nat):Prop:=∀ (t:TT n) (i:TP) (w:World),YIn w All t i->t.count<=100000->Calls prog 102 #[.agg #[.int .i64 t.kind,.int .i64 t.r,.slice i.p t.len i.c]] w fun e w'=>∃ v,e=.returned v/\(∃ i':TP,v=.agg #[.int .i64 t.kind,.int .i64 t.r,.slice i'.p t.len i'.c]/\YIn w' (ZJ w.heap.size) t i')/\Below w.heap.size w w'
theorem cOwnType_any:∀ n,Qk3 n:=by
 intro n
 induction n with
 | zero=>intro t;exact Empty.elim t
 | succ n ih =>
   intro t i w H hc;have D:∀ x∈t.2.2,x.count<=100000:=fun x L=>by have:=t.count_kid L;omega
   have I:t.2.2.length<=100000:=by have:=t.len_lt_count;rw[t.len_eq] at this;omega
   have j:=H.ok;have m:Hid _:=QcE (c:=i.c) H.tree.list j.2;clear H;simp only[TT.len_eq]
   refine Qv (n:=8) func102 Z Z Z <| fun a A=>?_
   have W:=Ye w;replace A:Fr 8 a [(0,.agg #[.int .i64 t.kind,.int .i64 t.r,.slice i.p t.2.2.length i.c])]:=A;refine XW fun K1 G=>rg A fun v=>sB W Y Z Z <| fun w2 F E P=>QhW E Y Z <| fun U C d P=>Yb fun a4 T=>G _ _ <| XW fun X z=>rg T fun v=>sfType2 Y Z Z <| ZW 1 d Y Z Z Z Z ?_
   have o:max C F+1<=U.heap.size:=by have K:=(d.get 0 Z).lt;have J:=(d.get 1 Z).lt;omega
   refine QkB cf101 d (QbM (QaA t.2.2 _ _ _ (Ya m.out d.bel) (by omega) (fun u Q i w h=>ih u i w h (D u Q)))) Y Z Z Z ?_;rintro v9 w7 ⟨M,S,rfl,b⟩ B l;replace b:=Yc b (O':=ZJ (max C F+1)) (fun k m _=>Zt o m);clear o B d;refine sfType2 Y Z Z <| s1k 1 inf1Types l Z Z Z Z Z Z <| fun w8 e g=>?_
   replace b:=Yd b e (by omega);clear e l;refine Yb fun a9 J=>z _ _ <| XW fun O q=>rg J fun v=>sS 1 3 underlying70 Z infType g Y Z Z Z Z <| sTk 0 g Z Z infType Z Z Z <| fun N e f=>?_
   replace b:=Yd b e (by omega);clear e g;refine Yb fun V y=>q _ _ ?_;refine XA ?_;with_reducible repeat first | refine Qd ?_ | refine Qc ?_
   have s:w.heap.size<=max C F+1:=by have K:=f.new 0 _ Z;simp only at K;omega
   have R:=QK (Yc b (fun k m _=>Zt s m));exact QW 0 y f Z Z Z underlying70 Z infType ⟨_,Z,⟨⟨M,S⟩,Z,⟨R.1,j⟩⟩,f.bel⟩
theorem Qex (x:Qe n) (i:BP) (w:World) (h:BIn w All x i) (F:x.small) :
 Calls prog 104 #[.agg #[.int .i64 x.regs,.slice i.pP x.params.length i.cP,.slice i.pC x.code.length i.cC,.int .i64 x.fin.op,.int .i64 x.fin.a,.int .i64 x.fin.yes.block,.slice i.e.pYR x.fin.yes.regs.length i.e.cYR,.slice i.e.pYA x.fin.yes.args.length i.e.cYA,.int .i64 x.fin.no.block,.slice i.e.pNR x.fin.no.regs.length i.e.cNR,.slice i.e.pNA x.fin.no.args.length i.e.cNA,.slice i.e.pA x.fin.args.length i.e.cA]] w fun e w'=>∃ v,e=.returned v/\(∃ i':BP,v=.agg #[.int .i64 x.regs,.slice i'.pP x.params.length i'.cP,.slice i'.pC x.code.length i'.cC,.int .i64 x.fin.op,.int .i64 x.fin.a,.int .i64 x.fin.yes.block,.slice i'.e.pYR x.fin.yes.regs.length i'.e.cYR,.slice i'.e.pYA x.fin.yes.args.length i'.e.cYA,.int .i64 x.fin.no.block,.slice i'.e.pNR x.fin.no.regs.length i'.e.cNR,.slice i'.e.pNA x.fin.no.args.length i'.e.cNA,.slice i'.e.pA x.fin.args.length i'.e.cA]/\BIn w' (ZJ w.heap.size) x i')/\Below w.heap.size w w':=by
 have L:Hid _:=h;have C:Hid _:=F;have K:=h.bnd;clear h F;refine Qv (n:=16) func104 Z Z Z <| fun a P=>?_
 have hW:=Ye w;replace P:Fr 16 a [(0,.agg #[.int .i64 x.regs,.slice i.pP x.params.length i.cP,.slice i.pC x.code.length i.cC,.int .i64 x.fin.op,.int .i64 x.fin.a,.int .i64 x.fin.yes.block,.slice i.e.pYR x.fin.yes.regs.length i.e.cYR,.slice i.e.pYA x.fin.yes.args.length i.e.cYA,.int .i64 x.fin.no.block,.slice i.e.pNR x.fin.no.regs.length i.e.cNR,.slice i.e.pNA x.fin.no.args.length i.e.cNA,.slice i.e.pA x.fin.args.length i.e.cA])]:=P;refine XW fun K1 U=>rg P fun u=>sB hW Y Z Z <| fun w2 B T hN=>QeF T Y Z <| fun w3 A o hN=>Yb fun a4 h4=>U _ _ <| XW fun K5 N=>rg h4 fun u=>sfBlock1 Y Z Z <| ZW 1 o Y Z Z Z Z ?_
 have l:max A B+1<=w3.heap.size:=by have J:=(o.get 0 Z).lt;have I:=(o.get 1 Z).lt;omega
 refine QkB cf101 o (QbM (QaA x.params _ _ _ (Ya L.out.params o.bel) (by have:=C.out.2.1.1;omega) (fun t V i w h=>cOwnType_any n t i w h (C.out.2.1.2 t V)))) Y Z Z Z ?_;rintro W w7 ⟨p5,c5,rfl,c⟩ j E;replace c:=Yc c (O':=ZJ (max A B+1)) (fun k p _=>Zt l p);clear l j o;refine sfBlock1 Y Z Z <| s1k 1 inf1Types E Z Z Z Z Z Z <| fun w8 b m=>?_
 replace c:=Yd c b (by omega);clear b E;refine Yb fun a9 I=>N _ _ <| XW fun ac G=>rg I fun u=>sfBlock2 Y Z Z <| Qc4 1 m Y Z Z Z Z ?_
 have l:max A B+1<=w8.heap.size:=by have J:=(m.get 0 Z).lt;have I:=(m.get 1 Z).lt;omega
 refine QkB cf136 m (QbM (Qf0 x.code _ _ _ (Ya L.out.code m.bel) (by have:=C.out.1;omega) (fun t V i w h=>QiS (C.out.2.2.2 t V) i w h))) Y Z Z Z ?_;rintro W aa ⟨p9,c9,rfl,f⟩ j y;replace c:=Ya c j;replace f:=Yc f (O':=ZJ (max A B+1)) (fun k p _=>Zt l p);clear l j m;refine sfBlock2 Y Z Z <| s1k 1 inf1Inss y Z Z Z Z Z Z <| fun R b g=>?_
 replace c:=Yd c b (by omega);replace f:=Yd f b (by omega);clear b y;refine Yb fun X Q=>G _ _ <| XW fun af D=>rg Q fun u=>sfBlock3 Y Z Z <| sS 1 9 underlying58 Z infEnd g Y Z Z Z Z ?_
 have l:max A B+1<=R.heap.size:=by have J:=(g.get 0 Z).lt;have I:=(g.get 1 Z).lt;omega
 refine QlR cf138 g (QhJ C.out.2.2.1 _ _ (L.out.fin.below g.bel)) Y Z Z ?_;rintro W ai ⟨O,rfl,d⟩ j z;replace c:=Ya c j;replace f:=Ya f j;replace d:=EIn.mono d (O':=ZJ (max A B+1)) (fun k p _=>Zt l p);clear l j g;refine sfBlock3 Y Z Z <| sTk 1 z Z Z infEnd Z Z Z <| fun ae b s=>?_
 replace c:=Yd c b (by omega);replace f:=Yd f b (by omega);replace d:=EIn.keep1 d b (by omega);clear b z;refine Yb fun ah M=>D _ _ <| XW fun ab H=>rg M fun u=>sS 1 12 underlying60 Z infBlock s Y Z Z Z Z <| sTk 0 s Z Z infBlock Z Z Z <| fun ag b r=>?_
 replace c:=Yd c b (by omega);replace f:=Yd f b (by omega);replace d:=EIn.keep1 d b (by omega);clear b s;refine Yb fun ad S=>H _ _ ?_;refine XA ?_;with_reducible repeat first | refine Qd ?_ | refine Qc ?_
 have q:w.heap.size<=max A B+1:=by have J:=r.new 0 _ Z;simp only at J;omega
 exact QW 0 S r Z Z Z underlying60 Z infBlock ⟨_,Z,⟨⟨p5,c5,p9,c9,O⟩,Z,⟨Yc c (fun k p _=>Zt q p),Yc f (fun k p _=>Zt q p),EIn.mono d (fun k p _=>Zt q p),K⟩⟩,r.bel⟩
theorem Qe1 (x:Qf n) (i:FP) (w:World) (h:FIn w All x i) (F:x.small) :
 Calls prog 59 #[.agg #[.int .i64 x.regs,.slice i.pP x.params.length i.cP,.slice i.pR x.results.length i.cR,.slice i.pB x.blocks.length i.cB]] w fun e w'=>∃ v,e=.returned v/\(∃ i':FP,v=.agg #[.int .i64 x.regs,.slice i'.pP x.params.length i'.cP,.slice i'.pR x.results.length i'.cR,.slice i'.pB x.blocks.length i'.cB]/\FIn w' (ZJ w.heap.size) x i')/\Below w.heap.size w w':=by
 have M:Hid _:=h;have C:Hid _:=F;have L:=h.bnd;clear h F;refine Qv (n:=16) func59 Z Z Z <| fun a P=>?_
 have hW:=Ye w;replace P:Fr 16 a [(0,.agg #[.int .i64 x.regs,.slice i.pP x.params.length i.cP,.slice i.pR x.results.length i.cR,.slice i.pB x.blocks.length i.cB])]:=P;refine XW fun K1 W=>rg P fun u=>sB hW Y Z Z <| fun w2 B U hN=>Qgr U Y Z <| fun w3 A o hN=>Yb fun a4 h4=>W _ _ <| XW fun K5 O=>rg h4 fun u=>sfFunc1 Y Z Z <| ZW 1 o Y Z Z Z Z ?_
 have l:max A B+1<=w3.heap.size:=by have K:=(o.get 0 Z).lt;have J:=(o.get 1 Z).lt;omega
 refine QkB cf101 o (QbM (QaA x.params _ _ _ (Ya M.out.params o.bel) (by have:=C.out.2.1.1;omega) (fun t I i w h=>cOwnType_any n t i w h (C.out.2.1.2 t I)))) Y Z Z Z ?_;rintro X w7 ⟨p5,c5,rfl,c⟩ j E;replace c:=Yc c (O':=ZJ (max A B+1)) (fun k p _=>Zt l p);clear l j o;refine sfFunc1 Y Z Z <| s1k 1 inf1Types E Z Z Z Z Z Z <| fun w8 b m=>?_
 replace c:=Yd c b (by omega);clear b E;refine Yb fun a9 J=>O _ _ <| XW fun ad G=>rg J fun u=>sfFunc2 Y Z Z <| ZW 1 m Y Z Z Z Z ?_
 have l:max A B+1<=w8.heap.size:=by have K:=(m.get 0 Z).lt;have J:=(m.get 1 Z).lt;omega
 refine QkB cf101 m (QbM (QaA x.results _ _ _ (Ya M.out.results m.bel) (by have:=C.out.2.2.1.1;omega) (fun t I i w h=>cOwnType_any n t i w h (C.out.2.2.1.2 t I)))) Y Z Z Z ?_;rintro X ab ⟨p9,c9,rfl,f⟩ j y;replace c:=Ya c j;replace f:=Yc f (O':=ZJ (max A B+1)) (fun k p _=>Zt l p);clear l j m;refine sfFunc2 Y Z Z <| s1k 1 inf1Types y Z Z Z Z Z Z <| fun S b g=>?_
 replace c:=Yd c b (by omega);replace f:=Yd f b (by omega);clear b y;refine Yb fun aa R=>G _ _ <| XW fun ag D=>rg R fun u=>sfFunc3 Y Z Z <| Qcf 1 g Y Z Z Z Z ?_
 have l:max A B+1<=S.heap.size:=by have K:=(g.get 0 Z).lt;have J:=(g.get 1 Z).lt;omega
 refine QkB cf103 g (QbM (Qed x.blocks _ _ _ (Ya M.out.blocks g.bel) (by have:=C.out.1;omega) (fun t I i w h=>Qex t i w h (C.out.2.2.2 t I)))) Y Z Z Z ?_;rintro X aj ⟨Q,V,rfl,d⟩ j z;replace c:=Ya c j;replace f:=Ya f j;replace d:=Yc d (O':=ZJ (max A B+1)) (fun k p _=>Zt l p);clear l j g;refine sfFunc3 Y Z Z <| s1k 1 inf1Blocks z Z Z Z Z Z Z <| fun af b s=>?_
 replace c:=Yd c b (by omega);replace f:=Yd f b (by omega);replace d:=Yd d b (by omega);clear b z;refine Yb fun ai N=>D _ _ <| XW fun ac H=>rg N fun u=>sS 1 4 underlying40 Z infFunc s Y Z Z Z Z <| sTk 0 s Z Z infFunc Z Z Z <| fun ah b r=>?_
 replace c:=Yd c b (by omega);replace f:=Yd f b (by omega);replace d:=Yd d b (by omega);clear b s;refine Yb fun ae T=>H _ _ ?_;refine XA ?_;with_reducible repeat first | refine Qd ?_ | refine Qc ?_
 have q:w.heap.size<=max A B+1:=by have K:=r.new 0 _ Z;simp only at K;omega
 exact QW 0 T r Z Z Z underlying40 Z infFunc ⟨_,Z,⟨⟨p5,c5,p9,c9,Q,V⟩,Z,⟨Yc c (fun k p _=>Zt q p),Yc f (fun k p _=>Zt q p),Yc d (fun k p _=>Zt q p),L⟩⟩,r.bel⟩
theorem Qjk (m:List (Qf n)) (p:Option Addr) (c:Nat) (w:World) (h:(QaH n).In w All m [.slice p m.length c]) (o:Qa7 m) :
 Calls prog 28 #[.agg #[.slice p m.length c]] w fun e w'=>∃ v,e=.returned v/\(∃ a' c',v=.agg #[.slice a' m.length c']/\(QaH n).In w' (ZJ w.heap.size) m [.slice a' m.length c'])/\Below w.heap.size w w':=by
 have J:Hid _:=h;have I:Hid _:=o;clear h o;refine Qv (n:=7) func28 Z Z Z <| fun a z=>?_
 have T:=Ye w;replace z:Fr 7 a [(0,.agg #[.slice p m.length c])]:=z;refine XW fun K1 H=>rg z fun G=>sB T Y Z Z <| fun w2 F E L=>QcU E Y Z <| fun R C b L=>Yb fun a4 P=>H _ _ <| XW fun V x=>rg P fun G=>sfModule0 Y Z Z <| Qbc 1 b Y Z Z Z Z ?_
 have q:max C F+1<=R.heap.size:=by have g:=(b.get 0 Z).lt;have h9:=(b.get 1 Z).lt;omega
 refine QkB cf58 b (QbM (Qfm m _ _ _ (Ya J.out b.bel) (by have:=I.out.1;omega) (fun t U i w h=>Qe1 t i w h (I.out.2 t U)))) Y Z Z Z ?_;rintro v9 Q ⟨u,B,rfl,d⟩ A j;replace d:=Yc d (O':=ZJ (max C F+1)) (fun k y _=>Zt q y);clear q A b;intro M g;refine Zh (t:=6) (v:=.agg #[.slice u m.length B]) (w':=Q) g Z Z Z (fun K S=>?_) ?_
 ·have X:M.tmps[5]?.getD undef=.slice u m.length B:=g.sl2 5 _ Z
  go_simp;exact S
 clear g;intro W s;refine St.go s <| sTk 0 j Z Z infModule Z Z Z <| fun N l f=>?_
 replace d:=Yd d l (by omega);clear l j;refine Yb fun O D=>x _ _ ?_;refine XA ?_;with_reducible repeat first | refine Qd ?_ | refine Qc ?_
 have r:w.heap.size<=max C F+1:=by have g:=f.new 0 _ Z;simp only at g;omega
 exact QW 0 D f Z Z Z underlying24 Z infModule ⟨_,Z,⟨u,B,Z,Yc d (fun k y _=>Zt r y)⟩,f.bel⟩
def Qgv (m:List (Qf 6)) (f b:Int):Bool:=decide (0<=f)&&(match m[f.toNat]? with | none=>false | some g=>decide (0<=b)&&decide (b<(g.blocks.length:Int)))
theorem QhN {m:List (Qf 6)}{f b:Int}(h:Qgv m f b=true):∃ (i j:Nat) (fn:Qf 6) (g:Qe 6),f=(i:Int)/\b=(j:Int)/\m[i]?=some fn/\fn.blocks[j]?=some g:=by
 unfold Qgv at h;simp only[Bool.and_eq_true,decide_eq_true_eq] at h
 obtain⟨c,a⟩:=h
 obtain⟨i,rfl⟩:=Xc c
 rw[XT] at a
 cases e:m[i]? with
 | none=>rw[e] at a;cases a
 | some fn =>
   rw[e] at a
   simp only[Bool.and_eq_true,decide_eq_true_eq] at a
   obtain⟨j,rfl⟩:=Xc a.1
   exact⟨i,j,fn,_,Z,Z,e,Zg (by omega)⟩
theorem Qjh {m:List (Qf 6)}(f b:Int) (k:m.length<=100000) (r:(QaH 6).In w All m [.slice p m.length c]) :
 Calls prog 27 #[.agg #[.slice p m.length c],.int .i64 f,.int .i64 b] w fun e w'=>e=.returned (.bool (Qgv m f b))/\Below w.heap.size w w':=by
 have n:=QU w (.cells #[.slice p m.length c] 24);have d:=Qa n;have s:=Qb (Qm w #[.slice p m.length c] 24) 0 _ Z;by_cases t:0<=f
 rotate_left
 ·have E:Hid (Qgv m f b=false):=by show _=_;unfold Qgv;rw[Xu t];rfl
  have D:decide (f>=0)=false:=Xu t;clear r n;generalize m.length=v at s d;go_enter func27,ntmps27
  go_wp2
  go_ret;exact⟨by rw[E.out];rfl,d.out⟩
 obtain⟨i,rfl⟩:=Xc t
 by_cases u:i<m.length
 rotate_left
 ·have E:Hid (Qgv m (i:Int) b=false):=by show _=_;unfold Qgv;rw[XT,Xk (by omega)];simp
  have h:¬ (i:Int)<m.length:=by omega
  clear r n;generalize m.length=v at s d u h k;go_enter func27,ntmps27
  go_wp2
  go_ret;exact⟨by rw[E.out];rfl,d.out⟩
 have o:m[i]?=some m[i]:=Zg u;generalize m[i]=g at o;obtain⟨z,B,I,J,G,K,H,L,rfl,y,C,A,F,-,-⟩:=Qcv r o
 have x:z<w.heap.size:=Xi w ⟨z,B+i*4,none⟩ y;have E:Hid (Qgv m (i:Int) b=(decide (0<=b)&&decide (b<(g.blocks.length:Int)))):=by show _=_;unfold Qgv;rw[XT,o];simp
 have h:(i:Int)<m.length:=by omega
 clear r n y C A o;generalize m.length=v at s d u h k;generalize g.blocks.length=q at F E;by_cases a:0<=b
 rotate_left
 ·have l:decide (b>=0)=false:=Xu a;rw[show (decide (0<=b)&&decide (b<(q:Int)))=false by rw[Xu a];rfl] at E
  go_enter func27,ntmps27
  go_wp2
  go_ret;exact⟨by rw[E.out];rfl,d.out⟩
 ·have l:decide (b>=0)=true:=Xt a;rw[show (decide (0<=b)&&decide (b<(q:Int)))=decide (b<(q:Int)) by rw[Xt a];rfl] at E
  by_cases j:b<(q:Int)
  ·rw[Xt j] at E
   go_enter func27,ntmps27
   go_wp2
   go_ret;exact⟨by rw[E.out];rfl,d.out⟩
  ·rw[Xu j] at E
   go_enter func27,ntmps27
   go_wp2
   go_ret;exact⟨by rw[E.out];rfl,d.out⟩
theorem Qll {w1:World}(c:cs.length=12) :
 Blk ((w1.alloc (.cells #[.int .i64 0,.slice none 0 0,.slice none 0 0,.int .i64 0,.int .i64 0,.int .i64 0,.slice none 0 0,.slice none 0 0,.int .i64 0,.slice none 0 0,.slice none 0 0,.slice none 0 0] 60)).setCells w1.heap.size 0 cs.toArray.toList) w1.heap.size cs.toArray 60/\Below w1.heap.size w1 ((w1.alloc (.cells #[.int .i64 0,.slice none 0 0,.slice none 0 0,.int .i64 0,.int .i64 0,.int .i64 0,.slice none 0 0,.slice none 0 0,.int .i64 0,.slice none 0 0,.slice none 0 0,.slice none 0 0] 60)).setCells w1.heap.size 0 cs.toArray.toList)/\(w1.alloc (.cells #[.int .i64 0,.slice none 0 0,.slice none 0 0,.int .i64 0,.int .i64 0,.int .i64 0,.slice none 0 0,.slice none 0 0,.int .i64 0,.slice none 0 0,.slice none 0 0,.slice none 0 0] 60)).there w1.heap.size 0 cs.toArray.size:=by
 have a:=Qm w1 #[.int .i64 0,.slice none 0 0,.slice none 0 0,.int .i64 0,.int .i64 0,.int .i64 0,.slice none 0 0,.slice none 0 0,.int .i64 0,.slice none 0 0,.slice none 0 0,.slice none 0 0] 60;refine⟨?_,?_,?_⟩
 ·have d:Blk (w1.alloc (.cells #[.int .i64 0,.slice none 0 0,.slice none 0 0,.int .i64 0,.int .i64 0,.int .i64 0,.slice none 0 0,.slice none 0 0,.int .i64 0,.slice none 0 0,.slice none 0 0,.slice none 0 0] 60)) w1.heap.size ([]++(#[.int .i64 0,.slice none 0 0,.slice none 0 0,.int .i64 0,.int .i64 0,.int .i64 0,.slice none 0 0,.slice none 0 0,.int .i64 0,.slice none 0 0,.slice none 0 0,.slice none 0 0]:Array Value).toList).toArray 60:=a;exact Blk.sets cs [] (#[.int .i64 0,.slice none 0 0,.slice none 0 0,.int .i64 0,.int .i64 0,.int .i64 0,.slice none 0 0,.slice none 0 0,.int .i64 0,.slice none 0 0,.slice none 0 0,.slice none 0 0]:Array Value).toList _ (by rw[c];rfl) d
 ·have:=Zw.setCells (O:=fun k=>k=w1.heap.size) (O':=fun k=>k=w1.heap.size) (b:=w1.heap.size) Z cs.toArray.toList 0 _ (Zw.refl _ (w1.alloc (.cells #[.int .i64 0,.slice none 0 0,.slice none 0 0,.int .i64 0,.int .i64 0,.int .i64 0,.slice none 0 0,.slice none 0 0,.int .i64 0,.slice none 0 0,.slice none 0 0,.slice none 0 0] 60)))
  exact(QU w1 _).trans (this.below (by simp) (fun k e=>by omega))
 ·intro j hj;rw[List.size_toArray,c] at hj
  rw[XK]
  refine⟨?_,Qn a j⟩
  rw[Qb a j ((#[.int .i64 0,.slice none 0 0,.slice none 0 0,.int .i64 0,.int .i64 0,.int .i64 0,.slice none 0 0,.slice none 0 0,.int .i64 0,.slice none 0 0,.slice none 0 0,.slice none 0 0]:Array Value)[j]'hj) (by simp)];rfl
theorem Qau (h:w.ownsRow 0 e s v n xs) (j:Below w.heap.size w w'):w'.ownsRow 0 e s v n xs:=by
 obtain⟨f,i⟩:=h
 refine⟨f,?_⟩
 rcases i with k | ⟨g,a,b,d,l,c,r⟩
 ·exact .inl k
 ·exact .inr ⟨g,a,b,d,l,(j.block g (XC c)).trans c,r⟩
theorem QiE (h:w.ownsRow 0 e s v n xs):∃ a c,v=.slice a n c:=by
 obtain⟨l,i⟩:=h
 rcases i with ⟨j,f⟩|⟨g,d,k,b,m,o,r⟩
 ·exact⟨none,0,by rw[j,f]⟩
 ·exact⟨_,_,b⟩
def Qls (w7:World) (M9 F10 B11 nm cm n1 d1 n2 d2 n3 d3 np cp:Nat) (fr br:Int) (pm p1 p2 p3 pp:Option Addr) (ps:List (TT 6)) (QP:Nat->Prop) (t:Tmp) (v:Value) (w:World):Prop :=
 match ([(39,fun v w=>∃ hh,v=.pointer (some ⟨hh,0,none⟩)/\w7.heap.size<=hh/\Qz w hh (QcY br)),(43,fun v w=>∃ a c ds,v=.slice a np c/\w.ownsRow 0 70 3 (.slice a np c) np ds/\(∀ g,(Value.slice a np c).ownBlock=some g->w7.heap.size<=g)/\(∀ i x,ps[i]?=some x->(Lay.tt 6).In w7 QP x ((ds.drop (i*3)).take 3))),(44,fun v w=>∃ hh a c ds,v=.agg #[.slice pm nm cm,.pointer (some ⟨hh,0,none⟩),.int .i64 fr,.slice p1 n1 d1,.slice p2 n2 d2,.slice p3 n3 d3,.slice a np c]/\w7.heap.size<=hh/\Qz w hh (QcY br)/\w.ownsRow 0 70 3 (.slice a np c) np ds/\(∀ g,(Value.slice a np c).ownBlock=some g->w7.heap.size<=g)/\(∀ i x,ps[i]?=some x->(Lay.tt 6).In w7 QP x ((ds.drop (i*3)).take 3))),(45,fun v w=>∃ B hh a c ds,v=.pointer (some ⟨B,0,none⟩)/\w7.heap.size<=B/\w.heap[B]?=some (.cells #[.slice pm nm cm,.pointer (some ⟨hh,0,none⟩),.int .i64 fr,.slice p1 n1 d1,.slice p2 n2 d2,.slice p3 n3 d3,.slice a np c] 42 (0,0))/\w7.heap.size<=hh/\Qz w hh (QcY br)/\w.ownsRow 0 70 3 (.slice a np c) np ds/\(∀ g,(Value.slice a np c).ownBlock=some g->w7.heap.size<=g)/\(∀ i x,ps[i]?=some x->(Lay.tt 6).In w7 QP x ((ds.drop (i*3)).take 3))),(6,fun v w=>∃ B hh a c ds,v=.pointer (some ⟨B,0,none⟩)/\w7.heap.size<=B/\w.heap[B]?=some (.cells #[.slice pm nm cm,.pointer (some ⟨hh,0,none⟩),.int .i64 fr,.slice p1 n1 d1,.slice p2 n2 d2,.slice p3 n3 d3,.slice a np c] 42 (0,0))/\w7.heap.size<=hh/\Qz w hh (QcY br)/\w.ownsRow 0 70 3 (.slice a np c) np ds/\(∀ g,(Value.slice a np c).ownBlock=some g->w7.heap.size<=g)/\(∀ i x,ps[i]?=some x->(Lay.tt 6).In w7 QP x ((ds.drop (i*3)).take 3)))]:List (Tmp × (Value->World->Prop))).lookup t with
 | some p=>p v w
 | none=>v=(([(9,.pointer (some ⟨M9,0,none⟩)),(10,.pointer (some ⟨F10,0,none⟩)),(11,.pointer (some ⟨B11,0,none⟩)),(36,.agg #[.slice pm nm cm]),(37,.pointer (some ⟨B11,0,none⟩)),(38,.int .i64 br),(40,.agg #[.int .i64 fr,.slice p1 n1 d1,.slice p2 n2 d2,.slice p3 n3 d3]),(41,.pointer (some ⟨B11,1,none⟩)),(42,.slice pp np cp),(46,.agg #[.int .i64 0,.int .i64 0])]:List (Tmp × Value)).lookup t).getD undef
theorem jn9 {d:World}{M9 s D R N S T P f cp:Nat}{F:Int}{I L pp:Option Addr}{H:List (TT 6)}{G:Nat->Prop}(m0:d.cell? ⟨M9,0,none⟩=some (.slice pm R cm)) (f0:d.cell? ⟨s,0,none⟩=some (.int .i64 fr)) (f1:d.cell? ⟨s,1,none⟩=some (.slice p1 n1 d1)) (f2:d.cell? ⟨s,2,none⟩=some (.slice I N S)) (f3:d.cell? ⟨s,3,none⟩=some (.slice L T P)) (y0:d.cell? ⟨D,0,none⟩=some (.int .i64 F)) (y1:d.cell? ⟨D,1,none⟩=some (.slice pp f cp)) (ad:-9223372036854775808<=F/\F<=9223372036854775807) (V:Hid (H.length=f)) (ai:f<=5000) (HP:Hid ((Qi 6).In d G H [.slice pp f cp])) (ag:Hid (∀ (i:Nat) (x:TT 6) (cs:List Value){w:World},H[i]?=some x->(Lay.tt 6).In w G x cs->Below d.heap.size d w->(Lay.tt 6).In d G x cs)){Q:Exit->Act->World->Prop}
 (a:Act) (m:Nat) (hn:a.tmps.size=m) (aj:47<=m) (h9:a.tmps.getD 9 undef=.pointer (some ⟨M9,0,none⟩)) (ah:a.tmps.getD 10 undef=.pointer (some ⟨s,0,none⟩)) (ac:a.tmps.getD 11 undef=.pointer (some ⟨D,0,none⟩))
 (hend:∀ ops vs w',vs 46=.agg #[.int .i64 0,.int .i64 0]->(fun v w=>∃ B hh a c ds,v=.pointer (some ⟨B,0,none⟩)/\d.heap.size<=B/\w.heap[B]?=some (.cells #[.slice pm R cm,.pointer (some ⟨hh,0,none⟩),.int .i64 fr,.slice p1 n1 d1,.slice I N S,.slice L T P,.slice a f c] 42 (0,0))/\d.heap.size<=hh/\Qz w hh (QcY F)/\w.ownsRow 0 70 3 (.slice a f c) f ds/\(∀ g,(Value.slice a f c).ownBlock=some g->d.heap.size<=g)/\(∀ i x,H[i]?=some x->(Lay.tt 6).In d G x ((ds.drop (i*3)).take 3))) (vs 6) w'->Below d.heap.size d w'->wpList prog ops Q (Qdh 12 ((Tryz.f8.body.bind (Qo 9)).getD .skip)) (Zn a vs [36,37,38,39,40,41,42,43,44,45,46,6]) w') :
 Code.wp prog ((Tryz.f8.body.bind (Qo 9)).getD .skip) Q a d:=by
 conv=>arg 2;whnf
 refine Qw 12 (Qls d M9 s D R cm n1 d1 N S T P f cp fr F pm p1 I L pp H G) (fun w=>Below d.heap.size d w) (fun w w'=>Below w.heap.size w w') (outs:=[9,10,11]) (gs:=[]) (bs:=[true,true,true,true,true,true,true,true,true,true,true,true]) (by kernel_rfl) (n:=47) hn aj (by kernel_rfl) (by kernel_rfl) ?hR ?hG (Qg Zr 1) ⟨h9,ah,ac,Y⟩ ?hA ?hend
 case hR =>
  intro t v w w' A h;unfold Qls at h |-;split at h
  ·rename_i p u
   simp only[List.lookup_cons,List.lookup_nil] at u
   split at u
   ·cases u;exact(by obtain⟨hh,e,q,o⟩:=h;exact⟨hh,e,q,o.below A⟩)
   ·split at u
    ·cases u;exact(by obtain⟨a,c,ds,e,q,o,r⟩:=h;exact⟨a,c,ds,e,Qau q A,o,r⟩)
    ·split at u
     ·cases u;exact(by obtain⟨hh,a,c,ds,e,q,o,r,J,U⟩:=h;exact⟨hh,a,c,ds,e,q,o.below A,Qau r A,J,U⟩)
     ·split at u
      ·cases u;exact(by obtain⟨B,hh,a,c,ds,e,E,z,q,o,r,J,U⟩:=h;exact⟨B,hh,a,c,ds,e,E,(A.block B (XC z)).trans z,q,o.below A,Qau r A,J,U⟩)
      ·split at u
       ·cases u;exact(by obtain⟨B,hh,a,c,ds,e,E,z,q,o,r,J,U⟩:=h;exact⟨B,hh,a,c,ds,e,E,(A.block B (XC z)).trans z,q,o.below A,Qau r A,J,U⟩)
       ·cases u
  ·exact h
 case hG=>exact Y
 case hend=>exact fun ops vs w' b k=>hend ops vs w' (k 46 (by kernel_rfl)) (k 6 (by kernel_rfl)) b
 case hA =>
  iterate 3
   refine⟨fun a w b k K l=>?_,?_⟩
   ·obtain⟨j,-⟩:=k
    conv at j=>whnf;rhs;whnf
    have u0:=Qp m0 b;have u1:=Qp y0 b;go_simp;exact l _ _ Zr b Z
  refine⟨fun a w b k K l=>?_,?_⟩
  ·obtain⟨j,-⟩:=k
   conv at j=>whnf;rhs;whnf
   go_simp;refine Xm (QjK _ F ad) ?_;rintro r7 w8 ⟨rfl,ak,C⟩;go_simp;exact l _ _ C (b.trans (C.mono b.size)) ⟨_,Z,b.size,ak⟩
  iterate 3
   refine⟨fun a w b k K l=>?_,?_⟩
   ·obtain⟨j,-⟩:=k
    conv at j=>whnf;rhs;whnf
    have u0:=Qp f0 b;have u1:=Qp f1 b;have u2:=Qp f2 b;have u3:=Qp f3 b;have u4:=Qp y1 b;go_simp;exact l _ _ Zr b Z
  refine⟨fun a w b k K l=>?_,?_⟩
  ·obtain⟨j,-⟩:=k
   conv at j=>whnf;rhs;whnf
   go_simp;refine Xm (Qd0 V.out ai (Ya HP.out b)) ?_;rintro r7 w8 ⟨v8,af,rfl,o1,o2,o3,C⟩;rw[V.out] at o1
   obtain⟨a8,c8,rfl⟩:=QiE o1
   go_simp;exact l _ _ C (b.trans (C.mono b.size)) ⟨a8,c8,af,Z,o1,fun g hg=>Zt b.size (o2 g hg),fun i x hx=>ag.out i x _ hx (o3 i x hx) b⟩
  refine⟨fun a w b k K l=>?_,?_⟩
  ·obtain⟨j,W,k2,X,-⟩:=k
   conv at j=>whnf;rhs;whnf
   have W:(fun v w=>∃ hh,v=.pointer (some ⟨hh,0,none⟩)/\d.heap.size<=hh/\Qz w hh (QcY F)) (a.tmps.getD 39 undef) w:=W;generalize ab:a.tmps.getD 39 undef=an at W;conv at k2=>whnf;rhs;whnf
   have X:(fun v w=>∃ a c ds,v=.slice a f c/\w.ownsRow 0 70 3 (.slice a f c) f ds/\(∀ g,(Value.slice a f c).ownBlock=some g->d.heap.size<=g)/\(∀ i x,H[i]?=some x->(Lay.tt 6).In d G x ((ds.drop (i*3)).take 3))) (a.tmps.getD 43 undef) w:=X;generalize al:a.tmps.getD 43 undef=am at X;obtain⟨hh,rfl,E,z⟩:=W
   obtain⟨M,O,y,rfl,q,o,r⟩:=X
   have j0:a.tmps[36]?.getD undef=.agg #[.slice pm R cm]:=by simpa using j
   have j1:a.tmps[39]?.getD undef=.pointer (some ⟨hh,0,none⟩):=by simpa using ab
   have j2:a.tmps[40]?.getD undef=.agg #[.int .i64 fr,.slice p1 n1 d1,.slice I N S,.slice L T P]:=by simpa using k2
   have j3:a.tmps[43]?.getD undef=.slice M f O:=by simpa using al
   go_simp;exact l _ _ Zr b ⟨hh,M,O,y,Z,E,z,q,o,r⟩
  refine⟨fun a w b k K l=>?_,?_⟩
  ·obtain⟨j,-⟩:=k
   have j:(fun v w=>∃ hh a c ds,v=.agg #[.slice pm R cm,.pointer (some ⟨hh,0,none⟩),.int .i64 fr,.slice p1 n1 d1,.slice I N S,.slice L T P,.slice a f c]/\d.heap.size<=hh/\Qz w hh (QcY F)/\w.ownsRow 0 70 3 (.slice a f c) f ds/\(∀ g,(Value.slice a f c).ownBlock=some g->d.heap.size<=g)/\(∀ i x,H[i]?=some x->(Lay.tt 6).In d G x ((ds.drop (i*3)).take 3))) (a.tmps.getD 44 undef) w:=j;generalize aa:a.tmps.getD 44 undef=ae at j;obtain⟨hh,M,O,y,rfl,E,z,q,o,r⟩:=j
   go_simp;have C:=QU w (.cells #[.slice pm R cm,.pointer (some ⟨hh,0,none⟩),.int .i64 fr,.slice p1 n1 d1,.slice I N S,.slice L T P,.slice M f O] 42);exact l _ _ C (b.trans (C.mono b.size)) ⟨w.heap.size,hh,M,O,y,Z,b.size,Qm _ _ _,E,z.below C,Qau q C,o,r⟩
  refine⟨fun a w b k K l=>?_,?_⟩
  ·clear k;go_simp;exact l _ _ Zr b Z
  refine⟨fun a w b k K l=>?_,?_⟩
  ·obtain⟨j,-⟩:=k
   have j:(fun v w=>∃ B hh a c ds,v=.pointer (some ⟨B,0,none⟩)/\d.heap.size<=B/\w.heap[B]?=some (.cells #[.slice pm R cm,.pointer (some ⟨hh,0,none⟩),.int .i64 fr,.slice p1 n1 d1,.slice I N S,.slice L T P,.slice a f c] 42 (0,0))/\d.heap.size<=hh/\Qz w hh (QcY F)/\w.ownsRow 0 70 3 (.slice a f c) f ds/\(∀ g,(Value.slice a f c).ownBlock=some g->d.heap.size<=g)/\(∀ i x,H[i]?=some x->(Lay.tt 6).In d G x ((ds.drop (i*3)).take 3))) (a.tmps.getD 45 undef) w:=j;generalize aa:a.tmps.getD 45 undef=ae at j;obtain⟨B,hh,M,O,y,rfl,E,z,h0,q,o,r,J⟩:=j
   go_simp;exact l _ _ Zr b ⟨B,hh,M,O,y,Z,E,z,h0,q,o,r,J⟩
  trivial
def QkK (w:World) (m:List (Qf 6)) (f b:Int) (e:Ending) (w':World):Prop :=
 Below w.heap.size w w'/\(((Qj m).1≠0/\e=.returned (.tuple #[.pointer none,QJ (Qj m)])) \/
  ((Qj m).1=0/\Qgv m f b=false/\e=.returned (.tuple #[.pointer none,.agg #[.int .i64 1,.int .i64 (-1)]])) \/
  ((Qj m).1=0/\Qgv m f b=true/\∃ (i j:Nat) (fn:Qf 6) (g:Qe 6) (B:Nat) (O A:Nat->Prop),f=(i:Int)/\b=(j:Int)/\m[i]?=some fn/\fn.blocks[j]?=some g/\e=.returned (.tuple #[.pointer (some ⟨B,0,none⟩),.agg #[.int .i64 0,.int .i64 0]])/\SAt w' B O A (JSt.start m fn g)/\∀ k,A k->w.heap.size<=k/\k<w'.heap.size))
theorem Qjr {m:List (Qf 6)}(f b:Int) (bc:¬ Zd m) (hm:(QaH 6).In w All m [.slice p m.length c]) :
 Calls prog 8 #[.agg #[.slice p m.length c],.int .i64 f,.int .i64 b] w fun e w'=>QkK w m f b e w':=by
 have ak:Qa7 m:=Qah bc;have a4:=Qa ak;have b1:=QU w (.cells #[.slice p m.length c] 24);have b2:=QU (w.alloc (.cells #[.slice p m.length c] 24)) (.cells #[.int .i64 0,.int .i64 0] 30);have bb:=b1.trans (b2.mono b1.size);have HB:=Qa bb;have hX:Blk ((w.alloc (.cells #[.slice p m.length c] 24)).alloc (.cells #[.int .i64 0,.int .i64 0] 30)) w.heap.size #[.slice p m.length c] 24:=(Blk.new _ _ _:Blk (w.alloc (.cells #[.slice p m.length c] 24)) w.heap.size _ _).below b2
 have hR:Blk ((w.alloc (.cells #[.slice p m.length c] 24)).alloc (.cells #[.int .i64 0,.int .i64 0] 30)) (w.heap.size+1) #[.int .i64 0,.int .i64 0] 30:=by
  have:=Blk.new (w.alloc (.cells #[.slice p m.length c] 24)) #[.int .i64 0,.int .i64 0] 30
  simpa using this
 have HX:=Qa hX;have HR:=Qa hR;have HM:=Qa hm;have ax:Hid ((QaH 6).In _ All m [.slice p m.length c]):=Ya hm bb;have cv:m.length<=100000:=ak.1;clear hX hR b1 b2 bb hm ak bc;go_enter func8,ntmps8
 go_upto_region 1 with fail
 generalize (w.alloc (.cells #[.slice p m.length c] 24)).alloc (.cells #[.int .i64 0,.int .i64 0] 30)=w1 at HB HX HR ax |-;obtain⟨X,hX⟩:∃ X,X=w.heap.size:=⟨_,Yz⟩
 obtain⟨R,hR⟩:∃ R,R=X+1:=⟨_,Yz⟩
 rw[<-hX] at HX HR |-
 rw[<-hR] at HR |-
 have c8:=Qa hX;have H:Hid (w.heap.size<=R):=by show _<=_;omega
 have c1:¬ X=R:=by omega
 clear hX hR;have x0:=Qb HX.out 0 _ Yz;have CC:=Qa (Qcu ax.out a4.out);unfold Rd at CC;go_wp2_with fail
 refine CC.out.mono ?_;rintro e2 w2 ⟨rfl,b2⟩;have am:=Qa (HB.out.trans (b2.mono HB.out.size));have bi:=Qa (HX.out.below b2);have au:=Qa (HR.out.below b2);clear b2 CC x0 HX HR HB ax;have b3:=QU w2 (.cells #[.int .i64 (Qj m).1,.int .i64 (Qj m).2] 30);have I:=Qa (am.out.trans (b3.mono am.out.size));have ab:=Qa (bi.out.below b3);have r:=Qa (au.out.below b3);have be:=Blk.new w2 #[.int .i64 (Qj m).1,.int .i64 (Qj m).2] 30;have y:=Qa be;have ci:¬ w2.heap.size=R:=by have:=au.out.lt;omega
 clear b3 be am bi au;go_upto_region 2 with fail
 generalize w2.alloc (.cells #[.int .i64 (Qj m).1,.int .i64 (Qj m).2] 30)=w3 at I ab r y |-;generalize w2.heap.size=F8 at y ci |-;obtain⟨K,a0,ao⟩:∃ K a0,Qj m=(K,a0):=⟨_,_,Yz⟩
 rw[ao] at y |-
 have av:=Qa ao;clear ao;simp only at y |-
 have y0:=Qb y.out 0 _ Yz;have y1:=Qb y.out 1 _ Yz;by_cases ad:K=0
 rotate_left
 ·have cx:(K != 0)=true:=by simpa using ad
  have r0:=Qb r.out 0 _ Yz;have r1:=Qb r.out 1 _ Yz;have z0:=Qn r.out 0;have z1:=Qn r.out 1;have cf:=Qa ad;clear ad;go_upto_region 3 with fail
  go_region
  all_goals
   have L:Blk ((w3.setCell ⟨R,0,none⟩ (.int .i64 K)).setCell ⟨R,1,none⟩ (.int .i64 a0)).drew R #[.int .i64 K,.int .i64 a0] 30:=by
    have h9:Blk ((w3.setCell ⟨R,0,none⟩ (.int .i64 K)).setCell ⟨R,1,none⟩ (.int .i64 a0)) R #[.int .i64 K,.int .i64 a0] 30:=by
     have:=Qq (Qq r.out 0 (.int .i64 K)) 1 (.int .i64 a0)
     simpa using this
    exact h9
   have D3:Below w.heap.size w ((w3.setCell ⟨R,0,none⟩ (.int .i64 K)).setCell ⟨R,1,none⟩ (.int .i64 a0)).drew:=Qcl ((I.out.setCell (p:=⟨R,0,none⟩) H.out _).setCell (p:=⟨R,1,none⟩) H.out _);clear y0 y1 r0 r1 z0 z1;generalize ((w3.setCell ⟨R,0,none⟩ (.int .i64 K)).setCell ⟨R,1,none⟩ (.int .i64 a0)).drew=w9 at L D3 |-;have q0:=Qb L 0 _ Yz;have q1:=Qb L 1 _ Yz;go_wp2
   exact Xy (v:=.tuple #[.pointer none,.agg #[.int .i64 K,.int .i64 a0]]) (by simp[results,results8,go_sem,q0,q1]) Yz ⟨D3,.inl ⟨by rw[av.out];exact cf.out,by rw[av.out]⟩⟩
 subst ad;have x3:=Qb ab.out 0 _ Yz;have CH:=Qa (Qjh f b cv (Ya HM.out I.out));have HZ:Hid ((Qj m).1=0):=by show _=_;rw[av.out]
 clear y1;go_wp2_with fail
 refine CH.out.mono ?_;rintro e4 w4 ⟨rfl,b4⟩;have N:=Qa (I.out.trans (b4.mono I.out.size));have bw:=Qa (ab.out.below b4);have A:=Qa (r.out.below b4);clear b4 CH x3 y0 ab r I y
 cases hhb:Qgv m f b with
 | false =>
   have r0:=Qb A.out 0 _ Yz;have r1:=Qb A.out 1 _ Yz;have z0:=Qn A.out 0;have z1:=Qn A.out 1;have aw:=Qa hhb;clear hhb;go_wp2_with fail
   have L:Blk ((w4.setCell ⟨R,0,none⟩ (.int .i64 1)).setCell ⟨R,1,none⟩ (.int .i64 (-1))) R #[.int .i64 1,.int .i64 (-1)] 30:=by
    have:=Qq (Qq A.out 0 (.int .i64 1)) 1 (.int .i64 (-1))
    simpa using this
   have D3:Below w.heap.size w ((w4.setCell ⟨R,0,none⟩ (.int .i64 1)).setCell ⟨R,1,none⟩ (.int .i64 (-1))):=(N.out.setCell (p:=⟨R,0,none⟩) H.out _).setCell (p:=⟨R,1,none⟩) H.out _;clear r0 r1 z0 z1;generalize (w4.setCell ⟨R,0,none⟩ (.int .i64 1)).setCell ⟨R,1,none⟩ (.int .i64 (-1))=w9 at L D3 |-;have q0:=Qb L 0 _ Yz;have q1:=Qb L 1 _ Yz;exact Xy (v:=.tuple #[.pointer none,.agg #[.int .i64 1,.int .i64 (-1)]]) (by simp[results,results8,go_sem,q0,q1]) Yz ⟨D3,.inr (.inl ⟨HZ.out,aw.out,Yz⟩)⟩
 | true =>
   obtain⟨i,j,a,g,rfl,rfl,T,W⟩:=QhN hhb
   have aw:=Qa hhb;have x4:=Qb bw.out 0 _ Yz;have CO:=Qa (Qjk m p c w4 (Ya HM.out N.out) a4.out);have c5:i<m.length:=(Zi T).1;have bm:(i:Int)<m.length:=by omega
   have c6:j<a.blocks.length:=(Zi W).1;have bl:(j:Int)<a.blocks.length:=by omega
   clear hhb;go_wp2_with fail
   refine CO.out.mono ?_;rintro e5 l ⟨v5,rfl,⟨pm,S,rfl,O⟩,b5⟩;have bj:=Qa (N.out.trans (b5.mono N.out.size));have a9:=Qa (A.out.below b5);have aj:=Qa O;have c7:=a9.out.lt;clear b5 CO x4 bw A N;obtain⟨o,u,ds,e1,e2,e3,U,ar⟩:=Yf O T
   subst e1;obtain⟨p1,d1,p2,d2,p3,d3,rfl,cn,cg,bk,ck⟩:=Z3 ar
   obtain⟨V,M,pp,cp,es,rfl,D,bo,af,ag⟩:=Qas bk W
   have v0:l.cell? ⟨o,u+i*4,none⟩=some (.int .i64 a.regs):=U 0 (by decide);have v1:l.cell? ⟨o,u+i*4+1,none⟩=some (.slice p1 a.params.length d1):=U 1 (by decide);have v2:l.cell? ⟨o,u+i*4+2,none⟩=some (.slice p2 a.results.length d2):=U 2 (by decide);have v3:l.cell? ⟨o,u+i*4+3,none⟩=some (.slice (some ⟨V,M,none⟩) a.blocks.length d3):=U 3 (by decide);have cb:Hid ((ZR 6).In l (ZJ w4.heap.size) a [.int .i64 a.regs,.slice p1 a.params.length d1,.slice p2 a.results.length d2,.slice (some ⟨V,M,none⟩) a.blocks.length d3]):=ar;have ch:Hid ((Qi 6).In l (ZJ w4.heap.size) g.params [.slice pp g.params.length cp]):=af;have cu:=Qa D;have ah:=Qa ag;have C:(Value.int .i64 g.regs::Value.slice pp g.params.length cp::es).length=12:=by simp[bo]
   have bg:=QeY HZ.out;have an:=bg.2 a (Zm T);have ba:=an.blocks g (Zm W);have az:=Qa (Xh an ba);have bn:=Qa (Xh T W);have bh:o<l.heap.size:=Xi l ⟨o,u+i*4,none⟩ v0;clear U ar bk D af ag O cn cg ck e2 e3 bo bg an ba T W;have b6:=QU l (.cells #[.slice (some ⟨o,u,none⟩) m.length S] 24);have b7:=QU (l.alloc (.cells #[.slice (some ⟨o,u,none⟩) m.length S] 24)) (.cells #[.int .i64 a.regs,.slice p1 a.params.length d1,.slice p2 a.results.length d2,.slice (some ⟨V,M,none⟩) a.blocks.length d3] 40);have bx:=b6.trans (b7.mono b6.size);have z:=Qa bx;have bq:Blk ((l.alloc (.cells #[.slice (some ⟨o,u,none⟩) m.length S] 24)).alloc (.cells #[.int .i64 a.regs,.slice p1 a.params.length d1,.slice p2 a.results.length d2,.slice (some ⟨V,M,none⟩) a.blocks.length d3] 40)) l.heap.size #[.slice (some ⟨o,u,none⟩) m.length S] 24:=(Blk.new _ _ _:Blk (l.alloc (.cells #[.slice (some ⟨o,u,none⟩) m.length S] 24)) l.heap.size _ _).below b7
   have a7:Blk ((l.alloc (.cells #[.slice (some ⟨o,u,none⟩) m.length S] 24)).alloc (.cells #[.int .i64 a.regs,.slice p1 a.params.length d1,.slice p2 a.results.length d2,.slice (some ⟨V,M,none⟩) a.blocks.length d3] 40)) (l.heap.size+1) #[.int .i64 a.regs,.slice p1 a.params.length d1,.slice p2 a.results.length d2,.slice (some ⟨V,M,none⟩) a.blocks.length d3] 40:=by
    have:=Blk.new (l.alloc (.cells #[.slice (some ⟨o,u,none⟩) m.length S] 24)) #[.int .i64 a.regs,.slice p1 a.params.length d1,.slice p2 a.results.length d2,.slice (some ⟨V,M,none⟩) a.blocks.length d3] 40
    simpa using this
   have J:=Qa bq;have d:=Qa a7;clear b6 b7 bx bq a7;generalize ce:m.length=nm at J d z bm aj;have bt:=Qa ce;generalize cr:a.blocks.length=nb at v3 d z J bl;have cj:=Qa cr;go_upto_region 8 with fail
   generalize (l.alloc (.cells #[.slice (some ⟨o,u,none⟩) nm S] 24)).alloc (.cells #[.int .i64 a.regs,.slice p1 a.params.length d1,.slice p2 a.results.length d2,.slice (some ⟨V,M,none⟩) nb d3] 40)=w6 at z J d |-;obtain⟨M9,a2⟩:∃ M9,M9=l.heap.size:=⟨_,Yz⟩
   obtain⟨bd,ai⟩:∃ bd,bd=M9+1:=⟨_,Yz⟩
   rw[<-a2] at J d |-
   rw[<-ai] at d |-
   clear a2 ai v0 v1 v2 v3 bh;have f0:=Qb d.out 0 _ Yz;have f1:=Qb d.out 1 _ Yz;have f2:=Qb d.out 2 _ Yz;have f3:=Qb d.out 3 _ Yz;have m0:=Qb J.out 0 _ Yz;have Q:=Qa (ZD cu.out z.out);generalize ay:(Value.int .i64 g.regs::Value.slice pp g.params.length cp::es)=cs at Q C;have b0:=Qa ay;obtain⟨bf,a6,bv⟩:=Qll (w1:=w6) C
   have ac:=Qa bf;have s:=Qa a6;have TH:=Qa bv;have TS:Hid ((prog.info? 60).map (·.size)=some cs.length):=by show _=_;rw[C];exact sizeBk
   have bs:Hid ((prog.info? 60).map (·.size)=some cs.toArray.size):=by show _=_;rw[List.size_toArray];exact TS.out
   have TO:Hid (cs.toArray.all (·.oneCell')=true):=by
    refine all_oneCell_toArray fun v hv=>?_;rw[<-ay] at hv
    simp only[List.mem_cons] at hv
    rcases hv with rfl | rfl | hv
    ·rfl
    ·rfl
    ·exact ah.out v hv
   clear bf a6 bv ay C;go_upto_region 9 with (first | (refine wpList_load_mid Yz 60 (.tmp 34) Yz V (M+j*12) Yz cs _ Q.out underlying60 Yz TS.out ?_) | (refine wpList_store_mid Yz 60 (.tmp 11) (.tmp 35) Yz w6.heap.size 0 cs.toArray Yz Yz TH.out bs.out TO.out ?_))
   clear TH TS bs TO Q;generalize (w6.alloc (.cells #[.int .i64 0,.slice none 0 0,.slice none 0 0,.int .i64 0,.int .i64 0,.int .i64 0,.slice none 0 0,.slice none 0 0,.int .i64 0,.slice none 0 0,.slice none 0 0,.slice none 0 0] 60)).setCells w6.heap.size 0 cs.toArray.toList=E at ac s |-;generalize w6.heap.size=cd at ac |-;have P:Hid (Blk E cd (Value.int .i64 g.regs::Value.slice pp g.params.length cp::es).toArray 60):=by rw[b0.out];exact ac.out
   have y0:=Qb P.out 0 _ Yz;have y1:=Qb P.out 1 _ Yz;have f0:=Qp f0 s.out;have f1:=Qp f1 s.out;have f2:=Qp f2 s.out;have f3:=Qp f3 s.out;have m0:=Qp m0 s.out;have G:=Qa (z.out.trans (s.out.mono z.out.size));have a1:=Qa (bj.out.trans (G.out.mono bj.out.size));have a8:=Qa (a9.out.below G.out);have cw:Hid ((Qi 6).In E (fun k=>k<E.heap.size) g.params [.slice pp g.params.length cp]):=Yc (Ya ch.out G.out) (fun k _ hl=>hl);have cq:Hid (∀ (i:Nat) (x:TT 6) (cs:List Value) {w:World},g.params[i]?=some x->(Lay.tt 6).In w (fun k=>k<E.heap.size) x cs->Below E.heap.size E w->(Lay.tt 6).In E (fun k=>k<E.heap.size) x cs):=fun i x cs w _ h hb=>(Lay.tt 6).keep (fun k n _=>(hb.block k n).symm) (fun _ h _=>h) h;have co:-9223372036854775808<=g.regs/\g.regs<=9223372036854775807:=by have h1:=az.out.2.regs;have h2:=az.out.1.regs;omega
   have ct:g.params.length<=5000:=by have:=az.out.2.params.1;omega
   clear ac P b0 z s J d ah;refine jn9 m0 f0 f1 f2 f3 y0 y1 co (show Hid (g.params.length=g.params.length) from Yz) ct cw cq _ _ Yz (Xg (by kernel_rfl)) Yz Yz Yz ?_;rintro cl vs t ae ⟨B,hh,aa,ca,ds,a3,br,ap,bu,al,aq,bz,b9⟩ b8;show wpList _ cl _ [_] (Zn _ vs [36,37,38,39,40,41,42,43,44,45,46,6]) t;simp only[Zn,Act.put,List.setIfInBounds_toArray,List.set_cons_zero,List.set_cons_succ,ae,a3]
   have F:=Qa (a8.out.below b8);have cc:=Qa (a1.out.trans (b8.mono a1.out.size));have c2:=a8.out.lt;have Z:Hid (∀ w9,Below E.heap.size t w9\/(∀ k,k≠R->w9.heap[k]?=t.heap[k]?)->True):=fun _ _=>trivial
   have ST:Hid (SAt t B (fun k=>E.heap.size<=k/\k<t.heap.size) (fun k=>E.heap.size<=k/\k<t.heap.size) (JSt.start m a g)):=by
    have bp:=G.out.trans (b8.mono G.out.size);have c4:=G.out.size;have cz:=b8.size;refine⟨some ⟨o,u,none⟩,S,hh,p1,d1,p2,d2,some ⟨V,M,none⟩,d3,.slice aa g.params.length ca,?_,?_,?_,⟨al,bu,al.lt⟩,?_,⟨br,XC ap⟩,fun k n=>n⟩
    ·rw[ap]
     show _=some (Obj.cells #[.slice (some ⟨o,u,none⟩) m.length S,_,_,_,_,.slice (some ⟨V,M,none⟩) a.blocks.length d3,_] _ _);rw[bt.out,cj.out];rfl
    ·show (QaH 6).In t _ m [.slice (some ⟨o,u,none⟩) m.length S];have h0:=aj.out;rw[<-bt.out] at h0
     exact(QaH 6).keep (fun k _ hl=>bp.block k hl) (fun k _ hl e=>by omega) h0
    ·exact(ZR 6).keep (fun k _ hl=>bp.block k hl) (fun k _ hl e=>by omega) cb.out
    ·refine⟨ds,aq,fun k n=>⟨bz k n,?_⟩,fun i x hx=>(Lay.tt 6).keep (fun k n _=>b8.block k n) (fun k n _ e=>by omega) (b9 i x hx)⟩
     obtain⟨-,q⟩:=id aq
     rcases q with ⟨e,-⟩|⟨g',cy,c3,e,-,hq,-⟩
     ·rw[e] at n;simp[Value.ownBlock] at n
     ·rw[e] at n;simp[Value.ownBlock] at n;subst n;exact XC hq
   have r0:=Qb F.out 0 _ Yz;have r1:=Qb F.out 1 _ Yz;have z0:=Qn F.out 0;have z1:=Qn F.out 1;clear ae a3 br ap bu al aq bz b9 b8 f0 f1 f2 f3 y0 y1 m0 Z;go_wp2_with fail
   have L:Blk ((t.setCell ⟨R,0,none⟩ (.int .i64 0)).setCell ⟨R,1,none⟩ (.int .i64 0)) R #[.int .i64 0,.int .i64 0] 30:=by
    have:=Qq (Qq F.out 0 (.int .i64 0)) 1 (.int .i64 0)
    simpa using this
   have D3:Below w.heap.size w ((t.setCell ⟨R,0,none⟩ (.int .i64 0)).setCell ⟨R,1,none⟩ (.int .i64 0)):=(cc.out.setCell (p:=⟨R,0,none⟩) H.out _).setCell (p:=⟨R,1,none⟩) H.out _
   have D4:SAt ((t.setCell ⟨R,0,none⟩ (.int .i64 0)).setCell ⟨R,1,none⟩ (.int .i64 0)) B (fun k=>E.heap.size<=k/\k<t.heap.size) (fun k=>E.heap.size<=k/\k<t.heap.size) (JSt.start m a g):=by
    have a5:∀ k,((t.setCell ⟨R,0,none⟩ (.int .i64 0)).setCell ⟨R,1,none⟩ (.int .i64 0)).heap[k]?=t.heap[k]?:=fun k=>by
     by_cases n:k=R
     ·subst n;exact L.trans F.out.symm
     ·rw[Xd _ _ _ _ n,Xd _ _ _ _ n]
    exact ST.out.keep (fun k _ _=>a5 k) (fun _ h _=>h) (fun _ h _=>h) (fun _ h=>h)
   have D5:∀ k,(E.heap.size<=k/\k<t.heap.size)->w.heap.size<=k/\k<((t.setCell ⟨R,0,none⟩ (.int .i64 0)).setCell ⟨R,1,none⟩ (.int .i64 0)).heap.size:=fun k n=>by
    have:=a1.out.size
    simp
    omega
   clear r0 r1 z0 z1;generalize (t.setCell ⟨R,0,none⟩ (.int .i64 0)).setCell ⟨R,1,none⟩ (.int .i64 0)=w9 at L D3 D4 D5 |-;have q0:=Qb L 0 _ Yz;have q1:=Qb L 1 _ Yz;exact Xy (v:=.tuple #[.pointer (some ⟨B,0,none⟩),.agg #[.int .i64 0,.int .i64 0]]) (by simp[results,results8,go_sem,q0,q1]) Yz ⟨D3,.inr (.inr ⟨HZ.out,aw.out,i,j,a,g,B,_,_,Yz,Yz,bn.out.1,bn.out.2,Yz,D4,D5⟩)⟩
def SOk (w:World) (b B0:Nat) (s:JSt):Prop:=∃ O A,SAt w b O A s/\(∀ k,A k->B0<=k/\k<w.heap.size)/\JOk s
section
variable {w w':World}{b B0:Nat}{s:JSt}
theorem SOk.below (h:SOk w b B0 s) (k:Below w.heap.size w w'):SOk w' b B0 s:=by
 obtain⟨O,A,e,c,f⟩:=h
 exact⟨O,A,e.below k,fun d a=>⟨(c d a).1,Zl (c d a).2 k.size⟩,f⟩
theorem SOk.ok (h:SOk w b B0 s):JOk s:=by obtain⟨O,A,c,d,a⟩:=h;exact a
theorem SOk.lt (h:SOk w b B0 s):b<w.heap.size:=by obtain⟨O,A,a,d,c⟩:=h;exact a.lt
theorem STo.ok {d:JSt}(h:STo w w' b O A d) (f:∀ k,A k->B0<=k/\k<w.heap.size) (j:∀ k,O k->A k) (m:B0<=w.heap.size) (l:JOk d):SOk w' b B0 d/\Below B0 w w':=by
 obtain⟨N,g,i,c⟩:=h
 have e:=c.size;refine⟨⟨_,_,i,fun k a=>?_,l⟩,⟨c.os,c.tape,c.output,c.size,fun k a=>c.block k (by omega) (fun e=>by have:=f k (j k e);omega)⟩⟩
 rcases a with a | a
 ·have:=f k a;omega
 ·have:=g k a;omega
theorem SOk.ins (h:SOk w b B0 s) (o:B0<=w.heap.size){x:QC}{g:Option Addr}(a:intsL.In w Q x.regs [.slice g x.regs.length rc]) (c:intsL.In w Q x.args [.slice ag x.args.length ac]) (f:x.regs.length<=rc) (d:ZZ x) :
 Calls prog 12 #[.pointer (some ⟨b,0,none⟩),Qa9 x g ag rc ac] w fun e w'=>e=.returned (.int .i64 (s.code x))/\SOk w' b B0 (s.ins x)/\Below B0 w w':=by
 obtain⟨O,A,i,j,l⟩:=h
 refine(Qgw (fun k n=>(j k n).2) l i a c f d).mono ?_
 rintro e w' ⟨rfl,m⟩;exact⟨Z,m.ok j i.sub o (l.ins x)⟩
theorem SOk.end_ (h:SOk w b B0 s){x:MEnd}{e:EP}(f:Qce w Q x e) (c:-9223372036854775808<=x.a/\x.a<=9223372036854775807) (j:x.yes.regs.length<2305843009213693952/\x.yes.args.length<2305843009213693952/\x.no.regs.length<2305843009213693952/\x.no.args.length<2305843009213693952) :
 Calls prog 24 #[.pointer (some ⟨b,0,none⟩),.agg (QaE x e)] w fun r w'=>r=.returned (.int .i64 (s.fin x))/\Below w.heap.size w w':=by
 obtain⟨O,A,d,i,l⟩:=h
 exact QjF (fun k g=>(i k g).2) l d f c j
theorem SOk.types (h:SOk w b B0 s):Calls prog 9 #[.pointer (some ⟨b,0,none⟩)] w fun e w'=>Qb7 w w' s.L e:=by
 obtain⟨O,A,c,f,a⟩:=h
 exact QgQ a.vals (fun x d=>Zt (Zz (a.types x d)) (by omega)) c
theorem SOk.held (h:SOk w b B0 s):∃ hh,w.cell? ⟨b,1,none⟩=some (.pointer (some ⟨hh,0,none⟩))/\Qz w hh s.H:=by
 obtain⟨O,A,a,f,d⟩:=h
 obtain⟨e,l,hh,j,k,c,g,i,o,n,m,R⟩:=a.read
 exact⟨hh,R.cells.2.1,R.held⟩
end
def Qje (w:World) (b B0 T T2:Nat) (s:JSt):Prop:=∃ O A,SAt w b O A s/\(∀ k,A k->B0<=k/\(k<T\/T2<=k)/\k<w.heap.size)/\T2<=w.heap.size/\JOk s
section
variable {w w':World}{b B0 T T2:Nat}{s:JSt}
theorem Qje.below (h:Qje w b B0 T T2 s) (k:Below w.heap.size w w'):Qje w' b B0 T T2 s:=by
 obtain⟨O,A,d,a,f,e⟩:=h
 exact⟨O,A,d.below k,fun j c=>⟨(a j c).1,(a j c).2.1,Zl (a j c).2.2 k.size⟩,Zt f k.size,e⟩
theorem Qje.more (h:Qje w b B0 T w.heap.size s) (k:Below w.heap.size w w'):Qje w' b B0 T w'.heap.size s:=by
 obtain⟨O,A,d,a,f,e⟩:=h
 exact⟨O,A,d.below k,fun j c=>⟨(a j c).1,.inl (by have:=a j c;omega),Zl (a j c).2.2 k.size⟩,Ze,e⟩
structure QlZ (w w':World) (B0 T T2:Nat):Prop where
 bel:Below B0 w w'
 top:∀ k,T<=k->k<T2->w'.heap[k]?=w.heap[k]?
theorem Qje.ins (h:Qje w b B0 T T2 s) (q:B0<=w.heap.size){x:QC}{m:Option Addr}(c:intsL.In w Q x.regs [.slice m x.regs.length rc]) (d:intsL.In w Q x.args [.slice ag x.args.length ac]) (j:x.regs.length<=rc) (f:ZZ x) :
 Calls prog 12 #[.pointer (some ⟨b,0,none⟩),Qa9 x m ag rc ac] w fun e w'=>e=.returned (.int .i64 (s.code x))/\Qje w' b B0 T T2 (s.ins x)/\QlZ w w' B0 T T2:=by
 obtain⟨O,A,i,g,u,l⟩:=h
 refine(Qgw (fun k a=>(g k a).2.2) l i c d j f).mono ?_
 rintro e w' ⟨rfl,o⟩;obtain⟨N,p,r,n⟩:=id o
 obtain⟨-,t⟩:=o.ok (B0:=B0) (fun k a=>⟨(g k a).1,(g k a).2.2⟩) i.sub q (l.ins x)
 have e:=n.size;refine⟨Z,⟨_,_,r,fun k a=>?_,Zt u e,l.ins x⟩,t,fun k a v=>n.block k (by omega) (fun e=>by have:=(g k (i.sub k e)).2.1;omega)⟩
 rcases a with a | a
 ·have:=g k a;omega
 ·have:=p k a;omega
end
abbrev QaM (g:Qe 6) (p1 p2:Option Addr) (d1 d2:Nat) (e:EP):Array Value:=#[.int .i64 g.regs,.slice p1 g.params.length d1,.slice p2 g.code.length d2,.int .i64 g.fin.op,.int .i64 g.fin.a,.int .i64 g.fin.yes.block,.slice e.pYR g.fin.yes.regs.length e.cYR,.slice e.pYA g.fin.yes.args.length e.cYA,.int .i64 g.fin.no.block,.slice e.pNR g.fin.no.regs.length e.cNR,.slice e.pNA g.fin.no.args.length e.cNA,.slice e.pA g.fin.args.length e.cA]
theorem Qke {m:List (Qf 6)}{fn:Qf 6}{g:Qe 6}(a:m[f]?=some fn) (c:fn.blocks[b]?=some g):Qgv m (f:Int) (b:Int)=true:=by
 have:=(Zi c).1
 simp[Qgv,a,this]
theorem ZP (h:Blk w R #[.int .i64 0,.int .i64 0] 30) (c a:Int):Blk ((w.setCell ⟨R,0,none⟩ (.int .i64 c)).setCell ⟨R,1,none⟩ (.int .i64 a)) R #[.int .i64 c,.int .i64 a] 30:=by
 have:=Qq (Qq h 0 (.int .i64 c)) 1 (.int .i64 a)
 simpa using this
theorem vsizeEnd:(prog.info? 58).map (·.size)=some 9:=by kernel_rfl
theorem Qhq {m:List (Qf 6)}{fn:Qf 6}{g:Qe 6}{u:Option Addr}{F:Nat}{e:EP}(ak:(Qj m).1=0) (G:¬ Zd m) (au:(QaH 6).In w All (outl m) [.slice p m.length c]) (ac:m[f]?=some fn) (aa:fn.blocks[b]?=some g) (I:insC.list.In w All g.code [.slice u g.code.length F]) (af:Qce w All g.fin e) (a1:-9223372036854775808<=g.fin.a/\g.fin.a<=9223372036854775807) :
 Calls prog 41 #[.agg #[.slice p m.length c],.int .i64 (f:Int),.int .i64 (b:Int),.agg (QaM g p1 u d1 F e)] w fun r w'=>r=.returned (QJ (QB (10000*(f:Int)+100*(b:Int)) g.fin (JSt.start m fn g) 0 g.code))/\Below w.heap.size w w':=by
 have a9:=Qa ak;have bc:=Qa G;have bf:=Qa au;have ap:=Qa ac;have aw:=Qa aa;have ao:=Qa I;have av:=Qa af;have bh:=Qa a1;have ad:fn∈m:=Zm ac;have an:g∈fn.blocks:=Zm aa;have ae:Hid (¬ g.great):=fun h=>G (.inr ⟨fn,ad,.inr (.inr (.inr ⟨g,an,h⟩))⟩)
 have a8:Hid (JOk (JSt.start m fn g).outl):=by
  have:=JOk.start (Qge ak) (QdY G) (f:=fn.outl) (b:=g.outl) (List.mem_map_of_mem ad) (List.mem_map_of_mem an)
  rw[QgW] at this
  exact this
 have bj:g.code.length<=200:=Xo fun h=>ae.out (.inl h);have bk:f<1000:=by have h1:=(Zi ac).1;have h2:m.length<=20:=Xo fun x=>G (.inl x);omega
 have bn:b<1000:=by have h1:=(Zi aa).1;have h2:fn.blocks.length<=30:=Xo fun x=>G (.inr ⟨fn,ad,.inl x⟩);omega
 have b1:=QU w (.cells #[.slice p m.length c] 24);have W:=QU (w.alloc (.cells #[.slice p m.length c] 24)) (.cells (QaM g p1 u d1 F e) 60);have b3:=QU ((w.alloc (.cells #[.slice p m.length c] 24)).alloc (.cells (QaM g p1 u d1 F e) 60)) (.cells #[.int .i64 0,.int .i64 0] 30)
 have V:Hid (Below w.heap.size w (((w.alloc (.cells #[.slice p m.length c] 24)).alloc (.cells (QaM g p1 u d1 F e) 60)).alloc (.cells #[.int .i64 0,.int .i64 0] 30))):=by
  have h:=W.trans (b3.mono W.size);exact b1.trans (h.mono b1.size)
 have s1:(w.alloc (.cells #[.slice p m.length c] 24)).heap.size=w.heap.size+1:=World.size_alloc ..;have s2:((w.alloc (.cells #[.slice p m.length c] 24)).alloc (.cells (QaM g p1 u d1 F e) 60)).heap.size=w.heap.size+1+1:=(World.size_alloc ..).trans (by rw[s1])
 have BM:Hid (Blk (((w.alloc (.cells #[.slice p m.length c] 24)).alloc (.cells (QaM g p1 u d1 F e) 60)).alloc (.cells #[.int .i64 0,.int .i64 0] 30)) w.heap.size #[.slice p m.length c] 24) :=
  Blk.below (Blk.below (Blk.new w #[.slice p m.length c] 24) W) b3
 have BX:Hid (Blk (((w.alloc (.cells #[.slice p m.length c] 24)).alloc (.cells (QaM g p1 u d1 F e) 60)).alloc (.cells #[.int .i64 0,.int .i64 0] 30)) (w.heap.size+1) (QaM g p1 u d1 F e) 60):=by
  have:=Blk.below (Blk.new (w.alloc (.cells #[.slice p m.length c] 24)) (QaM g p1 u d1 F e) 60) b3
  rw[s1] at this
  exact this
 have BR:Hid (Blk (((w.alloc (.cells #[.slice p m.length c] 24)).alloc (.cells (QaM g p1 u d1 F e) 60)).alloc (.cells #[.int .i64 0,.int .i64 0] 30)) (w.heap.size+1+1) #[.int .i64 0,.int .i64 0] 30):=by
  have:=Blk.new ((w.alloc (.cells #[.slice p m.length c] 24)).alloc (.cells (QaM g p1 u d1 F e) 60)) #[.int .i64 0,.int .i64 0] 30
  rw[s2] at this
  exact this
 clear b1 W b3 s1 s2 ad an ak G au ac aa I af a1;go_enter func41,ntmps41
 go_upto_region 1 with fail
 generalize ((w.alloc (.cells #[.slice p m.length c] 24)).alloc (.cells (QaM g p1 u d1 F e) 60)).alloc (.cells #[.int .i64 0,.int .i64 0] 30)=o at V BM BX BR |-;obtain⟨X,hX⟩:∃ X,X=w.heap.size:=⟨_,Z⟩
 obtain⟨X2,ar⟩:∃ X2,X2=X+1:=⟨_,Z⟩
 obtain⟨R,hR⟩:∃ R,R=X2+1:=⟨_,Z⟩
 have H:Hid (w.heap.size<=R):=by show _<=_;omega
 rw[<-hX] at BM BX BR |-
 rw[<-ar] at BX BR |-
 rw[<-hR] at BR |-
 clear hX ar hR;have x0:=Qb BM.out 0 _ Z;have CN:=Qa (Qjr (w:=o) (m:=outl m) (p:=p) (c:=c) (f:Int) (b:Int) (QdY bc.out) (by rw[Qbs];exact Ya bf.out V.out));rw[Qbs] at CN
 go_wp2_with fail
 refine CN.out.mono ?_;rintro e2 w2 ⟨W,a7⟩;have bg:Hid (o.heap.size<=w2.heap.size):=W.size;rcases a7 with ⟨hf,rfl⟩|⟨-,ax,rfl⟩|⟨-,-,i,j,bl,g',B,O,A,hi,hj,aj,ah,rfl,hS,hA⟩
 ·exact absurd (Qge a9.out) hf
 ·rw[Qke (fn:=fn.outl) (g:=g.outl) (by rw[Qey,ap.out];rfl) (by rw[Qi5,aw.out];rfl)] at ax
  cases ax
 have ba:f=i:=by omega
 have bi:b=j:=by omega
 subst ba bi;rw[Qey,ap.out] at aj
 cases aj
 rw[Qi5,aw.out] at ah
 cases ah
 have b3:=QU w2 (.cells #[.int .i64 0,.int .i64 0] 30)
 have S3:Hid (SOk (w2.alloc (.cells #[.int .i64 0,.int .i64 0] 30)) B o.heap.size ((JSt.start m fn g).upto (g.code.take 0)).outl) :=
  SOk.below ⟨O,A,hS,hA,a8.out⟩ b3
 have B3:Hid (Below o.heap.size o (w2.alloc (.cells #[.int .i64 0,.int .i64 0] 30))):=W.trans (b3.mono W.size);have F3:Hid (Blk (w2.alloc (.cells #[.int .i64 0,.int .i64 0] 30)) w2.heap.size #[.int .i64 0,.int .i64 0] 30):=Blk.new _ _ _;clear W b3 hS hA CN bg hi hj;go_upto_region 2 with fail
 generalize w2.alloc (.cells #[.int .i64 0,.int .i64 0] 30)=w3 at S3 B3 F3 |-;generalize w2.heap.size=F9 at F3 |-;have f0:=Qb F3.out 0 _ Z;have y2:w3.cell? ⟨X2,2,none⟩=some (.slice u g.code.length F):=Qp (Qb BX.out 2 _ Z) B3.out;clear x0;go_wp2_with fail
 clear f0 y2;go_loopw [29] (fun i wr=>∃ z:Nat,z<=g.code.length/\i=.int .i64 z/\SOk wr B o.heap.size ((JSt.start m fn g).upto (g.code.take z)).outl/\Below o.heap.size o wr/\∀ j y,j<z->g.code[j]?=some y->((JSt.start m fn g).upto (g.code.take j)).code y=0) (fun i _=>g.code.length - (intOf i).toNat)
 case atStart=>exact⟨0,Xb _,Z,S3.out,B3.out,fun j y hj=>absurd hj (XG _)⟩
 case round =>
  obtain⟨z,hz,rfl,hs,hb,ag⟩:=hrel
  have SR:=Qa hs;have q:=Qa hb;have L:=Qa ag;clear hs hb ag S3 B3 F3;obtain⟨l,a5⟩:∃ l,l=wr:=⟨_,Z⟩
  subst a5;by_cases bd:z<g.code.length
  rotate_left
  ·have a3:¬ (z:Int)<g.code.length:=by omega
   have a2:g.code.take z=g.code:=XO (by omega);rw[a2] at SR
   have RE:Hid (l.rangeAt X2 3 (QaE g.fin e).toList):=fun j v hj=>by
    have:(QaM g p1 u d1 F e)[3+j]?=some v:=by
     rw[<-Array.getElem?_toList,Nat.add_comm]
     exact hj
    exact Qp (Qb BX.out (3+j) v this) q.out
   have a0:Hid (300>=g.fin.yes.regs.length/\300>=g.fin.yes.args.length/\300>=g.fin.no.regs.length/\300>=g.fin.no.args.length):=by
    have h:=ae.out;unfold Qe.great at h;simp only[not_or,Nat.not_lt] at h
    exact⟨h.2.2.2.1,h.2.2.2.2.1,h.2.2.2.2.2.1,h.2.2.2.2.2.2.1⟩
   have CE:Hid (Calls prog 24 #[.pointer (some ⟨B,0,none⟩),.agg (QaE g.fin e).toList.toArray] l fun r w'=>r=.returned (.int .i64 (((JSt.start m fn g).upto g.code).fin g.fin))/\Below l.heap.size l w'):=by
    have:=SR.out.end_ ((av.out.below V.out).below q.out) bh.out (by have:=a0.out;omega)
    rw[Qjq] at this
    exact this
   have BE:Hid (QB (10000*(f:Int)+100*(b:Int)) g.fin (JSt.start m fn g) 0 g.code=if ((JSt.start m fn g).upto g.code).fin g.fin≠0 then (((JSt.start m fn g).upto g.code).fin g.fin,10000*(f:Int)+100*(b:Int)+91) else (0,0)):=QcF fun j y hj hy=>L.out j y (by omega) hy;clear a0 a2;generalize ((JSt.start m fn g).upto g.code).fin g.fin=D at CE BE;go_wp2_with (refine wpList_load_mid Z 58 (.tmp 47) Z X2 3 Z (QaE g.fin e).toList _ RE.out underlying58 Z vsizeEnd ?_)
   refine CE.out.mono ?_;rintro e9 w9 ⟨rfl,b9⟩;have U:Hid (Below o.heap.size o w9):=q.out.trans (b9.mono q.out.size);clear b9 q CE RE SR;by_cases al:D=0
   ·subst al;have E:Hid (QB (10000*(f:Int)+100*(b:Int)) g.fin (JSt.start m fn g) 0 g.code=(0,0)):=by show _=_;rw[BE.out];rfl
    clear BE;have t:Hid (Blk w9 R #[.int .i64 0,.int .i64 0] 30):=Blk.below BR.out U.out;have r0:=Qb t.out 0 _ Z;have r1:=Qb t.out 1 _ Z;have z0:=Qn t.out 0;have z1:=Qn t.out 1;have N:Hid (Blk ((w9.setCell ⟨R,0,none⟩ (.int .i64 0)).setCell ⟨R,1,none⟩ (.int .i64 0)) R #[.int .i64 0,.int .i64 0] 30):=ZP t.out _ _;have BL:Hid (Below w.heap.size w ((w9.setCell ⟨R,0,none⟩ (.int .i64 0)).setCell ⟨R,1,none⟩ (.int .i64 0))):=((V.out.trans (U.out.mono V.out.size)).setCell H.out _).setCell H.out _;go_wp2_with fail
    generalize (w9.setCell ⟨R,0,none⟩ (.int .i64 0)).setCell ⟨R,1,none⟩ (.int .i64 0)=ay at N BL |-;have e0:=Qb N.out 0 _ Z;have e1:=Qb N.out 1 _ Z;exact Xy (v:=.agg #[.int .i64 0,.int .i64 0]) (by simp[results,results41,go_sem,e0,e1]) Z ⟨by rw[E.out],BL.out⟩
   ·have aq:(D != 0)=true:=by simpa using al
    have E:Hid (QB (10000*(f:Int)+100*(b:Int)) g.fin (JSt.start m fn g) 0 g.code=(D,10000*(f:Int)+100*(b:Int)+91)):=by
     show _=_;rw[BE.out,Xs al]
    have CA:=Qa (QdX (f:=f) (b:=b) (w:=w9) ⟨by omega,by omega⟩);unfold Rd at CA;clear BE;go_wp2_with fail
    refine CA.out.mono ?_;rintro be d ⟨rfl,J⟩;have T:Hid (Below o.heap.size o d):=U.out.trans (J.mono U.out.size);clear J U CA;generalize 10000*(f:Int)+100*(b:Int)+91=S at E |-;have t:Hid (Blk d R #[.int .i64 0,.int .i64 0] 30):=Blk.below BR.out T.out;have r0:=Qb t.out 0 _ Z;have r1:=Qb t.out 1 _ Z;have z0:=Qn t.out 0;have z1:=Qn t.out 1;have N:Hid (Blk ((d.setCell ⟨R,0,none⟩ (.int .i64 D)).setCell ⟨R,1,none⟩ (.int .i64 S)) R #[.int .i64 D,.int .i64 S] 30):=ZP t.out _ _;have BL:Hid (Below w.heap.size w ((d.setCell ⟨R,0,none⟩ (.int .i64 D)).setCell ⟨R,1,none⟩ (.int .i64 S))):=((V.out.trans (T.out.mono V.out.size)).setCell H.out _).setCell H.out _;go_wp2_with fail
    generalize (d.setCell ⟨R,0,none⟩ (.int .i64 D)).setCell ⟨R,1,none⟩ (.int .i64 S)=ay at N BL |-;have e0:=Qb N.out 0 _ Z;have e1:=Qb N.out 1 _ Z;exact Xy (v:=.agg #[.int .i64 D,.int .i64 S]) (by simp[results,results41,go_sem,e0,e1]) Z ⟨by rw[E.out],BL.out⟩
  have a3:(z:Int)<g.code.length:=by omega
  have ab:g.code[z]?=some g.code[z]:=Zg bd;generalize g.code[z]=x at ab;have am:=Qa ab;obtain⟨cg,co,ds,rfl,-,-,s,K⟩:=Yf (Ya (Ya ao.out V.out) q.out) ab
  have ai:=QjE K;obtain⟨xa,xc,xb,xd,rfl,P,Q,az,-⟩:=Qe9 K
  have u0:l.cell? ⟨cg,co+z*8,none⟩=some (.int .i64 x.op):=s 0 (by decide);have u1:l.cell? ⟨cg,co+z*8+1,none⟩=some (.int .i64 x.a):=s 1 (by decide);have u2:l.cell? ⟨cg,co+z*8+2,none⟩=some (.int .i64 x.b):=s 2 (by decide);have u3:l.cell? ⟨cg,co+z*8+3,none⟩=some (.int .i64 x.c):=s 3 (by decide);have u4:l.cell? ⟨cg,co+z*8+4,none⟩=some (.int .i64 x.k):=s 4 (by decide);have u5:l.cell? ⟨cg,co+z*8+5,none⟩=some (.int .i64 x.n):=s 5 (by decide);have u6:l.cell? ⟨cg,co+z*8+6,none⟩=some (.slice xa x.regs.length xc):=s 6 (by decide);have u7:l.cell? ⟨cg,co+z*8+7,none⟩=some (.slice xb x.args.length xd):=s 7 (by decide);have b4:=QU l (.cells #[.int .i64 x.op,.int .i64 x.a,.int .i64 x.b,.int .i64 x.c,.int .i64 x.k,.int .i64 x.n,.slice xa x.regs.length xc,.slice xb x.args.length xd] 46);have M:Hid (Blk (l.alloc (.cells #[.int .i64 x.op,.int .i64 x.a,.int .i64 x.b,.int .i64 x.c,.int .i64 x.k,.int .i64 x.n,.slice xa x.regs.length xc,.slice xb x.args.length xd] 46)) l.heap.size #[.int .i64 x.op,.int .i64 x.a,.int .i64 x.b,.int .i64 x.c,.int .i64 x.k,.int .i64 x.n,.slice xa x.regs.length xc,.slice xb x.args.length xd] 46):=Blk.new _ _ _;have B4:Hid (Below o.heap.size o (l.alloc (.cells #[.int .i64 x.op,.int .i64 x.a,.int .i64 x.b,.int .i64 x.c,.int .i64 x.k,.int .i64 x.n,.slice xa x.regs.length xc,.slice xb x.args.length xd] 46))):=q.out.trans (b4.mono q.out.size)
  have CI:Hid (Calls prog 12 #[.pointer (some ⟨B,0,none⟩),Qa9 x xa xb xc xd] (l.alloc (.cells #[.int .i64 x.op,.int .i64 x.a,.int .i64 x.b,.int .i64 x.c,.int .i64 x.k,.int .i64 x.n,.slice xa x.regs.length xc,.slice xb x.args.length xd] 46)) fun r w'=>r=.returned (.int .i64 (((JSt.start m fn g).upto (g.code.take z)).code x))/\SOk w' B o.heap.size (((JSt.start m fn g).upto (g.code.take z)).ins x).outl/\Below o.heap.size (l.alloc (.cells #[.int .i64 x.op,.int .i64 x.a,.int .i64 x.b,.int .i64 x.c,.int .i64 x.k,.int .i64 x.n,.slice xa x.regs.length xc,.slice xb x.args.length xd] 46)) w'):=by
   have:=(SR.out.below b4).ins B4.out.size (Ya P b4) (Ya Q b4) az ai
   rw[Qe4,Qjl] at this
   exact this
  clear s K P Q az ab ai b4 q SR;go_upto_region 7 with fail
  generalize l.alloc (.cells #[.int .i64 x.op,.int .i64 x.a,.int .i64 x.b,.int .i64 x.c,.int .i64 x.k,.int .i64 x.n,.slice xa x.regs.length xc,.slice xb x.args.length xd] 46)=w4 at M B4 CI |-;generalize l.heap.size=bm at M |-;clear u0 u1 u2 u3 u4 u5 u6 u7;have t0:=Qb M.out 0 _ Z;have t1:=Qb M.out 1 _ Z;have t2:=Qb M.out 2 _ Z;have t3:=Qb M.out 3 _ Z;have t4:=Qb M.out 4 _ Z;have t5:=Qb M.out 5 _ Z;have t6:=Qb M.out 6 _ Z;have t7:=Qb M.out 7 _ Z;go_wp2_with fail
  refine CI.out.mono ?_;rintro e9 w9 ⟨rfl,a4,b9⟩;have S9:=Qa a4;have U:Hid (Below o.heap.size o w9):=B4.out.trans b9;clear t0 t1 t2 t3 t4 t5 t6 t7 CI M B4 a4 b9;by_cases C:((JSt.start m fn g).upto (g.code.take z)).code x=0
  ·have E:Hid (((JSt.start m fn g).upto (g.code.take z)).ins x=(JSt.start m fn g).upto (g.code.take (z+1))):=by
    show _=_;rw[XV,am.out]
    show _=(JSt.start m fn g).upto (g.code.take z++[x]);rw[JSt.upto_snoc]
    unfold JSt.ins;rw[Xs C]
   have a6:=Qa C;rw[C]
   clear C;go_wp2_with fail
   go_roundw
   case rel =>
    refine⟨z+1,by omega,by go_num,by rw[<-E.out];exact S9.out,U.out,fun j y hj hy=>?_⟩
    by_cases bb:j<z
    ·exact L.out j y bb hy
    ·have:j=z:=by omega
     subst this;rw[am.out] at hy
     cases hy
     exact a6.out
   case measure=>simp[intOf];omega
  ·have E:Hid (QB (10000*(f:Int)+100*(b:Int)) g.fin (JSt.start m fn g) 0 g.code=(((JSt.start m fn g).upto (g.code.take z)).code x,10000*(f:Int)+100*(b:Int)+(z:Int))):=QcK am.out L.out C;clear S9;generalize ((JSt.start m fn g).upto (g.code.take z)).code x=D at E C |-;have aq:(D != 0)=true:=by simpa using C
   have CA:=Qa (QdW (f:=f) (b:=b) (i:=z) (w:=w9) ⟨by omega,by omega,by omega⟩);unfold Rd at CA;go_wp2_with fail
   refine CA.out.mono ?_;rintro be d ⟨rfl,J⟩;have T:Hid (Below o.heap.size o d):=U.out.trans (J.mono U.out.size);clear J U CA;generalize 10000*(f:Int)+100*(b:Int)+(z:Int)=S at E |-;have t:Hid (Blk d R #[.int .i64 0,.int .i64 0] 30):=Blk.below BR.out T.out;have r0:=Qb t.out 0 _ Z;have r1:=Qb t.out 1 _ Z;have z0:=Qn t.out 0;have z1:=Qn t.out 1;have N:Hid (Blk ((d.setCell ⟨R,0,none⟩ (.int .i64 D)).setCell ⟨R,1,none⟩ (.int .i64 S)) R #[.int .i64 D,.int .i64 S] 30):=ZP t.out _ _;have BL:Hid (Below w.heap.size w ((d.setCell ⟨R,0,none⟩ (.int .i64 D)).setCell ⟨R,1,none⟩ (.int .i64 S))):=((V.out.trans (T.out.mono V.out.size)).setCell H.out _).setCell H.out _;go_wp2_with fail
   generalize (d.setCell ⟨R,0,none⟩ (.int .i64 D)).setCell ⟨R,1,none⟩ (.int .i64 S)=ay at N BL |-;have e0:=Qb N.out 0 _ Z;have e1:=Qb N.out 1 _ Z;exact Xy (v:=.agg #[.int .i64 D,.int .i64 S]) (by simp[results,results41,go_sem,e0,e1]) Z ⟨by rw[E.out],BL.out⟩
structure QbJ {α:Type}(A:Lay α) (e:TypeId) (w:World) (a0 lo:Nat) (v:Value) (l:List α) (xs:List Value):Prop where
 own:w.ownsRow lo e A.size v l.length xs
 kids:∀ (i:Nat) (x:α),l[i]?=some x->A.In w (fun g=>(g<a0\/lo<=g)/\v.ownBlock≠some g) x ((xs.drop (i*A.size)).take A.size)
section
variable {α:Type}{A:Lay α}{e:TypeId}{w w':World}{a0 lo:Nat}{v:Value}{l:List α}{xs:List Value}
theorem QbJ.nil (A:Lay α) (e:TypeId) (w:World) (a0 a:Nat):QbJ A e w a0 a (.slice none 0 0) [] []:=⟨⟨by simp,Or.inl ⟨Z,Z⟩⟩,fun i x h=>by simp at h⟩
theorem QbJ.lo_le (h:QbJ A e w a0 lo v l xs)(a:v.ownBlock=some g):lo<=g/\g<w.heap.size:=by
 obtain⟨⟨k,c⟩,n⟩:=h
 rcases c with ⟨rfl,m⟩|⟨j,f,i,rfl,b,d,r⟩
 ·simp[Value.ownBlock] at a
 ·simp[Value.ownBlock] at a;subst a;exact⟨b,XC d⟩
theorem QbJ.form (h:QbJ A e w a0 lo v l xs):∃ a c,v=.slice a l.length c:=by
 obtain⟨⟨j,b⟩,k⟩:=h
 rcases b with ⟨rfl,d⟩|⟨g,f,i,rfl,r⟩
 ·exact⟨none,0,by rw[d]⟩
 ·exact⟨_,_,Z⟩
theorem QbJ.keep (h:QbJ A e w a0 lo v l xs) (c:∀ k,k<w.heap.size->(k<a0\/lo<=k)->w'.heap[k]?=w.heap[k]?):QbJ A e w' a0 lo v l xs:=by
 obtain⟨⟨n,p⟩,j⟩:=h
 refine⟨⟨n,?_⟩,fun i x o=>A.keep (fun k m q=>c k q m.1) (fun _ h _=>h) (j i x o)⟩
 rcases p with s | ⟨g,b,a,e,d,f,r⟩
 ·exact Or.inl s
 ·exact Or.inr ⟨g,b,a,e,d,(c g (XC f) (.inr d)).trans f,r⟩
theorem QbJ.below (h:QbJ A e w a0 lo v l xs) (b:Below w.heap.size w w'):QbJ A e w' a0 lo v l xs:=h.keep fun k a _=>b.block k a
theorem QbJ.setOther (h:QbJ A e w a0 lo v l xs){p:Addr}(b:a0<=p.block/\p.block<lo) (y:Value):QbJ A e (w.setCell p y) a0 lo v l xs :=
 h.keep fun k a c=>Xd _ _ _ _ (by omega)
theorem QbJ.lay (h:QbJ A e w a0 lo v l xs):A.list.In w (fun g=>g<a0\/lo<=g) l [v]:=by
 obtain⟨⟨B,r⟩,o⟩:=h
 rcases r with ⟨rfl,u⟩|⟨g,c,b,rfl,s,m,t,z,C,y⟩
 ·have:l=[]:=Xf.1 u
  subst this;exact Yg A _ _ _ _
 ·refine⟨some ⟨g,0,none⟩,c,Z,fun i x f=>⟨g,0,_,Z,.inr s,XC m,fun j n=>?_,Yc (o i x f) (fun k q _=>q.1)⟩⟩
  have p:i<l.length:=(Zi f).1
  have d:i*A.size+j<l.length*A.size:=by
   have:(i+1)*A.size<=l.length*A.size:=Xp _ p
   rw[Nat.add_mul] at this
   omega
  rw[XR,Xs n,List.getElem?_drop,<-y,XR,Xs d,XK]
  have a:i*A.size+j<b.size:=by
   have:l.length*A.size<=c*A.size:=Xp _ t
   omega
  rw[Array.getElem?_toList]
  exact(Qb m _ b[i*A.size+j] (Xj a)).trans (Xj a).symm
theorem QbJ.push (h:QbJ A e w a0 lo v l xs) (C:a0<=w.heap.size){x:α}(o:A.In w (fun g=>(g<a0\/lo<=g)/\v.ownBlock≠some g) x ds)
  (B:w.grownBy w' v.ownBlock) (j:v.ownBlock=some g\/g=w.heap.size)
 (t:w'.ownsRow lo e A.size (.slice (some ⟨g,0,none⟩) (l.length+1) cap) (l.length+1) (xs++ds)) :
 QbJ A e w' a0 lo (.slice (some ⟨g,0,none⟩) (l.length+1) cap) (l++[x]) (xs++ds):=by
 obtain⟨u,s⟩:=h
 have f:=u.1;have r:=A.len o
 have b:∀ {y:α} {es:List Value},A.In w (fun g=>(g<a0\/lo<=g)/\v.ownBlock≠some g) y es->A.In w' (fun d=>(d<a0\/lo<=d)/\(Value.slice (some ⟨g,0,none⟩) (l.length+1) cap).ownBlock≠some d) y es:=fun a=>by
  refine A.keep (fun k c q=>?_) (fun k c q=>⟨c.1,?_⟩) a
  ·exact B.block k q (fun e=>c.2 e.symm)
  ·simp only[Value.ownBlock,ne_eq,Option.some.injEq]
   intro e;subst e;rcases j with p | p
   ·exact c.2 p
   ·omega
 refine⟨by rw[List.length_append];exact t,fun i y a=>?_⟩
 rw[List.getElem?_append] at a
 split at a
 ·rename_i n
  have z:(i+1)*A.size<=l.length*A.size:=Xp _ n;rw[Nat.add_mul] at z
  have:=s i y a
  rw[List.drop_append_of_le_length (by omega),List.take_append_of_le_length (by simp;omega)]
  exact b this
 ·rename_i n
  have m:i=l.length:=by
   have:=(Zi a).1
   simp at this
   omega
  subst m;simp at a
  subst a;rw[List.drop_append,List.drop_of_length_le (by omega),<-f,Nat.sub_self,List.drop_zero,List.nil_append,XO (by omega)]
  exact b o
end
theorem Qlz {b:List Value}(h:b.all (·.oneCell')=true):∀ u∈b,u.oneCell'=true:=Xe.1 h
theorem ret_end :endL.In w O retE [.int .i64 3,.int .i64 0,.int .i64 0,.slice none 0 0,.slice none 0 0,.int .i64 0,.slice none 0 0,.slice none 0 0,.slice none 0 0]:=by
 have a:intsL.In w O ([]:List Int) [.slice none 0 0]:=Yg _ _ _ _ _;have b:toL.In w O (⟨0,[],[]⟩:MTo) [.int .i64 0,.slice none 0 0,.slice none 0 0]:=⟨[_],_,Z,⟨Z,by decide⟩,[_],_,Z,a,a⟩;exact⟨[_],_,Z,⟨Z,by simp[retE]⟩,[_],_,Z,⟨Z,by simp[retE]⟩,[_,_,_],_,Z,b,[_,_,_],_,Z,b,a⟩
theorem QiC {g:Qe 6}{e:Option Addr}{f:Nat}(h:(Qi 6).In w O g.params [.slice e g.params.length f]) (i:-9223372036854775808<=g.regs/\g.regs<=9223372036854775807):(Zy 6).In w O g.outl [.int .i64 g.regs,.slice e g.params.length f,.slice none 0 0,.int .i64 3,.int .i64 0,.int .i64 0,.slice none 0 0,.slice none 0 0,.int .i64 0,.slice none 0 0,.slice none 0 0,.slice none 0 0] :=
 QgG (x:=g.outl) (a:=e) (c:=f) (b:=none) (d:=0) h (Yg _ _ _ _ _) ret_end i
theorem QhC {m:List (Qe 6)}(h:(Zy 6).list.In w Q m [.slice p n c]){g:Qe 6}(d:m[k]?=some g):-9223372036854775808<=g.regs/\g.regs<=9223372036854775807:=by
 obtain⟨r,u,v,q,j,f,e,b⟩:=Yf h d
 obtain⟨x,y,i,t,s,rfl,l,o,z,a⟩:=Qct b
 exact a
theorem Qgy {α β:Type}{f:α->β}{l:List α}{x:α}(h:l[k]?=some x):(l.take (k+1)).map f=(l.take k).map f++[f x]:=by
 rw[XV,h];simp
theorem Qhy {m:List (Qf 6)}(hm:(QaH 6).In w All m [.slice p m.length c]) (au:Qa7 m) :
 Calls prog 40 #[.agg #[.slice p m.length c]] w fun e w'=>∃ a c',e=.returned (.agg #[.slice a m.length c'])/\(QaH 6).In w' All (outl m) [.slice a m.length c']/\Below w.heap.size w w':=by
 have HM:=Qa hm;have cb:=Qa au;have cl:m.length<=100000:=au.1;obtain⟨iB,cc,bg,a6,bb⟩:=pInfoB
 obtain⟨iF,ch,a8,a7,bp⟩:=pInfoF
 have b1:=QU w (.cells #[.slice p m.length c] 24);have b2:=QU (w.alloc (.cells #[.slice p m.length c] 24)) (.cells #[.slice none 0 0] 24);have b3:=QU ((w.alloc (.cells #[.slice p m.length c] 24)).alloc (.cells #[.slice none 0 0] 24)) (.cells #[.slice none 0 0] 24)
 have B0:Hid (Below w.heap.size w (((w.alloc (.cells #[.slice p m.length c] 24)).alloc (.cells #[.slice none 0 0] 24)).alloc (.cells #[.slice none 0 0] 24))):=by
  have h:=b2.trans (b3.mono b2.size);exact b1.trans (h.mono b1.size)
 have s1:(w.alloc (.cells #[.slice p m.length c] 24)).heap.size=w.heap.size+1:=World.size_alloc ..;have s2:((w.alloc (.cells #[.slice p m.length c] 24)).alloc (.cells #[.slice none 0 0] 24)).heap.size=w.heap.size+1+1:=(World.size_alloc ..).trans (by rw[s1]);have s3:(((w.alloc (.cells #[.slice p m.length c] 24)).alloc (.cells #[.slice none 0 0] 24)).alloc (.cells #[.slice none 0 0] 24)).heap.size=w.heap.size+1+1+1:=(World.size_alloc ..).trans (by rw[s2])
 have BM:Hid (Blk (((w.alloc (.cells #[.slice p m.length c] 24)).alloc (.cells #[.slice none 0 0] 24)).alloc (.cells #[.slice none 0 0] 24)) w.heap.size #[.slice p m.length c] 24) :=
  Blk.below (Blk.below (Blk.new w #[.slice p m.length c] 24) b2) b3
 have BR:Hid (Blk (((w.alloc (.cells #[.slice p m.length c] 24)).alloc (.cells #[.slice none 0 0] 24)).alloc (.cells #[.slice none 0 0] 24)) (w.heap.size+1) #[.slice none 0 0] 24):=by
  have:=Blk.below (Blk.new (w.alloc (.cells #[.slice p m.length c] 24)) #[.slice none 0 0] 24) b3
  rw[s1] at this
  exact this
 have BO:Hid (Blk (((w.alloc (.cells #[.slice p m.length c] 24)).alloc (.cells #[.slice none 0 0] 24)).alloc (.cells #[.slice none 0 0] 24)) (w.heap.size+1+1) #[.slice none 0 0] 24):=by
  have:=Blk.new ((w.alloc (.cells #[.slice p m.length c] 24)).alloc (.cells #[.slice none 0 0] 24)) #[.slice none 0 0] 24
  rw[s2] at this
  exact this
 have a0:=Qa s3;clear b1 b2 b3 s1 s2 s3 hm au;go_enter func40,ntmps40
 go_upto_region 2 with fail
 generalize ((w.alloc (.cells #[.slice p m.length c] 24)).alloc (.cells #[.slice none 0 0] 24)).alloc (.cells #[.slice none 0 0] 24)=z at B0 BM BR BO a0 |-;obtain⟨X,hX⟩:∃ X,X=w.heap.size:=⟨_,Z⟩
 obtain⟨R,hR⟩:∃ R,R=X+1:=⟨_,Z⟩
 obtain⟨t,bn⟩:∃ t,t=R+1:=⟨_,Z⟩
 have P:Hid (w.heap.size<=R/\R<t/\t<z.heap.size):=by have:=a0.out;exact⟨by omega,by omega,by omega⟩
 rw[<-hX] at BM BR BO |-
 rw[<-hR] at BR BO |-
 rw[<-bn] at BO |-
 clear hX hR bn a0;have x0:=Qb BM.out 0 _ Z;go_wp2_with fail
 clear x0;go_loopw [13] (fun i wr=>∃ (k:Nat) (v:Value) (D:List Value),k<=m.length/\i=.int .i64 k/\Blk wr t #[v] 24/\QbJ (ZR 6) 40 wr w.heap.size z.heap.size v ((m.take k).map Qf.outl) D/\Chg t z wr) (fun i _=>m.length - (intOf i).toNat)
 case atStart=>exact⟨0,_,[],Xb _,Z,BO.out,QbJ.nil _ _ _ _ _,Chg.refl _ _⟩
 case round =>
  obtain⟨k,vF,cF,hk,rfl,bv,r,az⟩:=hrel
  obtain⟨l,cj⟩:∃ l,l=wr:=⟨_,Z⟩
  subst cj;have a2:=Qa bv;have an:=Qa az;have L:=Qa r;have H:Hid (Below w.heap.size w l):=Chg.last B0.out az (by have:=P.out;omega) B0.out.size;obtain⟨o,d,b0⟩:=r.form
  have ab:((m.take k).map Qf.outl).length=k:=by simp;omega
  rw[ab] at b0
  subst b0;clear bv r az BO;by_cases bk:k<m.length
  rotate_left
  ·have bu:¬ (k:Int)<m.length:=by omega
   have bz:k=m.length:=by omega
   have y0:=Qb a2.out 0 _ Z;have ay:Hid (Blk l R #[.slice none 0 0] 24):=BR.out.chg an.out (by have:=P.out;omega);have r0:=Qb ay.out 0 _ Z;have z0:=Qn ay.out 0
   have RB:Hid (Blk (l.setCell ⟨R,0,none⟩ (.slice o k d)) R #[.slice o k d] 24):=by
    have h9:Blk (l.setCell ⟨R,0,none⟩ (.slice o k d)) R #[.slice o k d] 24:=by
     have:=Qq ay.out 0 (.slice o k d)
     simpa using this
    exact h9
   have BL:Hid (Below w.heap.size w (l.setCell ⟨R,0,none⟩ (.slice o k d))):=H.out.setCell P.out.1 _
   have LY:Hid ((QaH 6).In (l.setCell ⟨R,0,none⟩ (.slice o k d)) All (outl m) [.slice o k d]):=by
    have h:=(L.out.setOther (p:=⟨R,0,none⟩) (by have:=P.out;exact⟨this.1,by show R<_;omega⟩) (.slice o k d)).lay;rw[XO (by omega)] at h
    exact Yc h (fun _ _ _=>trivial)
   have bt:=Qa bz;clear bz ab;go_wp2_with fail
   generalize l.setCell ⟨R,0,none⟩ (.slice o k d)=cn at RB BL LY |-;have e0:=Qb RB.out 0 _ Z;exact Xy (v:=.agg #[.slice o k d]) (by simp[results,results40,go_sem,e0]) Z ⟨o,d,by rw[bt.out],by rw[<-bt.out];exact LY.out,BL.out⟩
  have bu:(k:Int)<m.length:=by omega
  have ad:m[k]?=some m[k]:=Zg bk;generalize m[k]=f at ad;have ca:=Qa ad;obtain⟨mg,mo,ds,rfl,-,-,af,bl⟩:=Yf HM.out ad
  obtain⟨E,B,A,C,T,W,rfl,ao,ar,bo,bm⟩:=Z3 bl
  have v0:l.cell? ⟨mg,mo+k*4,none⟩=some (.int .i64 f.regs):=Qp (show w.cell? ⟨mg,mo+k*4,none⟩=_ from af 0 (by decide)) H.out;have v1:l.cell? ⟨mg,mo+k*4+1,none⟩=some (.slice E f.params.length B):=Qp (show w.cell? ⟨mg,mo+k*4+1,none⟩=_ from af 1 (by decide)) H.out;have v2:l.cell? ⟨mg,mo+k*4+2,none⟩=some (.slice A f.results.length C):=Qp (show w.cell? ⟨mg,mo+k*4+2,none⟩=_ from af 2 (by decide)) H.out;have v3:l.cell? ⟨mg,mo+k*4+3,none⟩=some (.slice T f.blocks.length W):=Qp (show w.cell? ⟨mg,mo+k*4+3,none⟩=_ from af 3 (by decide)) H.out;have bh:Hid ((Qi 6).In w (fun g=>g<w.heap.size) f.params [.slice E f.params.length B]):=Yc ao (fun k _ N=>N);have bf:Hid ((Qi 6).In w (fun g=>g<w.heap.size) f.results [.slice A f.results.length C]):=Yc ar (fun k _ N=>N);have b4:Hid ((Zy 6).list.In w (fun g=>g<w.heap.size) f.blocks [.slice T f.blocks.length W]):=Yc bo (fun k _ N=>N);have ci:=Qa bm;have cm:f.blocks.length<=100000:=(cb.out.2 f (Zm ad)).1;have b5:=QU l (.cells #[.int .i64 f.regs,.slice E f.params.length B,.slice A f.results.length C,.slice T f.blocks.length W] 40);have BF:Hid (Blk (l.alloc (.cells #[.int .i64 f.regs,.slice E f.params.length B,.slice A f.results.length C,.slice T f.blocks.length W] 40)) l.heap.size #[.int .i64 f.regs,.slice E f.params.length B,.slice A f.results.length C,.slice T f.blocks.length W] 40):=Blk.new _ _ _;have bd:Hid (Blk (l.alloc (.cells #[.int .i64 f.regs,.slice E f.params.length B,.slice A f.results.length C,.slice T f.blocks.length W] 40)) t #[.slice o k d] 24):=a2.out.below b5;have bi:Hid (QbJ (ZR 6) 40 (l.alloc (.cells #[.int .i64 f.regs,.slice E f.params.length B,.slice A f.results.length C,.slice T f.blocks.length W] 40)) w.heap.size z.heap.size (.slice o k d) ((m.take k).map Qf.outl) cF):=L.out.below b5;have bw:Hid (Chg t z (l.alloc (.cells #[.int .i64 f.regs,.slice E f.params.length B,.slice A f.results.length C,.slice T f.blocks.length W] 40))):=an.out.allocP _;have F:Hid (Below w.heap.size w (l.alloc (.cells #[.int .i64 f.regs,.slice E f.params.length B,.slice A f.results.length C,.slice T f.blocks.length W] 40))):=H.out.trans (b5.mono H.out.size);have a9:Hid (∀ g,(Value.slice o k d).ownBlock=some g->z.heap.size<=g/\g<l.heap.size):=fun g hg=>L.out.lo_le hg;have S5:Hid (l.heap.size<(l.alloc (.cells #[.int .i64 f.regs,.slice E f.params.length B,.slice A f.results.length C,.slice T f.blocks.length W] 40)).heap.size):=BF.out.lt;have S1:Hid (z.heap.size<=l.heap.size):=an.out.size;clear af bl ao ar bo bm b5 a2 L an H ad;go_upto_region 5 with fail
  generalize l.alloc (.cells #[.int .i64 f.regs,.slice E f.params.length B,.slice A f.results.length C,.slice T f.blocks.length W] 40)=M at BF bd bi bw F S5 |-;generalize l.heap.size=XF at BF S5 a9 S1 |-;clear v0 v1 v2 v3;have t3:=Qb BF.out 3 _ Z;go_wp2_with fail
  clear t3;go_loopw [6,20] (fun v u wq=>∃ (q:Nat) (D:List Value),q<=f.blocks.length/\u=.int .i64 q/\QbJ (Zy 6) 60 wq w.heap.size M.heap.size v ((f.blocks.take q).map Qe.outl) D/\Below M.heap.size M wq) (fun _ u _=>f.blocks.length - (intOf u).toNat)
  case atStart=>exact⟨0,[],Xb _,Z,QbJ.nil _ _ _ _ _,Zr⟩
  case round =>
   obtain⟨q,cB,hq,rfl,r,bq⟩:=hrel
   obtain⟨wq,cf⟩:∃ wq,wq=wr:=⟨_,Z⟩
   subst cf;have ai:=Qa r;have BQ:=Qa bq;obtain⟨U,V,bs⟩:=r.form
   have al:((f.blocks.take q).map Qe.outl).length=q:=by simp;omega
   rw[al] at bs
   subst bs;clear r bq;by_cases a5:q<f.blocks.length
   rotate_left
   ·have aq:¬ (q:Int)<f.blocks.length:=by omega
    have cg:q=f.blocks.length:=by omega
    subst cg;have ah:Hid (Blk wq t #[.slice o k d] 24):=bd.out.below BQ.out;have ak:Hid (Blk wq XF #[.int .i64 f.regs,.slice E f.params.length B,.slice A f.results.length C,.slice T f.blocks.length W] 40):=BF.out.below BQ.out;have aw:Hid (QbJ (ZR 6) 40 wq w.heap.size z.heap.size (.slice o k d) ((m.take k).map Qf.outl) cF):=bi.out.below BQ.out;have ax:Hid (Chg t z wq):=bw.out.trans (Chg.below BQ.out);have I:Hid (Below w.heap.size w wq):=F.out.trans (BQ.out.mono F.out.size)
    have FN:Hid ((ZR 6).In wq (fun g=>(g<w.heap.size\/z.heap.size<=g)/\(Value.slice o k d).ownBlock≠some g) f.outl [.int .i64 f.regs,.slice E f.params.length B,.slice A f.results.length C,.slice U f.blocks.length V]):=by
     have o1:=a9.out;have o2:=S5.out;have o3:=P.out;have o4:=S1.out;have a4:f.outl.blocks.length=f.blocks.length:=QgK f;have hb:=ai.out.lay;rw[XO Ze] at hb
     have ck:(Zy 6).list.In wq (fun g=>(g<w.heap.size\/z.heap.size<=g)/\(Value.slice o k d).ownBlock≠some g) f.outl.blocks [.slice U f.outl.blocks.length V]:=by
      rw[a4]
      exact Yc hb (fun j hj N=>⟨by rcases hj with hj | hj;exact .inl hj;exact .inr (by omega),fun e=>by have:=o1 j e;rcases hj with hj | hj<;>omega⟩)
     have:=QhM (x:=f.outl) (Yc (Ya bh.out I.out) (fun j hj N=>⟨.inl hj,fun e=>by have:=o1 j e;omega⟩)) (Yc (Ya bf.out I.out) (fun j hj N=>⟨.inl hj,fun e=>by have:=o1 j e;omega⟩)) ck ci.out
     rw[a4] at this
     exact this
    have G:Hid (wq.ownsRow z.heap.size 40 4 (.slice o k d) k cF):=by
     have:=aw.out.own
     rw[ab] at this
     exact this
    have PU:Hid (∀ g n y,y.ownsRow z.heap.size 40 4 (.slice (some ⟨g,0,none⟩) (k+1) n) (k+1) (cF++[.int .i64 f.regs,.slice E f.params.length B,.slice A f.results.length C,.slice U f.blocks.length V])->(wq.alloc (.cells #[.int .i64 f.regs,.slice E f.params.length B,.slice A f.results.length C,.slice U f.blocks.length V] 40)).grownBy y (Value.slice o k d).ownBlock->((Value.slice o k d).ownBlock=some g\/g=wq.heap.size+1) ->
     QbJ (ZR 6) 40 (y.setCell ⟨t,0,none⟩ (.slice (some ⟨g,0,none⟩) (k+1) n)) w.heap.size z.heap.size (.slice (some ⟨g,0,none⟩) (k+1) n) ((m.take (k+1)).map Qf.outl) (cF++[.int .i64 f.regs,.slice E f.params.length B,.slice A f.results.length C,.slice U f.blocks.length V])/\Blk y t #[.slice o k d] 24/\Chg t z (y.setCell ⟨t,0,none⟩ (.slice (some ⟨g,0,none⟩) (k+1) n))/\Blk (y.setCell ⟨t,0,none⟩ (.slice (some ⟨g,0,none⟩) (k+1) n)) t #[.slice (some ⟨g,0,none⟩) (k+1) n] 24):=by
     intro g n y h1 h2 h3;have b6:Below wq.heap.size wq (wq.alloc (.cells #[.int .i64 f.regs,.slice E f.params.length B,.slice A f.results.length C,.slice U f.blocks.length V] 40)):=QU _ _;have A5:=aw.out.below b6;have T5:=Ya FN.out b6;have o3:=P.out;have A9:=QbJ.push A5 (by have:=(I.out.trans (b6.mono I.out.size)).size;exact this) T5 h2 (by simpa using h3) (by rw[ab];exact h1);rw[ab,<-Qgy ca.out] at A9
     have C9:Chg t z y:=Chg.grownP (ax.out.trans (Chg.below b6)) h2 (fun k hk=>(A5.lo_le hk).1);have K9:Blk y t #[.slice o k d] 24:=((h2.block t (Zl ah.out.lt b6.size) (fun e=>by have:=(A5.lo_le e.symm).1;omega)).trans (ah.out.below b6));refine⟨A9.setOther ⟨by show w.heap.size<=t;omega,by show t<_;omega⟩ _,K9,C9.trans (Chg.set _ _ _ K9.lt),?_⟩
     have:=Qq K9 0 (.slice (some ⟨g,0,none⟩) (k+1) n)
     simpa using this
    have cd:z.heap.size<=wq.heap.size:=ax.out.size;have y0:=Qb ah.out 0 _ Z;have f0:=Qb ak.out 0 _ Z;have f1:=Qb ak.out 1 _ Z;have f2:=Qb ak.out 2 _ Z;clear ah ak aw ax I FN ai BQ;generalize f.params.length=lp at PU f1 |-;generalize f.results.length=lr at PU f2 |-;generalize f.blocks.length=lb at PU aq f0 f1 f2 |-;generalize f.regs=rr at PU f0 |-;go_wp2_with (at_builtin;refine wpList_append_lies _ Z (.tmp 35) (.tmp 44) 22 Z z.heap.size 40 iF (.agg #[.int .i64 0,.slice none 0 0,.slice none 0 0,.slice none 0 0]) 4 80 pUnderF ch a8 a7 bp Z (by decide) _ _ _ Z (G.out.alloc _) ⟨wq.heap.size,0,none⟩ 1 1 [.int .i64 rr,.slice E lp B,.slice A lr C,.slice U lb V] Z Z (QeJ _ [_,_,_,_] _) (Qlz Z) (by decide) (by unfold maxLen;omega) (by omega) (by simp;omega) (wq.heap.size+1) (by simp) ?_)
    intro g2 ae y h1 s ag ac;obtain⟨q1,q2,q3,q4⟩:=PU.out g2 ae y h1 s ag
    have A9:=Qa q1;have K9:=Qa q2;have C9:=Qa q3;have N9:=Qa q4;have y9:=Qb q2 0 _ Z;have z9:=Qn q2 0;clear h1 s ag ac G PU q1 q2 q3 q4 y0 f0 f1 f2;go_wp2
    go_roundw
    case rel=>exact⟨k+1,_,_,bk,by go_num,N9.out,A9.out,C9.out⟩
    case measure=>simp[intOf];omega
   have aq:(q:Int)<f.blocks.length:=by omega
   have aa:f.blocks[q]?=some f.blocks[q]:=Zg a5;generalize f.blocks[q]=g at aa;have ce:=Qa aa;have b9:=Qa (QhC b4.out aa);obtain⟨eg,eo,S,c1,es,rfl,K,br,be,ap⟩:=Qas b4.out aa
   have bj:=Qa be;have I:Hid (Below w.heap.size w wq):=F.out.trans (BQ.out.mono F.out.size);have a3:Hid (wq.rangeAt eg (eo+q*12) (Value.int .i64 g.regs::Value.slice S g.params.length c1::es)):=ZD K I.out;generalize am:(Value.int .i64 g.regs::Value.slice S g.params.length c1::es)=D at a3;have N:D.length=12:=by rw[<-am];simp[br]
   have TS:Hid ((prog.info? 60).map (·.size)=some D.length):=by show _=_;rw[N];exact pSizeB
   have TH:Hid ((wq.alloc (.cells #[.int .i64 0,.slice none 0 0,.slice none 0 0,.int .i64 0,.int .i64 0,.int .i64 0,.slice none 0 0,.slice none 0 0,.int .i64 0,.slice none 0 0,.slice none 0 0,.slice none 0 0] 60)).there wq.heap.size 0 D.toArray.size):=by
    intro j hj;rw[List.size_toArray,N] at hj
    rw[XK]
    have hB:=Qm wq #[.int .i64 0,.slice none 0 0,.slice none 0 0,.int .i64 0,.int .i64 0,.int .i64 0,.slice none 0 0,.slice none 0 0,.int .i64 0,.slice none 0 0,.slice none 0 0,.slice none 0 0] 60;refine⟨?_,Qn hB j⟩
    rw[Qb hB j ((#[.int .i64 0,.slice none 0 0,.slice none 0 0,.int .i64 0,.int .i64 0,.int .i64 0,.slice none 0 0,.slice none 0 0,.int .i64 0,.slice none 0 0,.slice none 0 0,.slice none 0 0]:Array Value)[j]'hj) (by simp)];rfl
   have bx:Hid ((prog.info? 60).map (·.size)=some D.toArray.size):=by show _=_;rw[List.size_toArray];exact TS.out
   have TO:Hid (D.toArray.all (·.oneCell')=true):=by
    refine all_oneCell_toArray fun v hv=>?_;rw[<-am] at hv
    rcases List.mem_cons.1 hv with rfl | hv
    ·rfl
    rcases List.mem_cons.1 hv with rfl | hv
    ·rfl
    exact ap v hv
   have B6:Hid (Blk ((wq.alloc (.cells #[.int .i64 0,.slice none 0 0,.slice none 0 0,.int .i64 0,.int .i64 0,.int .i64 0,.slice none 0 0,.slice none 0 0,.int .i64 0,.slice none 0 0,.slice none 0 0,.slice none 0 0] 60)).setCells wq.heap.size 0 D.toArray.toList) wq.heap.size (Value.int .i64 g.regs::Value.slice S g.params.length c1::es).toArray 60):=by
    have h0:Blk (wq.alloc (.cells #[.int .i64 0,.slice none 0 0,.slice none 0 0,.int .i64 0,.int .i64 0,.int .i64 0,.slice none 0 0,.slice none 0 0,.int .i64 0,.slice none 0 0,.slice none 0 0,.slice none 0 0] 60)) wq.heap.size ([]++(#[.int .i64 0,.slice none 0 0,.slice none 0 0,.int .i64 0,.int .i64 0,.int .i64 0,.slice none 0 0,.slice none 0 0,.int .i64 0,.slice none 0 0,.slice none 0 0,.slice none 0 0]:Array Value).toList).toArray 60:=Qm wq _ _;rw[am]
    exact Blk.sets D [] (#[.int .i64 0,.slice none 0 0,.slice none 0 0,.int .i64 0,.int .i64 0,.int .i64 0,.slice none 0 0,.slice none 0 0,.int .i64 0,.slice none 0 0,.slice none 0 0,.slice none 0 0]:Array Value).toList _ (by rw[N];rfl) h0
   have b6:Hid (Below wq.heap.size wq ((wq.alloc (.cells #[.int .i64 0,.slice none 0 0,.slice none 0 0,.int .i64 0,.int .i64 0,.int .i64 0,.slice none 0 0,.slice none 0 0,.int .i64 0,.slice none 0 0,.slice none 0 0,.slice none 0 0] 60)).setCells wq.heap.size 0 D.toArray.toList)):=by
    have:=Zw.setCells (O:=fun k=>k=wq.heap.size) (O':=fun k=>k=wq.heap.size) (b:=wq.heap.size) Z D.toArray.toList 0 _ (Zw.refl _ (wq.alloc (.cells #[.int .i64 0,.slice none 0 0,.slice none 0 0,.int .i64 0,.int .i64 0,.int .i64 0,.slice none 0 0,.slice none 0 0,.int .i64 0,.slice none 0 0,.slice none 0 0,.slice none 0 0] 60)))
    exact(QU wq _).trans (this.below (by simp) (fun k hk=>by omega))
   clear N am K br be ap aa;go_upto_region 9 with (first | (refine wpList_load_mid Z 60 (.tmp 22) Z eg (eo+q*12) Z D _ a3.out underlying60 Z TS.out ?_) | (refine wpList_store_mid Z 60 (.tmp 8) (.tmp 23) Z wq.heap.size 0 D.toArray Z Z TH.out bx.out TO.out ?_))
   have B7:Hid (Blk ((wq.alloc (.cells #[.int .i64 0,.slice none 0 0,.slice none 0 0,.int .i64 0,.int .i64 0,.int .i64 0,.slice none 0 0,.slice none 0 0,.int .i64 0,.slice none 0 0,.slice none 0 0,.slice none 0 0] 60)).setCells wq.heap.size 0 D) wq.heap.size (Value.int .i64 g.regs::Value.slice S g.params.length c1::es).toArray 60):=B6.out;have b7:Hid (Below wq.heap.size wq ((wq.alloc (.cells #[.int .i64 0,.slice none 0 0,.slice none 0 0,.int .i64 0,.int .i64 0,.int .i64 0,.slice none 0 0,.slice none 0 0,.int .i64 0,.slice none 0 0,.slice none 0 0,.slice none 0 0] 60)).setCells wq.heap.size 0 D)):=b6.out;clear B6 b6 TH TS bx TO a3;generalize (wq.alloc (.cells #[.int .i64 0,.slice none 0 0,.slice none 0 0,.int .i64 0,.int .i64 0,.int .i64 0,.slice none 0 0,.slice none 0 0,.int .i64 0,.slice none 0 0,.slice none 0 0,.slice none 0 0] 60)).setCells wq.heap.size 0 D=J at B7 b7 |-;have aj:Hid (QbJ (Zy 6) 60 J w.heap.size M.heap.size (.slice U q V) ((f.blocks.take q).map Qe.outl) cB):=ai.out.below b7.out;have Q:Hid (Below M.heap.size M J):=BQ.out.trans (b7.out.mono BQ.out.size);generalize wq.heap.size=Bx at B7 b7 |-;have g0:J.cell? ⟨Bx,0,none⟩=some (.int .i64 g.regs):=Qb B7.out 0 _ Z;have g1:J.cell? ⟨Bx,1,none⟩=some (.slice S g.params.length c1):=Qb B7.out 1 _ Z
   have G:Hid (J.ownsRow M.heap.size 60 12 (.slice U q V) q cB):=by
    have:=aj.out.own
    rw[al] at this
    exact this
   have PU:Hid (∀ gg n y,y.ownsRow M.heap.size 60 12 (.slice (some ⟨gg,0,none⟩) (q+1) n) (q+1) (cB++[.int .i64 g.regs,.slice S g.params.length c1,.slice none 0 0,.int .i64 3,.int .i64 0,.int .i64 0,.slice none 0 0,.slice none 0 0,.int .i64 0,.slice none 0 0,.slice none 0 0,.slice none 0 0])->(J.alloc (.cells #[.int .i64 g.regs,.slice S g.params.length c1,.slice none 0 0,.int .i64 3,.int .i64 0,.int .i64 0,.slice none 0 0,.slice none 0 0,.int .i64 0,.slice none 0 0,.slice none 0 0,.slice none 0 0] 60)).grownBy y (Value.slice U q V).ownBlock->((Value.slice U q V).ownBlock=some gg\/gg=J.heap.size+1) ->
    QbJ (Zy 6) 60 y w.heap.size M.heap.size (.slice (some ⟨gg,0,none⟩) (q+1) n) ((f.blocks.take (q+1)).map Qe.outl) (cB++[.int .i64 g.regs,.slice S g.params.length c1,.slice none 0 0,.int .i64 3,.int .i64 0,.int .i64 0,.slice none 0 0,.slice none 0 0,.int .i64 0,.slice none 0 0,.slice none 0 0,.slice none 0 0])/\Below M.heap.size M y):=by
    intro gg n y h1 h2 h3;have b8:Below J.heap.size J (J.alloc (.cells #[.int .i64 g.regs,.slice S g.params.length c1,.slice none 0 0,.int .i64 3,.int .i64 0,.int .i64 0,.slice none 0 0,.slice none 0 0,.int .i64 0,.slice none 0 0,.slice none 0 0,.slice none 0 0] 60)):=QU _ _;have A5:=aj.out.below b8;have av:Below w.heap.size w J:=F.out.trans (Q.out.mono F.out.size);have o5:=F.out.size
    have T5:(Zy 6).In (J.alloc (.cells #[.int .i64 g.regs,.slice S g.params.length c1,.slice none 0 0,.int .i64 3,.int .i64 0,.int .i64 0,.slice none 0 0,.slice none 0 0,.int .i64 0,.slice none 0 0,.slice none 0 0,.slice none 0 0] 60)) (fun k=>(k<w.heap.size\/M.heap.size<=k)/\(Value.slice U q V).ownBlock≠some k) g.outl [.int .i64 g.regs,.slice S g.params.length c1,.slice none 0 0,.int .i64 3,.int .i64 0,.int .i64 0,.slice none 0 0,.slice none 0 0,.int .i64 0,.slice none 0 0,.slice none 0 0,.slice none 0 0] :=
     Ya (QiC (Yc (Ya bj.out av) (fun j hj N=>⟨.inl hj,fun e=>by have:=(aj.out.lo_le e).1;omega⟩)) b9.out) b8
    have A9:=QbJ.push A5 ((av.trans (b8.mono av.size)).size) T5 h2 (by simpa using h3) (by rw[al];exact h1);rw[al,<-Qgy ce.out] at A9
    exact⟨A9,(Q.out.trans (b8.mono Q.out.size)).grown h2 (Zt Q.out.size b8.size) (fun k hk=>(A5.lo_le hk).1)⟩
   have cd:M.heap.size<=J.heap.size:=Q.out.size;clear B7 b7 aj Q ai BQ I bj b9;generalize g.params.length=lp at PU g1 |-;generalize g.regs=rr at PU g0 |-;go_wp2_with (at_builtin;refine wpList_append_lies _ Z (.tmp 24) (.tmp 31) 38 Z M.heap.size 60 iB (.agg #[.int .i64 0,.slice none 0 0,.slice none 0 0,.int .i64 0,.int .i64 0,.int .i64 0,.slice none 0 0,.slice none 0 0,.int .i64 0,.slice none 0 0,.slice none 0 0,.slice none 0 0]) 12 208 pUnderB cc bg a6 bb Z (by decide) _ _ _ Z (G.out.alloc _) ⟨J.heap.size,0,none⟩ 1 1 [.int .i64 rr,.slice S lp c1,.slice none 0 0,.int .i64 3,.int .i64 0,.int .i64 0,.slice none 0 0,.slice none 0 0,.int .i64 0,.slice none 0 0,.slice none 0 0,.slice none 0 0] Z Z (QeJ _ [_,_,_,_,_,_,_,_,_,_,_,_] _) (Qlz Z) (by decide) (by unfold maxLen;omega) (by omega) (by simp;omega) (J.heap.size+1) (by simp) ?_)
   intro g2 ae y h1 s ag ac;obtain⟨q1,q2⟩:=PU.out g2 ae y h1 s ag
   have A9:=Qa q1;have C9:=Qa q2;clear h1 s ag ac G PU q1 q2 g0 g1;go_wp2
   go_roundw
   case rel=>exact⟨q+1,_,a5,by go_num,A9.out,C9.out⟩
   case measure=>simp[intOf];omega
theorem Wd.join {l w1:World}{g a:List (Nat × Array Value × TypeId)}(c:Wd l w1 g) (d:Wd w1 w2 a):Wd l w2 (a++g):=by
 have k:∀ (i:Nat) x,(a++g)[i]?=some x->(a[i]?=some x/\i<a.length)\/(g[i - a.length]?=some x/\a.length<=i):=fun i x b=>by
  rcases Nat.lt_or_ge i a.length with h | h
  ·rw[XP h] at b;exact .inl ⟨b,h⟩
  ·rw[XQ h] at b;exact .inr ⟨b,h⟩
 refine⟨Xl c.bel d.bel,fun i x b=>?_,fun i x b=>?_,fun i j x y b n e=>?_⟩
 ·rcases k i x b with ⟨h,_⟩|⟨h,_⟩
  ·exact d.blk i x h
  ·exact(c.blk _ x h).below d.bel
 ·rcases k i x b with ⟨h,_⟩|⟨h,_⟩
  ·exact Zt c.bel.size (d.new i x h)
  ·exact c.new _ x h
 ·rcases k i x b with ⟨h,m⟩|⟨h,m⟩<;>rcases k j y n with ⟨f,o⟩|⟨f,o⟩
  ·exact d.nd i j x y h f e
  ·have:=d.new i x h;have:=(c.blk _ y f).lt;omega
  ·have:=d.new j y f;have:=(c.blk _ x h).lt;omega
  ·have:=c.nd _ _ x y h f e;omega
def Q4 (lo B:Nat) (w w':World):Prop:=∀ k,k<lo->k≠B->w'.heap[k]?=w.heap[k]?
section
variable {lo B s:Nat}{w w1 w2:World}
theorem Q4.refl (a B:Nat) (w:World):Q4 a B w w:=fun _ _ _=>rfl
theorem Q4.below (h:Q4 lo B w w1) (b:Below s w1 w2) (d:lo<=s):Q4 lo B w w2:=fun k c a=>(b.block k (by omega)).trans (h k c a)
theorem Q4.grown {a:Option Nat}(h:Q4 lo B w w1) (b:w1.grownBy w2 a) (g:lo<=w1.heap.size) (f:∀ k,a=some k->lo<=k):Q4 lo B w w2:=fun k d c=>(b.block k (by omega) (fun e=>by have:=f k e.symm;omega)).trans (h k d c)
theorem Q4.keep1 (h:Q4 lo B w w1) (b:QdH B w1 w2):Q4 lo B w w2:=fun k c a=>(b k a).trans (h k c a)
theorem Lay.keepBut {α:Type}{A:Lay α}{x:α}(h:A.In w O x cs) (e:Q4 lo B w w1) (b:∀ k,O k->k<w.heap.size->k<lo/\k≠B) (a:∀ k,O k->k<w.heap.size->O' k):A.In w1 O' x cs :=
 A.keep (fun k c d=>e k (b k c d).1 (b k c d).2) a h
end
section
variable {α:Type}{A:Lay α}{e:TypeId}{w w':World}{lo B:Nat}{v:Value}{l:List α}{xs:List Value}
theorem ZI.keep1 (h:ZI A e w lo v l xs) (c:QdH B w w') (s:B<lo):ZI A e w' lo v l xs:=by
 obtain⟨⟨f,m⟩,d⟩:=h
 refine⟨⟨f,?_⟩,fun i x j=>A.keep (fun k n _=>c k (by have:=n.1;omega)) (fun _ h _=>h) (d i x j)⟩
 rcases m with p | ⟨g,b,a,e,o,q,r⟩
 ·exact Or.inl p
 ·exact Or.inr ⟨g,b,a,e,o,(c g (by omega)).trans q,r⟩
theorem ZI.form (h:ZI A e w lo v l xs):∃ a c,v=.slice a l.length c:=by
 rcases h.own.2 with ⟨rfl,b⟩|⟨g,f,d,rfl,_⟩
 ·exact⟨none,0,by rw[b]⟩
 ·exact⟨_,_,Z⟩
theorem ZI.nil' (A:Lay α) (e:TypeId) (w:World) (a:Nat):ZI A e w a (.slice none 0 0) (l.take 0) []:=ZI.nil A e w a
end
theorem Q4.keep1t {w1:World}(h:Q4 lo B w w1) (b:QdH B w1 w2) (a:B<lo):Q4 lo B w w2:=h.keep1 b
theorem Lay.keepNe {α:Type}{A:Lay α}{w1:World}{x:α}(h:A.In w O x cs) (a:QdH B w w1) (c:∀ k,O k->k≠B):A.In w1 O x cs :=
 A.keep (fun k b _=>a k (c k b)) (fun _ h _=>h) h
theorem QlH {a b:Nat × Array Value × TypeId}(c:a.1<lo) (d:b.1<lo):∀ (i:Nat) x,[a,b][i]?=some x->x.1<lo:=fun i x h=>by
 match i,h with
 | 0,h=>cases h;exact c
 | 1,h=>cases h;exact d
 | i+2,h=>simp at h
theorem Ql1 {a c b:Nat × Array Value × TypeId}(d:a.1<lo) (e:c.1<lo) (f:b.1<lo):∀ (i:Nat) x,[a,c,b][i]?=some x->x.1<lo:=fun i x h=>by
 match i,h with
 | 0,h=>cases h;exact d
 | 1,h=>cases h;exact e
 | 2,h=>cases h;exact f
 | i+3,h=>simp at h
theorem QaU {l:List (TT n)}(h:(Qi n).In w All l [.slice p l.length c]) (a:Qb3 l):Calls prog 37 #[.slice p l.length c] w fun e w'=>Qdq (Lay.tt n) w w' l e :=
 (QgB n (own_any n) l p c w (QK h).1 (by have:=a.1;omega) a.2).mono fun e w' ⟨g,f,b,d,i⟩=>⟨g,f,b,QcE d (QK h).2,i⟩
theorem ZI.next {α:Type}{A:Lay α}{l:List α}{x:α}(h:ZI A e w lo v (l.take q++[x]) xs) (a:l[q]?=some x):ZI A e w lo v (l.take (q+1)) xs:=by
 rw[XV,a];exact h
theorem ZI.full {α:Type}{A:Lay α}{l:List α}(h:ZI A e w lo v (l.take q) xs) (a:q=l.length):ZI A e w lo v l xs:=by
 rwa [XO (by omega)] at h
theorem QaD {a:Nat}(h:w.ownsRow lo e s v n xs) (j:∀ g,v.ownBlock=some g->lo<=g->g<w.heap.size->w'.heap[g]?=w.heap[g]?/\a<=g):w'.ownsRow a e s v n xs:=by
 obtain⟨i,k⟩:=h
 refine⟨i,?_⟩
 rcases k with m | ⟨g,b,c,e,o,d,r⟩
 ·exact Or.inl m
 ·subst e;obtain⟨f,l⟩:=j g Z o (XC d)
  exact Or.inr ⟨g,b,c,Z,l,f.trans d,r⟩
def Lay.apart {α:Type}(A:Lay α) (e:TypeId):Lay (List α) where
 size:=1
 In:=fun w O l cs=>∃ (v:Value) (xs:List Value) (S:Nat->Nat->Prop),cs=[v]/\w.ownsRow 0 e A.size v l.length xs/\(∀ g,v.ownBlock=some g->O g)/\(∀ i j g,S i g->S j g->i=j)/\∀ (i:Nat) (x:α),l[i]?=some x->A.In w (fun g=>O g/\v.ownBlock≠some g/\S i g) x ((xs.drop (i*A.size)).take A.size)
 len:=fun h=>by obtain⟨v,xs,S,rfl,_⟩:=h;rfl
 keep:=fun hb hl h=>by
  obtain⟨v,xs,S,e1,h1,h2,h3,h4⟩:=h
  have hlt:∀ g,v.ownBlock=some g->g<_:=fun g hg=>by
   rcases h1.2 with ⟨rfl,h4⟩|⟨g',cap,cur,rfl,hg',hh,r⟩
   ·simp[Value.ownBlock] at hg
   ·simp[Value.ownBlock] at hg;subst hg;exact lt_of_block hh
  exact⟨v,xs,S,e1,QaD h1 (fun g hg _ hgl=>⟨hb g (h2 g hg) hgl,Nat.zero_le _⟩),fun g hg=>hl g (h2 g hg) (hlt g hg),h3,fun i x hx=>A.keep (fun k hk hkl=>hb k hk.1 hkl) (fun k hk hkl=>⟨hl k hk.1 hkl,hk.2⟩) (h4 i x hx)⟩
def Lay.apair {α β:Type}(A:Lay α) (B:Lay β):Lay (α × β) where
 size:=A.size+B.size
 In:=fun w O x cs=>∃ (S:Nat->Prop) (c1 c2:List Value),cs=c1++c2/\A.In w (fun g=>O g/\S g) x.1 c1/\B.In w (fun g=>O g/\¬ S g) x.2 c2
 len:=fun h=>by obtain⟨S,c1,c2,rfl,h1,h2⟩:=h;simp[A.len h1,B.len h2]
 keep:=fun hb hl h=>by
  obtain⟨S,c1,c2,e,h1,h2⟩:=h
  exact⟨S,c1,c2,e,A.keep (fun k hk hkl=>hb k hk.1 hkl) (fun k hk hkl=>⟨hl k hk.1 hkl,hk.2⟩) h1,B.keep (fun k hk hkl=>hb k hk.1 hkl) (fun k hk hkl=>⟨hl k hk.1 hkl,hk.2⟩) h2⟩
theorem Lay.Sub.apair {α β:Type}{A b:Lay α}{B a:Lay β}(h:Lay.Sub A b) (k:Lay.Sub B a):Lay.Sub (A.apair B) (b.pair a) :=
 ⟨by show A.size+B.size=b.size+a.size;rw[h.1,k.1],fun ⟨S,g,f,e,c,d⟩=>⟨g,f,e,Yc (h.2 c) (fun _ h _=>h.1),Yc (k.2 d) (fun _ h _=>h.1)⟩⟩
theorem QjH (h:w.ownsRow 0 e s (.slice (some ⟨g,0,none⟩) n cap) n xs)(k:i<n) (p:j<s):w.cell? ⟨g,i*s+j,none⟩=((xs.drop (i*s)).take s)[j]?:=by
 obtain⟨t,l⟩:=h
 rcases l with ⟨c,_⟩|⟨r,f,b,c,_,o,m,v,u,q⟩
 ·cases c
 ·cases c
  have d:i*s+j<n*s:=by
   have:(i+1)*s<=n*s:=Xp _ k
   rw[Nat.add_mul] at this
   omega
  rw[XR,Xs p,List.getElem?_drop,<-q,XR,Xs d]
  have a:i*s+j<b.size:=by
   have:n*s<=cap*s:=Xp _ m
   omega
  rw[Array.getElem?_toList]
  exact(Qb o _ b[i*s+j] (Xj a)).trans (Xj a).symm
theorem Qi0 (h:w.ownsRow 0 e s v n xs) (d:0<n):∃ g cap,v=.slice (some ⟨g,0,none⟩) n cap/\g<w.heap.size/\n<=cap:=by
 rcases h.2 with ⟨rfl,f⟩|⟨g,cap,b,rfl,i,c,a,r⟩
 ·omega
 ·exact⟨g,cap,Z,XC c,a⟩
theorem Lay.Sub.apart {α:Type}{A d:Lay α}(h:Lay.Sub A d) (e:TypeId):Lay.Sub (A.apart e) d.list :=
 ⟨Z,fun {w O l t} ⟨v,s,S,n,b,m,y,p⟩=>by
  subst n;by_cases f:0<l.length
  ·obtain⟨g,a,rfl,o,u⟩:=Qi0 b f
   refine⟨some ⟨g,0,none⟩,a,Z,fun i x c=>⟨g,0,_,Z,m g Z,o,fun j q=>?_,Yc (h.2 (p i x c)) (fun _ h _=>h.1)⟩⟩
   rw[XK,<-h.1]
   exact QjH b (Zi c).1 (by rw[h.1];exact q)
  ·have k:l=[]:=Xf.1 (by omega);subst k;rcases b.2 with ⟨rfl,_⟩|⟨g,a,r,rfl,_⟩
   ·exact Yg _ _ _ _ _
   ·exact Yg _ _ _ _ _⟩
structure Qbd {α:Type}(A:Lay α) (e:TypeId) (w:World) (lo:Nat) (v:Value) (l:List α) (xs:List Value):Prop where
 own:w.ownsRow lo e A.size v l.length xs
 kids:∃ a:Nat->Nat,a 0=0/\(∀ i j,i<=j->a i<=a j)/\a l.length<=w.heap.size/\∀ (i:Nat) (x:α),l[i]?=some x->A.In w (fun g=>lo<=g/\v.ownBlock≠some g/\a i<=g/\g<a (i+1)) x ((xs.drop (i*A.size)).take A.size)
section
variable {α:Type}{A:Lay α}{e:TypeId}{w w':World}{lo B q:Nat}{v:Value}{l:List α}{xs:List Value}
theorem Qbd.nil' (A:Lay α) (e:TypeId) (w:World) (a:Nat):Qbd A e w a (.slice none 0 0) (l.take 0) []:=⟨⟨by simp,Or.inl ⟨Z,by simp⟩⟩,fun _=>0,Z,fun _ _ _=>Ze,Xb _,fun i x h=>by simp at h⟩
theorem Qbd.lo_le (h:Qbd A e w lo v l xs)(a:v.ownBlock=some g):lo<=g/\g<w.heap.size:=by
 obtain⟨⟨k,c⟩,n⟩:=h
 rcases c with ⟨rfl,m⟩|⟨j,f,i,rfl,b,d,r⟩
 ·simp[Value.ownBlock] at a
 ·simp[Value.ownBlock] at a;subst a;exact⟨b,XC d⟩
theorem Qbd.form (h:Qbd A e w lo v l xs):∃ a c,v=.slice a l.length c:=by
 rcases h.own.2 with ⟨rfl,b⟩|⟨g,f,d,rfl,_⟩
 ·exact⟨none,0,by rw[b]⟩
 ·exact⟨_,_,Z⟩
theorem Qbd.below (h:Qbd A e w lo v l xs) (b:Below w.heap.size w w'):Qbd A e w' lo v l xs:=by
 obtain⟨c,a,f,k,j,n⟩:=h
 exact⟨QaD c (fun g _ m o=>⟨b.block g o,m⟩),a,f,k,Zt j b.size,fun i x d=>Ya (n i x d) b⟩
theorem Qbd.keep1 (h:Qbd A e w lo v l xs) (c:QdH B w w') (G:B<lo):Qbd A e w' lo v l xs:=by
 have b:l.length=0\/w.heap.size<=w'.heap.size:=by
  rcases h.own.2 with ⟨_,y⟩|⟨g,q,p,_,s,C,r⟩
  ·exact .inl y
  ·have n:=XC C;have f:=c (w.heap.size - 1) (by omega);have E:w.heap[w.heap.size - 1]?=some (w.heap[w.heap.size - 1]'(by omega)):=Xj _;rw[E] at f
   have:=(Array.getElem?_eq_some_iff.1 f).1
   exact .inr (by omega)
 obtain⟨D,a,j,u,F,z⟩:=h
 refine⟨QaD D (fun g _ o s=>⟨c g (by omega),o⟩),a,j,u,?_,fun i x m=>A.keep (fun k t _=>c k (by have:=t.1;omega)) (fun _ h _=>h) (z i x m)⟩
 rcases b with d | d
 ·rw[d,j];exact Xb _
 ·exact Zt F d
theorem Qbd.next {x:α}(h:Qbd A e w lo v (l.take q++[x]) xs) (a:l[q]?=some x):Qbd A e w lo v (l.take (q+1)) xs:=by
 rw[XV,a];exact h
theorem Qbd.full (h:Qbd A e w lo v (l.take q) xs) (a:q=l.length):Qbd A e w lo v l xs:=by
 rwa [XO (by omega)] at h
theorem Qbd.lay (h:Qbd A e w lo v l xs):(A.apart e).In w (fun g=>lo<=g) l [v]:=by
 have c:=fun g=>h.lo_le (g:=g);obtain⟨k,a,q,d,r,n⟩:=h
 refine⟨v,xs,fun i g=>a i<=g/\g<a (i+1),Z,QaD k (fun g _ s f=>⟨Z,Xb _⟩),fun g f=>(c g f).1,fun i j g p o=>?_,fun i x m=>n i x m⟩
 rcases Nat.lt_trichotomy i j with b | b | b
 ·have:=d (i+1) j (by omega);omega
 ·exact b
 ·have:=d (j+1) i (by omega);omega
theorem Qbd.push {c:World}(h:Qbd A e c lo v l xs) (F:Below c.heap.size c w) (q:lo<=c.heap.size){x:α}(D:A.In w (ZJ c.heap.size) x ds)
  (t:w.grownBy w' v.ownBlock) (m:v.ownBlock=some g\/g=w.heap.size)
 (J:w'.ownsRow lo e A.size (.slice (some ⟨g,0,none⟩) (l.length+1) cap) (l.length+1) (xs++ds)) :
 Qbd A e w' lo (.slice (some ⟨g,0,none⟩) (l.length+1) cap) (l++[x]) (xs++ds):=by
 have n:=fun g=>h.lo_le (g:=g);obtain⟨p,a,K,u,N,H⟩:=h
 have r:=p.1;have I:=A.len D;have M:=F.size;refine⟨by rw[List.length_append];exact J,fun i=>if i<=l.length then a i else w.heap.size,by simp[K],fun i j C=>?_,?_,fun i y d=>?_⟩
 ·dsimp only
  by_cases p:j<=l.length
  ·rw[Xs (by omega),Xs p];exact u i j C
  ·rw[Xr p]
   by_cases s:i<=l.length
   ·rw[Xs s];have:=u i l.length s;omega
   ·rw[Xr s];exact Ze
 ·dsimp only;rw[Xr (by simp)];exact t.size
 rw[List.getElem?_append] at d
 split at d
 ·rename_i E
  have L:(i+1)*A.size<=l.length*A.size:=Xp _ E;rw[Nat.add_mul] at L
  have G:=Ya (H i y d) F;rw[List.drop_append_of_le_length (by omega),List.take_append_of_le_length (by simp;omega)]
  refine A.keep (fun k b f=>?_) (fun k b f=>⟨b.1,?_,?_,?_⟩) G
  ·exact t.block k f (fun e=>b.2.1 e.symm)
  ·simp only[Value.ownBlock,ne_eq,Option.some.injEq]
   intro e;subst e;rcases m with o | o
   ·exact b.2.1 o
   ·have:=u (i+1) l.length (by omega);have:=b.2.2.2;omega
  ·dsimp only;rw[Xs (by omega)];exact b.2.2.1
  ·dsimp only;rw[Xs (by omega)];exact b.2.2.2
 ·rename_i E
  have B:i=l.length:=by
   have:=(Zi d).1
   simp at this
   omega
  subst B;simp at d
  subst d;rw[List.drop_append,List.drop_of_length_le (by omega),<-r,Nat.sub_self,List.drop_zero,List.nil_append,XO (by omega)]
  refine A.keep (fun k b f=>?_) (fun k b f=>⟨Zt q b,?_,?_,?_⟩) D
  ·exact t.block k f (fun e=>by have:=(n k e.symm).2;have:c.heap.size<=k:=b;omega)
  ·simp only[Value.ownBlock,ne_eq,Option.some.injEq]
   intro e;subst e;have z:c.heap.size<=g:=b;rcases m with o | o
   ·have:=(n g o).2;omega
   ·omega
  ·dsimp only;rw[Xs Ze];have z:c.heap.size<=k:=b;omega
  ·dsimp only;rw[Xr (by omega)];exact f
end
section
variable {n:Nat}{a:Act}{L:List (Tmp × Value)}{w0 w:World}{Bs:List (Nat × Array Value × TypeId)}{Q:Exit->Act->World->Prop}{ops:Array Oper}{rest:List Oper}{t:Tmp}{u v:Value}{ty ty2 ty3:TypeId}{pos:String}{aft:Array Edge}{x y:Operand}
theorem Qkc {α:Type}{A:Lay α}{C:TypeId}{q:TypeInfo}{z:Value}{b:Nat}{l:List α}{S:α}
 (hu:prog.underlying C=some (.slice e)) (hi:prog.info? e=some q) (X:q.zero=some z) (F:q.size=s) (E:q.bytes=b) (K:z.cells.size=s) (h0:0<s) (U:A.size=s)
 (p:Wd w0 w Bs) (J:w0.heap.size<=lo) (m:∀ (i:Nat) x,Bs[i]?=some x->x.1<lo) (h:Qbd A e wr lo u l xs) (d:Below wr.heap.size wr w) (f:lo<=wr.heap.size) (V:Blk w G ds.toArray bt)
 (r:A.In w (ZJ wr.heap.size) S ds) (o:ds.all (·.oneCell')=true) (R:l.length<4294967296) (B:b<=1000)
 (T:Qy L x=some u) (D:Qy L y=some (.slice (some ⟨G,0,none⟩) 1 1)) (ht:Nat.blt t n=true)
 (k:∀ g cap w',Qbd A e w' lo (.slice (some ⟨g,0,none⟩) (l.length+1) cap) (l++[S]) (xs++ds)->w.grownBy w' u.ownBlock->Wd w0 w' Bs->St n ((t,.slice (some ⟨g,0,none⟩) (l.length+1) cap)::L) ops Q rest w') :
 St n L ops Q (⟨some t,.call { callee:=.builtin .append,args:=#[x,y],argTypes:=#[C,C] },ty,pos,aft,none⟩::rest) w:=fun a I=>by
 subst U;have M:=h.below d;have N:=A.len r;have O:(l.length+1)*b<=4294967296*1000:=Nat.mul_le_mul (by omega) B;refine wpList_append_lies (P:=prog) w Z x y C Z lo e q z A.size b hu hi X F E K h0 u l.length xs (I.ev T) M.own ⟨G,0,none⟩ 1 1 ds (I.ev D) (by rw[N,XM]) ?_ (by simpa using o) (by decide) (by unfold maxLen;omega) (by omega) (Zt f d.size) w.heap.size Z ?_
 ·intro j v hj;rw[show (⟨G,0,none⟩:Addr).add j=⟨G,j,none⟩ from by unfold Addr.add;split<;>simp_all]
  exact Qb V j v (by simpa using hj)
 ·intro g cap w' h1 c H aa;have hA:=Qbd.push h d f r c H h1;refine k g cap w' hA c ⟨p.bel.grown c p.bel.size (fun k W=>Zt J (M.lo_le W).1),fun i y D=>?_,p.new,p.nd⟩ _ (I.put ht);have h9:=m i y D;exact(c.block y.1 (by have:=d.size;omega) (fun e=>by have:=(M.lo_le e.symm).1;omega)).trans (p.blk i y D)
end
abbrev codeX:Lay (List QC):=insC.apart 46
def QdQ (n:Nat):Lay (Qe n):=(Lay.int.pair ((Qi n).apair (codeX.apair endL))).via (fun x=>(x.regs,x.params,x.code,x.fin))
def QhZ (n:Nat):Lay (Qf n):=(Lay.int.pair (((Qi n).pair (Qi n)).apair ((QdQ n).apart 60))).via (fun x=>(x.regs,(x.params,x.results),x.blocks))
abbrev Qlx (n:Nat):Lay (List (Qf n)):=(QhZ n).apart 40
def QcG (n:Nat):Lay (Qe n):=(Lay.int.pair ((Qi n).pair (insC.list.pair endL))).via (fun x=>(x.regs,x.params,x.code,x.fin))
def Qkn (n:Nat):Lay (Qf n):=(Lay.int.pair ((Qi n).pair ((Qi n).pair (QcG n).list))).via (fun x=>(x.regs,x.params,x.results,x.blocks))
abbrev Qks (n:Nat):Lay (List (Qf n)):=(Qkn n).list
theorem Qhr (n:Nat):Lay.Sub (QcG n) (Zy n):=.via (.pair (.refl _) (.pair (.refl _) (.pair (.list ins_sub) (.refl _)))) _
theorem Qib (n:Nat):Lay.Sub (Qkn n) (ZR n):=.via (.pair (.refl _) (.pair (.refl _) (.pair (.refl _) (.list (Qhr n))))) _
theorem Qb8 (n:Nat):Lay.Sub (Qks n) (QaH n):=.list (Qib n)
theorem QgP (n:Nat):Lay.Sub (QdQ n) (QcG n):=.via (.pair (.refl _) (.apair (.refl _) (.apair (.apart (.refl _) _) (.refl _)))) _
theorem Qik (n:Nat):Lay.Sub (QhZ n) (Qkn n) :=
 ⟨Z,fun {w O x l} ⟨r,t,e,f,S,m,b,d,⟨i,a,c,g,k⟩,j⟩=>by
  subst e d c;exact⟨r,_,Z,f,i,a++b,by rw[List.append_assoc],Yc g (fun _ h _=>h.1),a,b,Z,Yc k (fun _ h _=>h.1),Yc ((Lay.Sub.apart (QgP n) 60).2 j) (fun _ h _=>h.1)⟩⟩
theorem Qjd (n:Nat):Lay.Sub (Qlx n) (Qks n):=.apart (Qik n) _
section
variable {w:World}{O:Nat->Prop}{n:Nat}
theorem QaK {x:QC}{b:Option Addr}(f:intsC.In w O x.regs [.slice a x.regs.length c]) (g:intsC.In w O x.args [.slice b x.args.length d]) (e:I64 x.op/\I64 x.a/\I64 x.b/\I64 x.c/\I64 x.k/\I64 x.n):insC.In w O x [.int .i64 x.op,.int .i64 x.a,.int .i64 x.b,.int .i64 x.c,.int .i64 x.k,.int .i64 x.n,.slice a x.regs.length c,.slice b x.args.length d] :=
 ⟨[_],_,Z,⟨Z,e.1⟩,[_],_,Z,⟨Z,e.2.1⟩,[_],_,Z,⟨Z,e.2.2.1⟩,[_],_,Z,⟨Z,e.2.2.2.1⟩,[_],_,Z,⟨Z,e.2.2.2.2.1⟩,[_],_,Z,⟨Z,e.2.2.2.2.2⟩,[_],_,Z,f,g⟩
theorem QfP {x:Qe n}{b:Option Addr}{t1 t2:Nat}{e:EP}(j:t1<=t2) (i:(Qi n).In w (fun k=>O k/\k<t1) x.params [.slice a x.params.length c]) (h:codeX.In w (fun k=>O k/\t1<=k/\k<t2) x.code [.slice b x.code.length d]) (l:EIn w (fun k=>O k/\t2<=k) x.fin e) (g:I64 x.regs):(QdQ n).In w O x [.int .i64 x.regs,.slice a x.params.length c,.slice b x.code.length d,.int .i64 x.fin.op,.int .i64 x.fin.a,.int .i64 x.fin.yes.block,.slice e.pYR x.fin.yes.regs.length e.cYR,.slice e.pYA x.fin.yes.args.length e.cYA,.int .i64 x.fin.no.block,.slice e.pNR x.fin.no.regs.length e.cNR,.slice e.pNA x.fin.no.args.length e.cNA,.slice e.pA x.fin.args.length e.cA] :=
 ⟨[_],_,Z,⟨Z,g⟩,fun k=>k<t1,[_],_,Z,i,fun k=>k<t2,[_],_,Z,Yc h (fun k f _=>⟨⟨f.1,by omega⟩,f.2.2⟩),QcX (l.mono (fun k f _=>⟨⟨f.1,by omega⟩,by omega⟩))⟩
theorem QgN {x:Qf n}{b g:Option Addr}{t1:Nat}(h:(Qi n).In w (fun k=>O k/\k<t1) x.params [.slice a x.params.length c]) (j:(Qi n).In w (fun k=>O k/\k<t1) x.results [.slice b x.results.length d]) (l:((QdQ n).apart 60).In w (fun k=>O k/\t1<=k) x.blocks [.slice g x.blocks.length f]) (e:I64 x.regs):(QhZ n).In w O x [.int .i64 x.regs,.slice a x.params.length c,.slice b x.results.length d,.slice g x.blocks.length f] :=
 ⟨[_],_,Z,⟨Z,e⟩,fun k=>k<t1,[_,_],_,Z,⟨[_],_,Z,h,j⟩,Yc l (fun k i _=>⟨i.1,by omega⟩)⟩
end
theorem Qku (h:w.ownsRow lo e s (.slice a m c) n xs):n<=c:=by
 rcases h.2 with ⟨b,i⟩|⟨g,d,j,b,k,l,f,r⟩
 ·rw[i];exact Xb _
 ·cases b;exact f
def Qh1 (w w':World) (l:List Int) (e:Ending):Prop:=∃ a' c',e=.returned (.slice a' l.length c')/\intsC.In w' (ZJ w.heap.size) l [.slice a' l.length c']/\Below w.heap.size w w'
theorem Qb1 (l:List Int) (p:Option Addr) (c:Nat) (w:World) (b:intsL.In w All l [.slice p l.length c]) (F:l.length<=4294967296) :
 Calls prog 38 #[.slice p l.length c] w fun e w'=>Qh1 w w' l e:=by
 obtain⟨A,z,o,r,q⟩:=infoI_parts
 by_cases y:0<l.length
 ·obtain⟨m,rfl,H,x⟩:=QeE b y
  have d:Hid _:=x;have v:Hid _:=QeD b;clear b x;go_enter func38,ntmps38
  go_wp2_with (at_builtin;refine wpList_append_lies _ Z (.tmp 4) (.tmp 5) 35 Z w.heap.size 3 A (.int .i64 0) 1 8 underIs z o r q Z (by decide) (.slice none 0 0) 0 [] Z ⟨Z,Or.inl ⟨Z,Z⟩⟩ m l.length c (iv l) Z (by rw[QbT,XL]) d.out (QiG l) y (by unfold maxLen;omega) (by omega) Ze w.heap.size Z ?_)
  intro B i E s a n g
  have R:Hid (Qh1 w E l (.returned (.slice (some ⟨B,0,none⟩) l.length i))):=by
   exact⟨_,_,Z,⟨⟨_,_,Z,Qku s⟩,QeB s v.out⟩,(Below.refl _ w).grown a Ze (fun k D=>by simp[Value.ownBlock] at D)⟩
  clear s a n g d v;go_wp2
  go_ret;exact R.out
 ·have C:l=[]:=Xf.1 (by omega);subst C
  have G:Hid (∀ (t:TypeId) (f:World),(Builtin.append_ #[35,35] t #[.slice none 0 0,.slice p 0 c]).run prog f=.ok (.slice none 0 0) f):=fun (t:TypeId) (f:World)=>run_append_nothing (P:=prog) f 35 35 t 3 A underIs z none 0 0 Ze (.slice p 0 c) (by cases p with
   | none=>exact Src.ofNil f underIs c
   | some m=>exact Src.ofSlice f underIs m 0 c [] (by simp) (fun j u h=>by simp at h) (fun u h=>by cases h))
  simp only[List.length_nil]
  have R:Hid (Qh1 w w [] (.returned (.slice none 0 0))):=⟨_,_,Z,⟨⟨_,_,Z,Ze⟩,Yg _ _ _ _ _⟩,Zr⟩;clear b;go_enter func38,ntmps38
  go_wp2_with (at_builtin;refine Q8 Z (.tmp 4) (.tmp 5) 35 Z (.slice none 0 0) (.slice p 0 c) Z Z (G.out _ _) ?_)
  go_ret;exact R.out
theorem Qff {m:List (Qe 6)}(h:(QcG 6).list.In w Q m [.slice p n c]){g:Qe 6}(r:m[k]?=some g) :
 ∃ mg mo a1 c1 a2 c2 e,p=some ⟨mg,mo,none⟩/\w.rangeAt mg (mo+k*12) (.int .i64 g.regs::.slice a1 g.params.length c1::.slice a2 g.code.length c2::(QaE g.fin e).toList)/\insC.list.In w Q g.code [.slice a2 g.code.length c2]/\Qce w Q g.fin e/\(-9223372036854775808<=g.fin.a/\g.fin.a<=9223372036854775807):=by
 obtain⟨mg,mo,x,q,u,t,o,_,_,rfl,⟨rfl,_⟩,_,_,rfl,i,_,_,rfl,f,s⟩:=Yf h r
 obtain⟨a1,c1,rfl,i⟩:=QM i
 obtain⟨a2,c2,rfl,f⟩:=QM f
 obtain⟨e,rfl,b⟩:=Qgk s
 refine⟨mg,mo,a1,c1,a2,c2,e,q,fun j v l=>?_,f,⟨b.yes.regs,b.yes.args,b.no.regs,b.no.args,b.args⟩,b.bnd.2⟩
 have d:j<12:=(Zi l).1
 have:=o j d
 rw[show (QcG 6).size=12 from Z] at this
 rw[this]
 exact l
structure VcS (w wr:World) (X R A4:Nat) (pm pa:Option Addr) (cm ca:Nat) (m:List (Qf 6)):Prop where
 bel:Below w.heap.size w wr
 x:Blk wr X #[.slice pm m.length cm] 24
 r:Blk wr R #[.int .i64 0,.int .i64 0] 30
 a:Blk wr A4 #[.slice pa m.length ca] 24
 om:(QaH 6).In wr All (outl m) [.slice pa m.length ca]
theorem VcS.below {b:Nat}{d:Option Addr}{c:Nat}{m:List (Qf 6)}(h:VcS w wr X R b pm d cm c m) (k:Below wr.heap.size wr w'):VcS w w' X R b pm d cm c m :=
 ⟨h.bel.trans (k.mono h.bel.size),h.x.below k,h.r.below k,h.a.below k,Ya h.om k⟩
theorem QcJ {m:List (Qf n)}(J:(QaH n).In w All m [.slice p m.length c]) (i:Qa7 m) (d:(Qj m).1≠0) :
 Calls prog 17 #[.agg #[.slice p m.length c]] w fun e w'=>e=.returned (QJ (Qj m))/\Below w.heap.size w w':=by
 have K:=Qa J;have B:=Qa i;have z:=QU w (.cells #[.slice p m.length c] 24);have h:=QU (w.alloc (.cells #[.slice p m.length c] 24)) (.cells #[.int .i64 0,.int .i64 0] 30);have q:Hid (Below w.heap.size w ((w.alloc (.cells #[.slice p m.length c] 24)).alloc (.cells #[.int .i64 0,.int .i64 0] 30))):=z.trans (h.mono z.size);have o:Hid (Blk ((w.alloc (.cells #[.slice p m.length c] 24)).alloc (.cells #[.int .i64 0,.int .i64 0] 30)) w.heap.size #[.slice p m.length c] 24):=Blk.new1 ..;have r:Hid (Blk ((w.alloc (.cells #[.slice p m.length c] 24)).alloc (.cells #[.int .i64 0,.int .i64 0] 30)) (w.heap.size+1) #[.int .i64 0,.int .i64 0] 30):=Blk.new2 ..;clear z h J i;go_enter func17,ntmps17
 go_upto_region 1 with fail
 generalize (w.alloc (.cells #[.slice p m.length c] 24)).alloc (.cells #[.int .i64 0,.int .i64 0] 30)=U at q o r |-;obtain⟨X,I⟩:∃ X,X=w.heap.size:=⟨_,Z⟩
 obtain⟨R,H⟩:∃ R,R=X+1:=⟨_,Z⟩
 have l:Hid (w.heap.size<=R):=by show _<=_;omega
 rw[<-I] at o r |-
 rw[<-H] at r |-
 clear I H;have N:=Qb o.out 0 _ Z;have A:=Qa (Qcu (Ya K.out q.out) B.out);unfold Rd at A;go_wp2_with fail
 refine A.out.mono ?_;rintro T f ⟨rfl,h⟩;obtain⟨a,b,g⟩:∃ a b,Qj m=(a,b):=⟨_,_,Z⟩
 have s:Hid (Qj m=(a,b)):=g;rw[g]
 clear g;have u:=h.trans ((QU f (.cells #[.int .i64 a,.int .i64 b] 30)).mono h.size);have C:Hid (Blk (f.alloc (.cells #[.int .i64 a,.int .i64 b] 30)) X #[.slice p m.length c] 24):=o.out.below u;have k:Hid (Blk (f.alloc (.cells #[.int .i64 a,.int .i64 b] 30)) R #[.int .i64 0,.int .i64 0] 30):=r.out.below u;have t:Hid (Below w.heap.size w (f.alloc (.cells #[.int .i64 a,.int .i64 b] 30))):=q.out.trans (u.mono q.out.size);have x:Hid (Blk (f.alloc (.cells #[.int .i64 a,.int .i64 b] 30)) f.heap.size #[.int .i64 a,.int .i64 b] 30):=Blk.new _ _ _;simp only[QJ]
 clear h u A N o r q;go_upto_region 2 with fail
 generalize f.alloc (.cells #[.int .i64 a,.int .i64 b] 30)=y at C k t x |-;generalize f.heap.size=P at x |-
 have G:(a != 0)=true:=by
  have:a≠0:=by rw[s.out] at d;exact d
  simpa using this
 clear d;have f0:=Qb x.out 0 _ Z;have W:=Qb x.out 1 _ Z;have E:Hid (Qj m=(a,b)):=s.out;have j:Hid (Blk y R #[.int .i64 0,.int .i64 0] 30):=k.out;have r0:=Qb j.out 0 _ Z;have Q:=Qb j.out 1 _ Z;have S:=Qn j.out 0;have V:=Qn j.out 1;have D:Hid (Blk ((y.setCell ⟨R,0,none⟩ (.int .i64 a)).setCell ⟨R,1,none⟩ (.int .i64 b)) R #[.int .i64 a,.int .i64 b] 30):=ZP j.out _ _;have F:Hid (Below w.heap.size w ((y.setCell ⟨R,0,none⟩ (.int .i64 a)).setCell ⟨R,1,none⟩ (.int .i64 b))):=(XI t.out (p:=⟨R,0,none⟩) l.out _).setCell (p:=⟨R,1,none⟩) l.out _;go_wp2_with fail
 generalize (y.setCell ⟨R,0,none⟩ (.int .i64 a)).setCell ⟨R,1,none⟩ (.int .i64 b)=M at D F |-;have L:=Qb D.out 0 _ Z;have O:=Qb D.out 1 _ Z;exact Xy (v:=.agg #[.int .i64 a,.int .i64 b]) (by simp[results,results17,go_sem,L,O]) Z ⟨by rw[E.out],F.out⟩
theorem Qcr {m:List (Qf 6)}(hm:(Qks 6).In w All m [.slice p m.length c]) (ab:Qa7 m) (an:(Qj m).1=0->¬ Zd m) :
 Calls prog 17 #[.agg #[.slice p m.length c]] w fun e w'=>e=.returned (QJ (QY m))/\Below w.heap.size w w':=by
 by_cases hz:(Qj m).1=0
 rotate_left
 ·have e:QY m=Qj m:=by unfold QY;rw[Xs hz]
  rw[e]
  exact QcJ ((Qb8 6).2 hm) ab hz
 have hg:=an hz;have HM:=Qa hm;have al:=Qa ab;have HG:=Qa hg;have ae:=Qa hz;have bb:m.length<=20:=Xo fun x=>hg (.inl x);have E0:Hid (QY m=firstF (Z7 m) 0 m):=by show _=_;unfold QY;rw[Xr (fun h=>h hz)]
 clear hg an hz;have b1:=QU w (.cells #[.slice p m.length c] 24);have b2:=QU (w.alloc (.cells #[.slice p m.length c] 24)) (.cells #[.int .i64 0,.int .i64 0] 30);have B0:Hid (Below w.heap.size w ((w.alloc (.cells #[.slice p m.length c] 24)).alloc (.cells #[.int .i64 0,.int .i64 0] 30))):=b1.trans (b2.mono b1.size);have BX:Hid (Blk ((w.alloc (.cells #[.slice p m.length c] 24)).alloc (.cells #[.int .i64 0,.int .i64 0] 30)) w.heap.size #[.slice p m.length c] 24):=Blk.new1 ..;have BR:Hid (Blk ((w.alloc (.cells #[.slice p m.length c] 24)).alloc (.cells #[.int .i64 0,.int .i64 0] 30)) (w.heap.size+1) #[.int .i64 0,.int .i64 0] 30):=Blk.new2 ..;clear b1 b2 hm ab;go_enter func17,ntmps17
 go_upto_region 1 with fail
 generalize (w.alloc (.cells #[.slice p m.length c] 24)).alloc (.cells #[.int .i64 0,.int .i64 0] 30)=w1 at B0 BX BR |-;obtain⟨X,hX⟩:∃ X,X=w.heap.size:=⟨_,Z⟩
 obtain⟨R,hR⟩:∃ R,R=X+1:=⟨_,Z⟩
 have Q:Hid (w.heap.size<=R):=by show _<=_;omega
 rw[<-hX] at BX BR |-
 rw[<-hR] at BR |-
 clear hX hR;have x0:=Qb BX.out 0 _ Z;have CC:=Qa (Qcu (Ya ((Qb8 6).2 HM.out) B0.out) al.out);unfold Rd at CC;go_wp2_with fail
 refine CC.out.mono ?_;rintro e2 W ⟨rfl,b2⟩;obtain⟨G,M,ag⟩:∃ G M,Qj m=(G,M):=⟨_,_,Z⟩
 have aq:Hid (Qj m=(G,M)):=ag;rw[ag]
 clear ag;have b3:=b2.trans ((QU W (.cells #[.int .i64 G,.int .i64 M] 30)).mono b2.size);have P:Hid (Blk (W.alloc (.cells #[.int .i64 G,.int .i64 M] 30)) X #[.slice p m.length c] 24):=BX.out.below b3;have ah:Hid (Blk (W.alloc (.cells #[.int .i64 G,.int .i64 M] 30)) R #[.int .i64 0,.int .i64 0] 30):=BR.out.below b3;have B:Hid (Below w.heap.size w (W.alloc (.cells #[.int .i64 G,.int .i64 M] 30))):=B0.out.trans (b3.mono B0.out.size);have F3:Hid (Blk (W.alloc (.cells #[.int .i64 G,.int .i64 M] 30)) W.heap.size #[.int .i64 G,.int .i64 M] 30):=Blk.new _ _ _;simp only[QJ]
 clear b2 b3 CC x0 BX BR B0;go_upto_region 2 with fail
 generalize W.alloc (.cells #[.int .i64 G,.int .i64 M] 30)=w3 at P ah B F3 |-;generalize W.heap.size=F9 at F3 |-;have a5:G=0:=by have:=ae.out;rw[aq.out] at this;exact this
 subst a5;have f0:=Qb F3.out 0 _ Z;have f1:=Qb F3.out 1 _ Z;have x3:=Qb P.out 0 _ Z;have CO:=Qa (Qhy (w:=w3) (m:=m) (p:=p) (c:=c) (Ya ((Qb8 6).2 HM.out) B.out) al.out);clear aq;go_wp2_with fail
 refine CO.out.mono ?_;rintro e4 w4 ⟨H,l,rfl,am,b4⟩;have b5:=QU w4 (.cells #[.slice H m.length l] 24)
 have S:Hid (VcS w (w4.alloc (.cells #[.slice H m.length l] 24)) X R w4.heap.size p H c l m) :=
  ⟨(B.out.trans (b4.mono B.out.size)).trans (b5.mono (Zt B.out.size b4.size)),(P.out.below b4).below b5,(ah.out.below b4).below b5,Blk.new _ _ _,Ya am b5⟩
 clear am b4 b5 CO x3 f0 f1 P ah B F3;go_upto_region 5 with fail
 generalize w4.alloc (.cells #[.slice H m.length l] 24)=w5 at S |-;generalize w4.heap.size=A4 at S |-;have x0:=Qb S.out.x 0 _ Z;go_wp2_with fail
 clear x0;go_loopw [21] (fun i wr=>∃ k:Nat,k<=m.length/\i=.int .i64 k/\VcS w wr X R A4 p H c l m/\∀ j f,j<k->m[j]?=some f->(Z7 m j f).1=0) (fun i _=>m.length - (intOf i).toNat)
 case atStart=>exact⟨0,Xb _,Z,S.out,fun j f hj=>absurd hj (XG _)⟩
 case round =>
  obtain⟨k,hk,rfl,hs,o⟩:=hrel
  have SR:=Qa hs;have I:=Qa o;clear hs o S;obtain⟨s,a9⟩:∃ s,s=wr:=⟨_,Z⟩
  subst a9;by_cases a4:k<m.length
  rotate_left
  ·have av:¬ (k:Int)<m.length:=by omega
   have E:Hid (QY m=(0,0)):=by
    show _=_;rw[E0.out]
    exact QT fun j f hj=>by rw[XK];exact I.out j f (by have:=(Zi hj).1;omega) hj
   have L:Hid (Blk s R #[.int .i64 0,.int .i64 0] 30):=SR.out.r;have r0:=Qb L.out 0 _ Z;have r1:=Qb L.out 1 _ Z;have z0:=Qn L.out 0;have z1:=Qn L.out 1;have RB:Hid (Blk ((s.setCell ⟨R,0,none⟩ (.int .i64 0)).setCell ⟨R,1,none⟩ (.int .i64 0)) R #[.int .i64 0,.int .i64 0] 30):=ZP L.out _ _;have BL:Hid (Below w.heap.size w ((s.setCell ⟨R,0,none⟩ (.int .i64 0)).setCell ⟨R,1,none⟩ (.int .i64 0))):=(XI SR.out.bel (p:=⟨R,0,none⟩) Q.out _).setCell (p:=⟨R,1,none⟩) Q.out _;go_wp2_with fail
   generalize (s.setCell ⟨R,0,none⟩ (.int .i64 0)).setCell ⟨R,1,none⟩ (.int .i64 0)=a6 at RB BL |-;have e0:=Qb RB.out 0 _ Z;have e1:=Qb RB.out 1 _ Z;exact Xy (v:=.agg #[.int .i64 0,.int .i64 0]) (by simp[results,results17,go_sem,e0,e1]) Z ⟨by rw[E.out],BL.out⟩
  have av:(k:Int)<m.length:=by omega
  have J:m[k]?=some m[k]:=Zg a4;generalize m[k]=f at J;have aa:=Qa J;obtain⟨C,D,ds,rfl,-,-,K,_,_,rfl,⟨rfl,_⟩,_,_,rfl,t1,_,_,rfl,t2,t3⟩:=Yf HM.out J
  obtain⟨a1,c1,rfl,t1⟩:=QM t1
  obtain⟨a2,c2,rfl,t2⟩:=QM t2
  obtain⟨a3,c3,rfl,t3⟩:=QM t3
  have v0:s.cell? ⟨C,D+k*4,none⟩=some (.int .i64 f.regs):=Qp (show w.cell? ⟨C,D+k*4,none⟩=_ from K 0 (by decide)) SR.out.bel;have v1:s.cell? ⟨C,D+k*4+1,none⟩=some (.slice a1 f.params.length c1):=Qp (show w.cell? ⟨C,D+k*4+1,none⟩=_ from K 1 (by decide)) SR.out.bel;have v2:s.cell? ⟨C,D+k*4+2,none⟩=some (.slice a2 f.results.length c2):=Qp (show w.cell? ⟨C,D+k*4+2,none⟩=_ from K 2 (by decide)) SR.out.bel;have v3:s.cell? ⟨C,D+k*4+3,none⟩=some (.slice a3 f.blocks.length c3):=Qp (show w.cell? ⟨C,D+k*4+3,none⟩=_ from K 3 (by decide)) SR.out.bel;have a7:Hid ((QcG 6).list.In w All f.blocks [.slice a3 f.blocks.length c3]):=t3;have az:Hid (f∈m):=Zm J;have bd:f.blocks.length<=30:=Xo fun h=>HG.out (.inr ⟨f,az.out,.inl h⟩);have b6:=QU s (.cells #[.int .i64 f.regs,.slice a1 f.params.length c1,.slice a2 f.results.length c2,.slice a3 f.blocks.length c3] 40);have S6:Hid (VcS w (s.alloc (.cells #[.int .i64 f.regs,.slice a1 f.params.length c1,.slice a2 f.results.length c2,.slice a3 f.blocks.length c3] 40)) X R A4 (some ⟨C,D,none⟩) H c l m):=SR.out.below b6;have BF:Hid (Blk (s.alloc (.cells #[.int .i64 f.regs,.slice a1 f.params.length c1,.slice a2 f.results.length c2,.slice a3 f.blocks.length c3] 40)) s.heap.size #[.int .i64 f.regs,.slice a1 f.params.length c1,.slice a2 f.results.length c2,.slice a3 f.blocks.length c3] 40):=Blk.new _ _ _;clear K t1 t2 t3 J b6 SR;go_upto_region 8 with fail
  generalize s.alloc (.cells #[.int .i64 f.regs,.slice a1 f.params.length c1,.slice a2 f.results.length c2,.slice a3 f.blocks.length c3] 40)=w6 at S6 BF |-;generalize s.heap.size=XF at BF |-;clear v0 v1 v2 v3;have t3:=Qb BF.out 3 _ Z;go_wp2_with fail
  clear t3 BF;go_loopw [29] (fun i wq=>∃ q:Nat,q<=f.blocks.length/\i=.int .i64 q/\VcS w wq X R A4 (some ⟨C,D,none⟩) H c l m/\∀ j g,j<q->f.blocks[j]?=some g->(QB (10000*(k:Int)+100*(j:Int)) g.fin (JSt.start m f g) 0 g.code).1=0) (fun i _=>f.blocks.length - (intOf i).toNat)
  case atStart=>exact⟨0,Xb _,Z,S6.out,fun j g hj=>absurd hj (XG _)⟩
  case round =>
   obtain⟨q,hq,rfl,hs,o⟩:=hrel
   have SQ:=Qa hs;have u:=Qa o;clear hs o S6;obtain⟨d,a0⟩:∃ d,d=wr:=⟨_,Z⟩
   subst a0;by_cases ay:q<f.blocks.length
   rotate_left
   ·have ar:¬ (q:Int)<f.blocks.length:=by omega
    have E:Hid ((Z7 m k f).1=0):=by
     show _=_;unfold Z7;rw[QT fun j g hj=>by rw[XK];exact u.out j g (by have:=(Zi hj).1;omega) hj]
    go_wp2_with fail
    go_roundw
    case rel =>
     refine⟨k+1,by omega,by go_num,SQ.out,fun j y hj hy=>?_⟩
     by_cases ad:j<k
     ·exact I.out j y ad hy
     ·have:j=k:=by omega
      subst this;rw[aa.out] at hy
      cases hy
      exact E.out
    case measure=>simp[intOf];omega
   have ar:(q:Int)<f.blocks.length:=by omega
   have N:f.blocks[q]?=some f.blocks[q]:=Zg ay;generalize f.blocks[q]=g at N;have ac:=Qa N;obtain⟨eg,eo,p1,d1,p2,d2,e,rfl,z,F,V,au⟩:=Qff a7.out N
   have aj:=Qa F;have ap:=Qa V;have a8:=Qa au;have ai:Hid (d.rangeAt eg (eo+q*12) (Value.int .i64 g.regs::Value.slice p1 g.params.length d1::Value.slice p2 g.code.length d2::(QaE g.fin e).toList)):=ZD z SQ.out.bel;generalize U:(Value.int .i64 g.regs::Value.slice p1 g.params.length d1::Value.slice p2 g.code.length d2::(QaE g.fin e).toList)=n at ai;have hl:n.length=12:=by rw[<-U];rfl
   have TS:Hid ((prog.info? 60).map (·.size)=some n.length):=by show _=_;rw[hl];exact pSizeB
   have TH:Hid ((d.alloc (.cells #[.int .i64 0,.slice none 0 0,.slice none 0 0,.int .i64 0,.int .i64 0,.int .i64 0,.slice none 0 0,.slice none 0 0,.int .i64 0,.slice none 0 0,.slice none 0 0,.slice none 0 0] 60)).there d.heap.size 0 n.toArray.size):=by
    intro j hj;rw[List.size_toArray,hl] at hj
    rw[XK]
    have hB:=Qm d #[.int .i64 0,.slice none 0 0,.slice none 0 0,.int .i64 0,.int .i64 0,.int .i64 0,.slice none 0 0,.slice none 0 0,.int .i64 0,.slice none 0 0,.slice none 0 0,.slice none 0 0] 60;refine⟨?_,Qn hB j⟩
    rw[Qb hB j ((#[.int .i64 0,.slice none 0 0,.slice none 0 0,.int .i64 0,.int .i64 0,.int .i64 0,.slice none 0 0,.slice none 0 0,.int .i64 0,.slice none 0 0,.slice none 0 0,.slice none 0 0]:Array Value)[j]'hj) (by simp)];rfl
   have aw:Hid ((prog.info? 60).map (·.size)=some n.toArray.size):=by show _=_;rw[List.size_toArray];exact TS.out
   have TO:Hid (n.toArray.all (·.oneCell')=true):=by
    refine all_oneCell_toArray fun v hv=>?_;rw[<-U] at hv
    simp only[QaE,List.mem_cons,List.not_mem_nil,or_false] at hv
    rcases hv with rfl | rfl | rfl | rfl | rfl | rfl | rfl | rfl | rfl | rfl | rfl | rfl<;>rfl
   have B6:Hid (Blk ((d.alloc (.cells #[.int .i64 0,.slice none 0 0,.slice none 0 0,.int .i64 0,.int .i64 0,.int .i64 0,.slice none 0 0,.slice none 0 0,.int .i64 0,.slice none 0 0,.slice none 0 0,.slice none 0 0] 60)).setCells d.heap.size 0 n.toArray.toList) d.heap.size n.toArray 60):=by
    have h0:Blk (d.alloc (.cells #[.int .i64 0,.slice none 0 0,.slice none 0 0,.int .i64 0,.int .i64 0,.int .i64 0,.slice none 0 0,.slice none 0 0,.int .i64 0,.slice none 0 0,.slice none 0 0,.slice none 0 0] 60)) d.heap.size ([]++(#[.int .i64 0,.slice none 0 0,.slice none 0 0,.int .i64 0,.int .i64 0,.int .i64 0,.slice none 0 0,.slice none 0 0,.int .i64 0,.slice none 0 0,.slice none 0 0,.slice none 0 0]:Array Value).toList).toArray 60:=Qm d _ _;exact Blk.sets n [] (#[.int .i64 0,.slice none 0 0,.slice none 0 0,.int .i64 0,.int .i64 0,.int .i64 0,.slice none 0 0,.slice none 0 0,.int .i64 0,.slice none 0 0,.slice none 0 0,.slice none 0 0]:Array Value).toList _ (by rw[hl];rfl) h0
   have b6:Hid (Below d.heap.size d ((d.alloc (.cells #[.int .i64 0,.slice none 0 0,.slice none 0 0,.int .i64 0,.int .i64 0,.int .i64 0,.slice none 0 0,.slice none 0 0,.int .i64 0,.slice none 0 0,.slice none 0 0,.slice none 0 0] 60)).setCells d.heap.size 0 n.toArray.toList)):=by
    have:=Zw.setCells (O:=fun k=>k=d.heap.size) (O':=fun k=>k=d.heap.size) (b:=d.heap.size) Z n.toArray.toList 0 _ (Zw.refl _ (d.alloc (.cells #[.int .i64 0,.slice none 0 0,.slice none 0 0,.int .i64 0,.int .i64 0,.int .i64 0,.slice none 0 0,.slice none 0 0,.int .i64 0,.slice none 0 0,.slice none 0 0,.slice none 0 0] 60)))
    exact(QU d _).trans (this.below (by simp) (fun k hk=>by omega))
   have ax:Hid ((Value.int .i64 g.regs::Value.slice p1 g.params.length d1::Value.slice p2 g.code.length d2::(QaE g.fin e).toList)=n):=U;clear hl U z F V au N;go_upto_region 11 with (first | (refine wpList_load_mid Z 60 (.tmp 32) Z eg (eo+q*12) Z n _ ai.out underlying60 Z TS.out ?_) | (refine wpList_store_mid Z 60 (.tmp 8) (.tmp 33) Z d.heap.size 0 n.toArray Z Z TH.out aw.out TO.out ?_))
   have B7:Hid (Blk ((d.alloc (.cells #[.int .i64 0,.slice none 0 0,.slice none 0 0,.int .i64 0,.int .i64 0,.int .i64 0,.slice none 0 0,.slice none 0 0,.int .i64 0,.slice none 0 0,.slice none 0 0,.slice none 0 0] 60)).setCells d.heap.size 0 n) d.heap.size n.toArray 60):=B6.out;have S7:Hid (VcS w ((d.alloc (.cells #[.int .i64 0,.slice none 0 0,.slice none 0 0,.int .i64 0,.int .i64 0,.int .i64 0,.slice none 0 0,.slice none 0 0,.int .i64 0,.slice none 0 0,.slice none 0 0,.slice none 0 0] 60)).setCells d.heap.size 0 n) X R A4 (some ⟨C,D,none⟩) H c l m):=SQ.out.below b6.out;clear B6 b6 TH aw TO ai SQ;generalize (d.alloc (.cells #[.int .i64 0,.slice none 0 0,.slice none 0 0,.int .i64 0,.int .i64 0,.int .i64 0,.slice none 0 0,.slice none 0 0,.int .i64 0,.slice none 0 0,.slice none 0 0,.slice none 0 0] 60)).setCells d.heap.size 0 n=w7 at B7 S7 |-;generalize d.heap.size=Bx at B7 |-;have y0:=Qb S7.out.a 0 _ Z;have ao:Hid (w7.rangeAt Bx 0 n):=Blk.range B7.out
   have CB:Hid (Calls prog 41 #[.agg #[.slice H m.length l],.int .i64 (k:Int),.int .i64 (q:Int),.agg n.toArray] w7 fun r w'=>r=.returned (QJ (QB (10000*(k:Int)+100*(q:Int)) g.fin (JSt.start m f g) 0 g.code))/\Below w7.heap.size w7 w'):=by
    have:=Qhq (w:=w7) (p:=H) (c:=l) (p1:=p1) (d1:=d1) ae.out HG.out S7.out.om aa.out ac.out (Ya aj.out S7.out.bel) (ap.out.below S7.out.bel) a8.out
    rw[<-ax.out]
    exact this
   obtain⟨t,A,af⟩:∃ t A,QB (10000*(k:Int)+100*(q:Int)) g.fin (JSt.start m f g) 0 g.code=(t,A):=⟨_,_,Z⟩
   have ak:=Qa af;rw[af] at CB
   clear af ax B7;go_wp2_with (refine wpList_load_mid Z 60 (.tmp 8) Z Bx 0 Z n _ ao.out underlying60 Z TS.out ?_)
   refine CB.out.mono ?_;rintro e8 w8 ⟨rfl,b8⟩;have b9:=b8.trans ((QU w8 (.cells #[.int .i64 t,.int .i64 A] 30)).mono b8.size);have S9:Hid (VcS w (w8.alloc (.cells #[.int .i64 t,.int .i64 A] 30)) X R A4 (some ⟨C,D,none⟩) H c l m):=S7.out.below b9;have F9:Hid (Blk (w8.alloc (.cells #[.int .i64 t,.int .i64 A] 30)) w8.heap.size #[.int .i64 t,.int .i64 A] 30):=Blk.new _ _ _;clear b8 b9 S7 CB ao TS y0;simp only[QJ]
   go_upto_region 12 with fail
   generalize w8.alloc (.cells #[.int .i64 t,.int .i64 A] 30)=w9 at S9 F9 |-;generalize w8.heap.size=F8 at F9 |-;have f0:=Qb F9.out 0 _ Z;have f1:=Qb F9.out 1 _ Z;by_cases T:t=0
   ·subst T;go_wp2_with fail
    go_roundw
    case rel =>
     refine⟨q+1,by omega,by go_num,S9.out,fun j y hj hy=>?_⟩
     by_cases ad:j<q
     ·exact u.out j y ad hy
     ·have:j=q:=by omega
      subst this;rw[ac.out] at hy
      cases hy
      rw[ak.out]
    case measure=>simp[intOf];omega
   ·have ba:(t != 0)=true:=by simpa using T
    have E:Hid (QY m=(t,A)):=by
     show _=_;rw[Qa4 ae.out aa.out I.out ac.out u.out (by rw[ak.out];exact T),ak.out]
    clear T;have L:Hid (Blk w9 R #[.int .i64 0,.int .i64 0] 30):=S9.out.r;have r0:=Qb L.out 0 _ Z;have r1:=Qb L.out 1 _ Z;have z0:=Qn L.out 0;have z1:=Qn L.out 1;have RB:Hid (Blk ((w9.setCell ⟨R,0,none⟩ (.int .i64 t)).setCell ⟨R,1,none⟩ (.int .i64 A)) R #[.int .i64 t,.int .i64 A] 30):=ZP L.out _ _;have BL:Hid (Below w.heap.size w ((w9.setCell ⟨R,0,none⟩ (.int .i64 t)).setCell ⟨R,1,none⟩ (.int .i64 A))):=(XI S9.out.bel (p:=⟨R,0,none⟩) Q.out _).setCell (p:=⟨R,1,none⟩) Q.out _;go_wp2_with fail
    generalize (w9.setCell ⟨R,0,none⟩ (.int .i64 t)).setCell ⟨R,1,none⟩ (.int .i64 A)=a6 at RB BL |-;have e0:=Qb RB.out 0 _ Z;have e1:=Qb RB.out 1 _ Z;exact Xy (v:=.agg #[.int .i64 t,.int .i64 A]) (by simp[results,results17,go_sem,e0,e1]) Z ⟨by rw[E.out],BL.out⟩
def T00:MTo:=⟨0,[],[]⟩
def E00:MEnd:=⟨3,0,T00,T00,[]⟩
theorem QbQ {α:Type}{A:Lay α}{c:Array Value}{x:α}(h:Blk w G c t) (d:c.toList=cs) (e:A.In w All x cs):A.list.In w All [x] [.slice (some ⟨G,0,none⟩) 1 1]:=by
 refine⟨some ⟨G,0,none⟩,1,Z,fun i y b=>?_⟩
 have g:i=0:=by
  have:=(Zi b).1
  simp at this;exact this
 subst g;simp at b
 subst b;refine⟨G,0,cs,Z,Y,h.lt,fun j k=>?_,e⟩
 have f:=A.len e;have a:j<c.size:=by rw[<-d] at f;simp at f;omega
 rw[Nat.zero_mul,XK,<-d,Array.getElem?_toList]
 exact(Qb h j c[j] (Xj a)).trans (Xj a).symm
theorem QjS (w:World):EIn w All E00 ⟨none,0,none,0,none,0,none,0,none,0⟩ :=
 ⟨⟨Yg _ _ _ _ _,Yg _ _ _ _ _,by decide⟩,⟨Yg _ _ _ _ _,Yg _ _ _ _ _,by decide⟩,Yg _ _ _ _ _,by decide,by decide⟩
def Qjs (w w':World) (e:Ending):Prop:=∃ G1 G2,e=.returned (.agg #[.slice (some ⟨G2,0,none⟩) 1 1])/\Blk w' G1 #[.int .i64 0,.slice none 0 0,.slice none 0 0,.int .i64 3,.int .i64 0,.int .i64 0,.slice none 0 0,.slice none 0 0,.int .i64 0,.slice none 0 0,.slice none 0 0,.slice none 0 0] 60/\Blk w' G2 #[.int .i64 0,.slice none 0 0,.slice none 0 0,.slice (some ⟨G1,0,none⟩) 1 1] 40/\w.heap.size<=G1/\w.heap.size<=G2/\G1≠G2/\Below w.heap.size w w'
theorem Qfb (w:World):Calls prog 23 #[] w fun e w'=>Qjs w w' e:=by
 refine Qv (n:=7) func23 Z Z Z <| fun a u=>?_
 have O:=Ye w;replace u:Fr 7 a []:=u;refine XW fun R C=>rg u fun B=>QcU O Y Z <| fun D T p q=>Yb fun Q M=>C _ _ <| XW fun S x=>rg M fun B=>fun P E=>Zh (t:=1) (v:=.agg #[.int .i64 3,.int .i64 0,.int .i64 0,.slice none 0 0,.slice none 0 0,.int .i64 0,.slice none 0 0,.slice none 0 0,.slice none 0 0]) (w':=D) E Z Z Z (fun K d=>?_) ?_
 ·go_simp
  exact d
 clear E;intro L h;refine Zh (t:=2) (v:=.agg #[.int .i64 0,.slice none 0 0,.slice none 0 0,.int .i64 3,.int .i64 0,.int .i64 0,.slice none 0 0,.slice none 0 0,.int .i64 0,.slice none 0 0,.slice none 0 0,.slice none 0 0]) (w':=D) h Z Z Z (fun K d=>?_) ?_
 ·have r:L.tmps[1]?.getD undef=.agg #[.int .i64 3,.int .i64 0,.int .i64 0,.slice none 0 0,.slice none 0 0,.int .i64 0,.slice none 0 0,.slice none 0 0,.slice none 0 0]:=h.sl2 1 _ Z
  go_simp;exact d
 clear h;intro H j;refine QeP (t:=3) #[.int .i64 0,.slice none 0 0,.slice none 0 0,.int .i64 3,.int .i64 0,.int .i64 0,.slice none 0 0,.slice none 0 0,.int .i64 0,.slice none 0 0,.slice none 0 0,.slice none 0 0] 60 1 j p Z Z Z (fun K d=>?_) ?_
 ·have r:H.tmps[2]?.getD undef=.agg #[.int .i64 0,.slice none 0 0,.slice none 0 0,.int .i64 3,.int .i64 0,.int .i64 0,.slice none 0 0,.slice none 0 0,.int .i64 0,.slice none 0 0,.slice none 0 0,.slice none 0 0]:=j.sl2 2 _ Z
  go_simp;exact d
 clear j p;intro I J m o q i;clear q;refine Zh (t:=4) (v:=.agg #[.int .i64 0,.slice none 0 0,.slice none 0 0,.slice (some ⟨m,0,none⟩) 1 1]) (w':=J) i Z Z Z (fun K d=>?_) ?_
 ·have r:I.tmps[3]?.getD undef=.slice (some ⟨m,0,none⟩) 1 1:=i.sl2 3 _ Z
  go_simp;exact d
 clear i;intro y f;refine QeP (t:=5) #[.int .i64 0,.slice none 0 0,.slice none 0 0,.slice (some ⟨m,0,none⟩) 1 1] 40 1 f o Z Z Z (fun K d=>?_) ?_
 ·have r:y.tmps[4]?.getD undef=.agg #[.int .i64 0,.slice none 0 0,.slice none 0 0,.slice (some ⟨m,0,none⟩) 1 1]:=f.sl2 4 _ Z
  go_simp;exact d
 clear f o;intro z s g l q c;clear q;refine Zh (t:=6) (v:=.agg #[.slice (some ⟨g,0,none⟩) 1 1]) (w':=s) c Z Z Z (fun K d=>?_) ?_
 ·have r:z.tmps[5]?.getD undef=.slice (some ⟨g,0,none⟩) 1 1:=c.sl2 5 _ Z
  go_simp;exact d
 clear c;intro N k;refine St.go k <| sT 2 l Z Z infModule Z Z Z <| fun F b=>Yb fun G A=>x _ _ ?_
 refine XA ?_;with_reducible repeat first | refine Qd ?_ | refine Qc ?_
 exact QW 2 A b Z Z Z underlying24 Z infModule ⟨m,g,Z,b.get 1 Z,b.get 0 Z,b.new 1 _ Z,b.new 0 _ Z,fun e=>absurd (b.nd 1 0 _ _ Z Z e) (by decide),b.bel⟩
def g06:Qe 6:=⟨0,[],[],E00⟩
def f06:Qf 6:=⟨0,[],[],[g06]⟩
def L06:List (Qf 6):=[f06]
theorem L06_fault:Qj L06=(0,0):=by decide +kernel
theorem L06_not:¬ Zd L06:=by
 rintro (h | ⟨x,b,h⟩)
 ·exact absurd h (by decide)
 ·simp only[L06,List.mem_singleton] at b
  subst b;rcases h with h | h | h | ⟨y,c,h⟩
  ·exact absurd h (by decide)
  ·rcases h with h | ⟨t,a,_⟩
   ·exact absurd h (by decide)
   ·cases a
  ·rcases h with h | ⟨t,a,_⟩
   ·exact absurd h (by decide)
   ·cases a
  ·simp only[f06,List.mem_singleton] at c
   subst c;rcases h with h | h | h | h | h | h | h | ⟨z,d,h⟩
   ·exact absurd h (by decide)
   ·rcases h with h | ⟨t,a,_⟩
    ·exact absurd h (by decide)
    ·cases a
   ·exact absurd h (by decide)
   ·exact absurd h (by decide)
   ·exact absurd h (by decide)
   ·exact absurd h (by decide)
   ·exact absurd h (by decide)
   ·cases d
def bI (k:Int):QC:=⟨k,0,0,0,0,0,[],[]⟩
def bS0:JSt:=JSt.start L06 f06 g06
def v5b:QC:=⟨1,0,0,0,0,1,[],[]⟩
def v5c:QC:=⟨5,0,0,0,0,0,[],[1]⟩
def v5e:QC:=⟨6,2,0,0,0,0,[],[]⟩
def vc5:List QC:=[bI 3,v5b,v5c,bI 4,v5e]
def g56:Qe 6:=⟨0,[],vc5,E00⟩
def f56:Qf 6:=⟨0,[],[],[g56]⟩
def L56:List (Qf 6):=[f56]
theorem L56_fault:Qj L56=(0,0):=by decide +kernel
theorem L56_not:¬ Zd L56:=by
 rintro (h | ⟨x,c,h⟩)
 ·exact absurd h (by decide)
 ·simp only[L56,List.mem_singleton] at c
  subst c;rcases h with h | h | h | ⟨y,d,h⟩
  ·exact absurd h (by decide)
  ·rcases h with h | ⟨t,a,_⟩
   ·exact absurd h (by decide)
   ·cases a
  ·rcases h with h | ⟨t,a,_⟩
   ·exact absurd h (by decide)
   ·cases a
  ·simp only[f56,List.mem_singleton] at d
   subst d;rcases h with h | h | h | h | h | h | h | ⟨z,b,h⟩
   ·exact absurd h (by decide)
   ·rcases h with h | ⟨t,a,_⟩
    ·exact absurd h (by decide)
    ·cases a
   ·exact absurd h (by decide)
   ·exact absurd h (by decide)
   ·exact absurd h (by decide)
   ·exact absurd h (by decide)
   ·exact absurd h (by decide)
   ·have b:z∈vc5:=b;simp only[vc5,List.mem_cons,List.not_mem_nil,or_false] at b
    rcases b with rfl | rfl | rfl | rfl | rfl<;>exact absurd h (by decide)
def vtup:TT 6:=TT.at (n:=7) 5 (mkT 3 0 [tInt])
def vS0:JSt:=⟨L56,f56,[],[]⟩
def vS1:JSt:=⟨L56,f56,[true],[mkT 2 0 []]⟩
def vS2:JSt:=⟨L56,f56,[true],[mkT 2 0 [],tInt]⟩
def vS3:JSt:=⟨L56,f56,[true],[mkT 2 0 [],tInt,vtup]⟩
def vS4:JSt:=⟨L56,f56,[false],[mkT 2 0 [],tInt,vtup]⟩
theorem QeG {s b:JSt}{x:QC}{a:List (TT 6)}(c:s.makes x=(0,a)) (e:x.form s.m.length=0) (f:s.L.length+a.length<=80) (d:s.next x=b):s.code x=0/\s.next x=b:=by
 refine⟨?_,d⟩
 unfold JSt.code;rw[Xr (fun h=>h e),c]
 simp only[ne_eq,not_true_eq_false,if_false]
 rw[Xr (by omega)]
theorem vb1:vS0.code (bI 3)=0/\vS0.next (bI 3)=vS1:=by
 have a:vS0.makes (bI 3)=(0,[mkT 2 0 []]):=by rw[QaQ Z];rfl
 exact QeG a (by decide) (by decide) (by unfold JSt.next;rw[a];rfl)
theorem vb2:vS1.code v5b=0/\vS1.next v5b=vS2:=by
 have a:vS1.makes v5b=(0,[tInt]):=Z4 (.inl Z);exact QeG a (by decide) (by decide) (by unfold JSt.next;rw[a];rfl)
theorem vb3:vS2.code v5c=0/\vS2.next v5c=vS3:=by
 have b:vS2.want 0 2 true=0:=by decide
 have c:¬ 4<TT.height (n:=7) (mkT 3 0 [tInt]):=by decide
 have a:vS2.makes v5c=(0,[vtup]):=by
  rw[Qaw Z]
  show (if vS2.want 0 2 true=0 then _ else _)=_;rw[Xs b]
  show (if 4<TT.height (n:=7) (mkT 3 0 [tInt]) then _ else _)=_;rw[Xr c]
  rfl
 exact QeG a (by decide) (by decide) (by unfold JSt.next;rw[a];rfl)
theorem vb4:vS3.code (bI 4)=0/\vS3.next (bI 4)=vS4:=by
 have b:vS3.want 0 2 true=0:=by decide
 have a:vS3.makes (bI 4)=(0,[]):=by rw[Qap Z];show (code2 (vS3.want 0 2 true) _,_)=_;rw[b];rfl
 exact QeG a (by decide) (by decide) (by unfold JSt.next;rw[a];rfl)
theorem vb5:vS4.code v5e=10:=by
 have a:vS4.want 2 3 true=10:=by decide
 have b:vS4.makes v5e=(10,[]):=by
  rw[Qbh Z]
  show (if vS4.want 2 3 true=0 then _ else (vS4.want 2 3 true,_))=_;rw[a]
  rfl
 unfold JSt.code;rw[Xr (fun h=>h (by decide)),b]
 rfl
theorem L56_run:QY L56=(10,4):=by
 have c:∀ a e,QB a e vS0 0 vc5=(10,a+4):=by
  intro a e;unfold vc5;rw[QB,Xr (fun h=>h vb1.1),vb1.2,QB,Xr (fun h=>h vb2.1),vb2.2,QB,Xr (fun h=>h vb3.1),vb3.2,QB,Xr (fun h=>h vb4.1),vb4.2,QB,Xs (by rw[vb5];decide),vb5]
  rfl
 have d:=Qa4 (m:=L56) (k:=0) (q:=0) (f:=f56) (g:=g56) (by rw[L56_fault]) Z (fun j y b=>absurd b (XG _)) Z (fun j y b=>absurd b (XG _)) (by
  show (QB _ _ vS0 0 vc5).1≠0;rw[c];decide)
 rw[d]
 show QB _ _ vS0 0 vc5=_;rw[c];rfl
theorem L06_run:QY L06=(0,0):=by
 have d:bS0.fin E00=0:=by
  unfold JSt.fin;rw[Xr (by decide),Xr (by decide),Xr (by decide)]
  show code2 (bS0.args [] [] _) _=0
  have:bS0.args [] [] (Qba bS0.f.regs.toNat)=0:=by unfold JSt.args;simp[QE]
  rw[this]
  decide
 have e:∀ a,QB a E00 bS0 0 []=(0,0):=fun a=>by rw[QB,Xr (fun h=>h d)]
 unfold QY;rw[Xr (by rw[L06_fault];decide)]
 refine QT fun k y c=>?_;have b:k=0:=by have:=(Zi c).1;simp[L06] at this;exact this
 subst b
 cases c
 unfold Z7;rw[QT]
 intro k y c;have b:k=0:=by have:=(Zi c).1;simp[f06] at this;exact this
 subst b
 cases c
 exact congrArg Prod.fst (e _)
theorem Qfx {α:Type}{A:Lay α}{cs:Array Value}{l:List α}(h:Blk w G cs t) (k:l.length=n) (a:∀ (i:Nat) x,l[i]?=some x->∃ ds,A.In w All x ds/\∀ j,j<A.size->∃ v,cs[i*A.size+j]?=some v/\ds[j]?=some v) (c:Nat):A.list.In w All l [.slice (some ⟨G,0,none⟩) n c] :=
 ⟨_,_,by rw[k],fun i x e=>by
  obtain⟨ds,d,f⟩:=a i x e
  refine⟨G,0,ds,Z,Y,h.lt,fun j m=>?_,d⟩
  obtain⟨v,g,b⟩:=f j m
  rw[XK,b]
  exact Qb h _ v g⟩
theorem QlQ (w:World):intsC.In w All ([]:List Int) [.slice none 0 0]:=⟨⟨_,_,Z,Ze⟩,Yg _ _ _ _ _⟩
theorem Qhe {b a:Nat}(c:Blk w b #[.int .i64 0,.slice none 0 0,.slice none 0 0,.int .i64 3,.int .i64 0,.int .i64 0,.slice none 0 0,.slice none 0 0,.int .i64 0,.slice none 0 0,.slice none 0 0,.slice none 0 0] 60) (d:Blk w a #[.int .i64 0,.slice none 0 0,.slice none 0 0,.slice (some ⟨b,0,none⟩) 1 1] 40):(Qks 6).In w All L06 [.slice (some ⟨a,0,none⟩) 1 1] :=
 QbQ d Z ⟨[_],_,Z,⟨Z,by decide⟩,[_],_,Z,Yg _ _ _ _ _,[_],_,Z,Yg _ _ _ _ _,QbQ (A:=QcG 6) (x:=g06) c Z ⟨[_],_,Z,⟨Z,by decide⟩,[_],_,Z,Yg _ _ _ _ _,[_],_,Z,Yg _ _ _ _ _,QcX (QjS w)⟩⟩
theorem Qjn {e d:Nat}(f:Blk w e #[.int .i64 3,.int .i64 0,.int .i64 0,.int .i64 0,.int .i64 0,.int .i64 0,.slice none 0 0,.slice none 0 0,.int .i64 1,.int .i64 0,.int .i64 0,.int .i64 0,.int .i64 0,.int .i64 1,.slice none 0 0,.slice none 0 0,.int .i64 5,.int .i64 0,.int .i64 0,.int .i64 0,.int .i64 0,.int .i64 0,.slice none 0 0,.slice (some ⟨d,0,none⟩) 1 1,.int .i64 4,.int .i64 0,.int .i64 0,.int .i64 0,.int .i64 0,.int .i64 0,.slice none 0 0,.slice none 0 0,.int .i64 6,.int .i64 2,.int .i64 0,.int .i64 0,.int .i64 0,.int .i64 0,.slice none 0 0,.slice none 0 0] 46) (h:Blk w d #[.int .i64 1] 3):insC.list.In w All vc5 [.slice (some ⟨e,0,none⟩) 5 5]:=by
 have b:=QlQ w;have g:intsC.In w All [1] [.slice (some ⟨d,0,none⟩) 1 1]:=⟨⟨_,_,Z,Ze⟩,QbQ h Z ⟨Z,by decide⟩⟩;refine Qfx f Z (fun i x a=>?_) 5;match i,a with
 | 0,a=>cases a;exact⟨_,QaK (x:=bI 3) b b (by decide),fun j c=>by rcases j with _ | _ | _ | _ | _ | _ | _ | _ | j<;>first | exact⟨_,Z,Z⟩ | (exfalso;have:insC.size=8:=rfl;omega)⟩
 | 1,a=>cases a;exact⟨_,QaK (x:=v5b) b b (by decide),fun j c=>by rcases j with _ | _ | _ | _ | _ | _ | _ | _ | j<;>first | exact⟨_,Z,Z⟩ | (exfalso;have:insC.size=8:=rfl;omega)⟩
 | 2,a=>cases a;exact⟨_,QaK (x:=v5c) b g (by decide),fun j c=>by rcases j with _ | _ | _ | _ | _ | _ | _ | _ | j<;>first | exact⟨_,Z,Z⟩ | (exfalso;have:insC.size=8:=rfl;omega)⟩
 | 3,a=>cases a;exact⟨_,QaK (x:=bI 4) b b (by decide),fun j c=>by rcases j with _ | _ | _ | _ | _ | _ | _ | _ | j<;>first | exact⟨_,Z,Z⟩ | (exfalso;have:insC.size=8:=rfl;omega)⟩
 | 4,a=>cases a;exact⟨_,QaK (x:=v5e) b b (by decide),fun j c=>by rcases j with _ | _ | _ | _ | _ | _ | _ | _ | j<;>first | exact⟨_,Z,Z⟩ | (exfalso;have:insC.size=8:=rfl;omega)⟩
 | i+5,a=>exact absurd (Zi a).1 (by show ¬ i+5<5;omega)
theorem Qkm {d a c b:Nat}(g:Blk w d #[.int .i64 0,.slice none 0 0,.slice (some ⟨c,0,none⟩) 5 5,.int .i64 3,.int .i64 0,.int .i64 0,.slice none 0 0,.slice none 0 0,.int .i64 0,.slice none 0 0,.slice none 0 0,.slice none 0 0] 60) (h:Blk w a #[.int .i64 0,.slice none 0 0,.slice none 0 0,.slice (some ⟨d,0,none⟩) 1 1] 40) (e:Blk w c #[.int .i64 3,.int .i64 0,.int .i64 0,.int .i64 0,.int .i64 0,.int .i64 0,.slice none 0 0,.slice none 0 0,.int .i64 1,.int .i64 0,.int .i64 0,.int .i64 0,.int .i64 0,.int .i64 1,.slice none 0 0,.slice none 0 0,.int .i64 5,.int .i64 0,.int .i64 0,.int .i64 0,.int .i64 0,.int .i64 0,.slice none 0 0,.slice (some ⟨b,0,none⟩) 1 1,.int .i64 4,.int .i64 0,.int .i64 0,.int .i64 0,.int .i64 0,.int .i64 0,.slice none 0 0,.slice none 0 0,.int .i64 6,.int .i64 2,.int .i64 0,.int .i64 0,.int .i64 0,.int .i64 0,.slice none 0 0,.slice none 0 0] 46) (f:Blk w b #[.int .i64 1] 3):(Qks 6).In w All L56 [.slice (some ⟨a,0,none⟩) 1 1] :=
 QbQ h Z ⟨[_],_,Z,⟨Z,by decide⟩,[_],_,Z,Yg _ _ _ _ _,[_],_,Z,Yg _ _ _ _ _,QbQ (A:=QcG 6) (x:=g56) g Z ⟨[_],_,Z,⟨Z,by decide⟩,[_],_,Z,Yg _ _ _ _ _,[_],_,Z,Qjn e f,QcX (QjS w)⟩⟩
theorem QlN (c a:Int) (w:World):(Instr.field 30 (.agg #[.int .i64 c,.int .i64 a]) 0).run prog w=.ok (.int .i64 c) w:=by
 have b:=underlying30
 first
  | rfl
  | simp[Instr.run,go_sem,b]
theorem Qdj (w:World):Calls prog 15 #[] w fun e w'=>e=.returned (.bool true)/\Below w.heap.size w w':=by
 go_enter func15,ntmps15
 go_wp2_with fail
 refine(Qfb w).mono ?_
 rintro e1 i ⟨a,d,rfl,t,C,n1,n2,F,J⟩;have G:=QU i (.cells #[.slice (some ⟨d,0,none⟩) 1 1] 24);have B:Hid (Blk (i.alloc (.cells #[.slice (some ⟨d,0,none⟩) 1 1] 24)) a #[.int .i64 0,.slice none 0 0,.slice none 0 0,.int .i64 3,.int .i64 0,.int .i64 0,.slice none 0 0,.slice none 0 0,.int .i64 0,.slice none 0 0,.slice none 0 0,.slice none 0 0] 60):=t.below G;have z:Hid (Blk (i.alloc (.cells #[.slice (some ⟨d,0,none⟩) 1 1] 24)) d #[.int .i64 0,.slice none 0 0,.slice none 0 0,.slice (some ⟨a,0,none⟩) 1 1] 40):=C.below G;have s:Hid (Blk (i.alloc (.cells #[.slice (some ⟨d,0,none⟩) 1 1] 24)) i.heap.size #[.slice (some ⟨d,0,none⟩) 1 1] 24):=Blk.new _ _ _;have I:Hid (Below w.heap.size w (i.alloc (.cells #[.slice (some ⟨d,0,none⟩) 1 1] 24))):=J.trans (G.mono J.size);have M:Hid (w.heap.size<=a/\a≠d/\a<i.heap.size):=⟨n1,by first | exact F | exact Ne.symm F | exact fun e=>F e.symm,t.lt⟩;clear t C n1 n2 F J G;go_upto_region 2 with fail
 generalize i.alloc (.cells #[.slice (some ⟨d,0,none⟩) 1 1] 24)=b at B z s I |-;generalize i.heap.size=Y at s M |-;have y0:=Qb s.out 0 _ Z;have u3:=Qb z.out 3 _ Z;have k:Blk ((b.alloc (.cells #[.int .i64 1] 3)).alloc (.cells #[.int .i64 3,.int .i64 0,.int .i64 0,.int .i64 0,.int .i64 0,.int .i64 0,.slice none 0 0,.slice none 0 0,.int .i64 1,.int .i64 0,.int .i64 0,.int .i64 0,.int .i64 0,.int .i64 1,.slice none 0 0,.slice none 0 0,.int .i64 5,.int .i64 0,.int .i64 0,.int .i64 0,.int .i64 0,.int .i64 0,.slice none 0 0,.slice (some ⟨b.heap.size,0,none⟩) 1 1,.int .i64 4,.int .i64 0,.int .i64 0,.int .i64 0,.int .i64 0,.int .i64 0,.slice none 0 0,.slice none 0 0,.int .i64 6,.int .i64 2,.int .i64 0,.int .i64 0,.int .i64 0,.int .i64 0,.slice none 0 0,.slice none 0 0] 46)) a #[.int .i64 0,.slice none 0 0,.slice none 0 0,.int .i64 3,.int .i64 0,.int .i64 0,.slice none 0 0,.slice none 0 0,.int .i64 0,.slice none 0 0,.slice none 0 0,.slice none 0 0] 60:=(B.out.below (QU b (.cells #[.int .i64 1] 3))).below (QU (b.alloc (.cells #[.int .i64 1] 3)) (.cells #[.int .i64 3,.int .i64 0,.int .i64 0,.int .i64 0,.int .i64 0,.int .i64 0,.slice none 0 0,.slice none 0 0,.int .i64 1,.int .i64 0,.int .i64 0,.int .i64 0,.int .i64 0,.int .i64 1,.slice none 0 0,.slice none 0 0,.int .i64 5,.int .i64 0,.int .i64 0,.int .i64 0,.int .i64 0,.int .i64 0,.slice none 0 0,.slice (some ⟨b.heap.size,0,none⟩) 1 1,.int .i64 4,.int .i64 0,.int .i64 0,.int .i64 0,.int .i64 0,.int .i64 0,.slice none 0 0,.slice none 0 0,.int .i64 6,.int .i64 2,.int .i64 0,.int .i64 0,.int .i64 0,.int .i64 0,.slice none 0 0,.slice none 0 0] 46));have c2:=Qb k 2 _ Z;have z2:=Qn k 2;clear k;obtain⟨g,h⟩:∃ g,g=b.heap.size:=⟨_,Z⟩
 obtain⟨j,n⟩:∃ j,j=g+1:=⟨_,Z⟩
 have W3:Hid (∀ f,f=((b.alloc (.cells #[.int .i64 1] 3)).alloc (.cells #[.int .i64 3,.int .i64 0,.int .i64 0,.int .i64 0,.int .i64 0,.int .i64 0,.slice none 0 0,.slice none 0 0,.int .i64 1,.int .i64 0,.int .i64 0,.int .i64 0,.int .i64 0,.int .i64 1,.slice none 0 0,.slice none 0 0,.int .i64 5,.int .i64 0,.int .i64 0,.int .i64 0,.int .i64 0,.int .i64 0,.slice none 0 0,.slice (some ⟨g,0,none⟩) 1 1,.int .i64 4,.int .i64 0,.int .i64 0,.int .i64 0,.int .i64 0,.int .i64 0,.slice none 0 0,.slice none 0 0,.int .i64 6,.int .i64 2,.int .i64 0,.int .i64 0,.int .i64 0,.int .i64 0,.slice none 0 0,.slice none 0 0] 46)).setCell ⟨a,2,none⟩ (.slice (some ⟨j,0,none⟩) 5 5)->Blk f a #[.int .i64 0,.slice none 0 0,.slice (some ⟨j,0,none⟩) 5 5,.int .i64 3,.int .i64 0,.int .i64 0,.slice none 0 0,.slice none 0 0,.int .i64 0,.slice none 0 0,.slice none 0 0,.slice none 0 0] 60/\Blk f d #[.int .i64 0,.slice none 0 0,.slice none 0 0,.slice (some ⟨a,0,none⟩) 1 1] 40/\Blk f j #[.int .i64 3,.int .i64 0,.int .i64 0,.int .i64 0,.int .i64 0,.int .i64 0,.slice none 0 0,.slice none 0 0,.int .i64 1,.int .i64 0,.int .i64 0,.int .i64 0,.int .i64 0,.int .i64 1,.slice none 0 0,.slice none 0 0,.int .i64 5,.int .i64 0,.int .i64 0,.int .i64 0,.int .i64 0,.int .i64 0,.slice none 0 0,.slice (some ⟨g,0,none⟩) 1 1,.int .i64 4,.int .i64 0,.int .i64 0,.int .i64 0,.int .i64 0,.int .i64 0,.slice none 0 0,.slice none 0 0,.int .i64 6,.int .i64 2,.int .i64 0,.int .i64 0,.int .i64 0,.int .i64 0,.slice none 0 0,.slice none 0 0] 46/\Blk f g #[.int .i64 1] 3/\Blk f Y #[.slice (some ⟨d,0,none⟩) 1 1] 24/\Below w.heap.size w f):=by
  rintro f rfl;have S:=M.out;have l:=QU b (.cells #[.int .i64 1] 3);have r:=QU (b.alloc (.cells #[.int .i64 1] 3)) (.cells #[.int .i64 3,.int .i64 0,.int .i64 0,.int .i64 0,.int .i64 0,.int .i64 0,.slice none 0 0,.slice none 0 0,.int .i64 1,.int .i64 0,.int .i64 0,.int .i64 0,.int .i64 0,.int .i64 1,.slice none 0 0,.slice none 0 0,.int .i64 5,.int .i64 0,.int .i64 0,.int .i64 0,.int .i64 0,.int .i64 0,.slice none 0 0,.slice (some ⟨g,0,none⟩) 1 1,.int .i64 4,.int .i64 0,.int .i64 0,.int .i64 0,.int .i64 0,.int .i64 0,.slice none 0 0,.slice none 0 0,.int .i64 6,.int .i64 2,.int .i64 0,.int .i64 0,.int .i64 0,.int .i64 0,.slice none 0 0,.slice none 0 0] 46);have s4:(b.alloc (.cells #[.int .i64 1] 3)).heap.size=b.heap.size+1:=World.size_alloc ..;have H:=l.trans (r.mono l.size);have l1:=B.out.lt;have l2:=z.out.lt;have lY:=s.out.lt;refine⟨?_,Blk.setOther (p:=⟨a,2,none⟩) (z.out.below H) (by show a≠d;exact S.2.1) _,Blk.setOther (p:=⟨a,2,none⟩) ?_ (by show a≠j;omega) _,Blk.setOther (p:=⟨a,2,none⟩) ?_ (by show a≠g;omega) _,Blk.setOther (p:=⟨a,2,none⟩) (s.out.below H) (by show a≠Y;omega) _,(I.out.trans (H.mono I.out.size)).setCell (p:=⟨a,2,none⟩) S.1 _⟩
  ·have:=Qq (B.out.below H) 2 (.slice (some ⟨j,0,none⟩) 5 5)
   simpa using this
  ·have:=Blk.new (b.alloc (.cells #[.int .i64 1] 3)) #[.int .i64 3,.int .i64 0,.int .i64 0,.int .i64 0,.int .i64 0,.int .i64 0,.slice none 0 0,.slice none 0 0,.int .i64 1,.int .i64 0,.int .i64 0,.int .i64 0,.int .i64 0,.int .i64 1,.slice none 0 0,.slice none 0 0,.int .i64 5,.int .i64 0,.int .i64 0,.int .i64 0,.int .i64 0,.int .i64 0,.slice none 0 0,.slice (some ⟨g,0,none⟩) 1 1,.int .i64 4,.int .i64 0,.int .i64 0,.int .i64 0,.int .i64 0,.int .i64 0,.slice none 0 0,.slice none 0 0,.int .i64 6,.int .i64 2,.int .i64 0,.int .i64 0,.int .i64 0,.int .i64 0,.slice none 0 0,.slice none 0 0] 46
   rw[s4,<-h,<-n] at this
   exact this
  ·have:=(Blk.new b #[.int .i64 1] 3).below r
   rw[<-h] at this
   exact this
 have u:=Qa h;have E:=Qa n;clear h n B z s I M;go_upto_region 3 with fail
 rw[<-u.out,<-E.out]
 generalize x:((b.alloc (.cells #[.int .i64 1] 3)).alloc (.cells #[.int .i64 3,.int .i64 0,.int .i64 0,.int .i64 0,.int .i64 0,.int .i64 0,.slice none 0 0,.slice none 0 0,.int .i64 1,.int .i64 0,.int .i64 0,.int .i64 0,.int .i64 0,.int .i64 1,.slice none 0 0,.slice none 0 0,.int .i64 5,.int .i64 0,.int .i64 0,.int .i64 0,.int .i64 0,.int .i64 0,.slice none 0 0,.slice (some ⟨g,0,none⟩) 1 1,.int .i64 4,.int .i64 0,.int .i64 0,.int .i64 0,.int .i64 0,.int .i64 0,.slice none 0 0,.slice none 0 0,.int .i64 6,.int .i64 2,.int .i64 0,.int .i64 0,.int .i64 0,.int .i64 0,.slice none 0 0,.slice none 0 0] 46)).setCell ⟨a,2,none⟩ (.slice (some ⟨j,0,none⟩) 5 5)=f;obtain⟨p1,V,R,T,Q,X⟩:=W3.out f x.symm
 have M5:=Qa (Qkm p1 V R T);have P:=Qa Q;have K:=Qa X;clear x W3 p1 V R T Q X y0 u3 c2 z2 u E;go_wp2_with fail
 refine(Qfb f).mono ?_
 rintro e4 w4 ⟨G3,G4,rfl,t,C,-,-,-,l⟩;have W:=Qa (Qhe t C);have A:=Qa (Ya M5.out l);have v:=Qa (P.out.below l);have q:=Qa (K.out.trans (l.mono K.out.size));clear t C l M5 P K;have U:=QlN;have L:=Qa (Qcr (w:=w4) (m:=L06) (c:=1) W.out (Qah L06_not) (fun _=>L06_not));rw[L06_run] at L
 go_wp2_with fail
 refine L.out.mono ?_;rintro e5 w5 ⟨rfl,r⟩;have D:=Qa (Ya A.out r);have y:=Qa (v.out.below r);have o:=Qa (q.out.trans (r.mono q.out.size));clear r A v q W L;have y5:=Qb y.out 0 _ Z;have O:=Qa (Qcr (w:=w5) (m:=L56) (c:=1) D.out (Qah L56_not) (fun _=>L56_not));rw[L56_run] at O
 simp only[QJ]
 go_wp2_with fail
 refine O.out.mono ?_;rintro e6 w6 ⟨rfl,b6⟩;have N:=Qa (o.out.trans (b6.mono o.out.size));clear b6 D y o O y5;simp only[QJ]
 go_wp2_with fail
 go_ret;exact⟨Z,N.out⟩
end Go.Proofs.YtlnkdhnibcenbaeGreat
