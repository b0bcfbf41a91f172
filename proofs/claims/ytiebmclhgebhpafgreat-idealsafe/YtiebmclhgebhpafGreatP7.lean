import Derived.Test.YtiebmclhgebhpafGreatP6
set_option maxHeartbeats 16000000
set_option maxRecDepth 100000
namespace Go.Proofs.YtiebmclhgebhpafGreat
open Go.ChangeShapes Go.WideShapes Go.ChangeAt Go.RowKit _root_.Go.Proofs.Tryz
set_option linter.unusedSimpArgs false
set_option linter.unusedVariables false
variable {w w' w6 w2 wc wr w1:World}{n b c X k m i B rc ac g cm N j fi bi bh R f q id cap most na ca fm d x fl cR rl al fc fd cA bl pages o ci lm cL fe:Nat}{O O' Q2 OO:Nat→Prop}{a p ag pm pa pR pA ra pi aa fp fq:Option Addr}{v u:Value}{Q:Exit→Act→World→Prop}{l inp:List Int}{t bt e:TypeId}{xa xc xb xk fr words xop xn:Int}{P:Program}{cs xs ds:List Value}{bs:List Bool}{ops:Array Oper}
theorem QhI {o p:Nat->Prop}{s:JSt}{x:Qx}{j:Option Addr}(c:∀ k,O k->k<w.heap.size) (a:JOk s) (h:KAt w b O s) (f:intsL.In w o x.regs [.slice j x.regs.length rc]) (d:intsL.In w p x.args [.slice ag x.args.length ac]) (i:x.regs.length<=rc) (q:x.form s.m.length=0) :
 Calls prog 102 #[Pv b 0,QfX x j ag rc ac] w fun e w'=>QV w O (s.makes x).1 (s.makes x).2 e w':=by
 obtain⟨l,g,r,n⟩:=QeI q
 rcases n with e | e | e | e | e | e | e | e | e | e | e | e | e | e
 ·exact QhV c a h e
 ·exact Qib c a h e
 ·exact QhC c a h e
 ·exact Qgd c a h e
 ·exact Qe9 c a h d (r e) e
 ·exact QhH c a h (l (.inl e)) e
 ·exact Qht c a h (l (.inr e)) e
 ·exact QfH c a h e
 ·exact Qgy c a h e
 ·exact QfU c a h e
 ·exact Qhv c a h e
 ·exact QiV c a h e
 ·exact Qhz c a h e
 ·exact Qgi c a h f d i (g e).2.2.1 (g e).2.2.2 ⟨(g e).1,(g e).2.1⟩ e
theorem Qi7 {s:JSt}(c:JOk s){x:Qx}(d:x.form s.m.length=0):(s.makes x).2.length<=8:=by
 obtain⟨f,h,i,a⟩:=QeI d
 rcases a with e | e | e | e | e | e | e | e | e | e | e | e | e | e
 ·rw[Qab (.inl e)];simp
 ·rw[Qbo e];simp
 ·rw[Qbs e];split<;>simp
 ·rw[Z2 e];split<;>simp
 ·rw[QaQ e];repeat' split
  all_goals simp
 ·rw[Qb7 e];repeat' split
  all_goals simp
 ·rw[Qca e];repeat' split
  all_goals simp
 ·rw[Qa3 e];split<;>simp
 ·rw[QaD e];simp
 ·rw[Qan e];simp
 ·rw[Qbc e];simp
 ·rw[Qab (.inr e)];simp
 ·rw[Qbe e];simp
 ·rw[QaN e]
  split
  ·simp
  ·rename_i g b
   split
   ·rw[XN]
    exact(c.mod.2 g (Zm b)).results.1
   ·simp
theorem KTo.same {s:JSt}(h:KAt wc b O s) (hb:Below w.heap.size w wc) (c:∀ k,O k->k<w.heap.size):KTo w wc b O s :=
 ⟨O,h,⟨hb.os,hb.tape,hb.output,hb.size,fun k a _=>hb.block k a,fun k a=>.inl a⟩,fun k a=>Zl (c k a) hb.size⟩
theorem KTo.after {d:World}{s:JSt}(h:KTo d wc b O s) (hb:Below w.heap.size w d):KTo w wc b O s:=by
 obtain⟨f,g,a,i⟩:=h
 exact⟨f,g,⟨a.os.trans hb.os,a.tape.trans hb.tape,a.output.trans hb.output,Zt hb.size a.size,fun k c j=>(a.block k (Zl c hb.size) j).trans (hb.block k c),fun k c=>(a.own k c).imp id fun e=>Zt hb.size e⟩,i⟩
theorem KTo.then {g:World}{f:Nat->Prop}{s:JSt}(h:KTo g wc b f s) (a:QZ O f w g) (n:∀ k,O k->k<w.heap.size):KTo w wc b O s:=by
 obtain⟨l,m,c,j⟩:=h
 refine⟨l,m,⟨c.os.trans a.os,c.tape.trans a.tape,c.output.trans a.output,Zt a.size c.size,fun k d i=>(c.block k (Zl d a.size) (fun e=>?_)).trans (a.block k d i),fun k d=>?_⟩,j⟩
 ·rcases a.own k e with e | e
  ·exact i e
  ·omega
 ·rcases c.own k d with e | e
  ·exact a.own k e
  ·exact .inr (Zt a.size e)
structure InS (w wc:World) (b X:Nat) (O Q:Nat->Prop) (s:JSt) (x:Qx) (rg ag:Option Addr) (rc ac:Nat):Prop where
 known:KAt wc b O s
 box:wc.heap[X]?=some (.cells #[Iv x.op,Iv x.a,Iv x.b,Iv x.c,Iv x.k,Iv x.n,.slice rg x.regs.length rc,.slice ag x.args.length ac] 78 (0,0))
 regs:intsL.In wc Q x.regs [.slice rg x.regs.length rc]
 args:intsL.In wc Q x.args [.slice ag x.args.length ac]
 bel:Below w.heap.size w wc
 own:∀ k,O k->k<w.heap.size
 far:w.heap.size<=X
theorem InS.below {Q:Nat->Prop}{s:JSt}{x:Qx}{a:Option Addr}{w9:World}(h:InS w wc b X O Q s x a ag rc ac) (k:Below wc.heap.size wc w9):InS w w9 b X O Q s x a ag rc ac :=
 ⟨h.known.below k,(k.block X (XC h.box)).trans h.box,Ya h.regs k,Ya h.args k,h.bel.trans (k.mono h.bel.size),h.own,h.far⟩
theorem InS.lt {Q:Nat->Prop}{s:JSt}{x:Qx}{c:Option Addr}(h:InS w wc b X O Q s x c ag rc ac):∀ k,O k->k<wc.heap.size:=fun k a=>Zl (h.own k a) h.bel.size
theorem InS.cells {Q:Nat->Prop}{s:JSt}{x:Qx}{d:Option Addr}(h:InS w wc b X O Q s x d ag rc ac):wc.cell? ⟨X,0,none⟩=some (Iv x.op)/\wc.cell? ⟨X,1,none⟩=some (Iv x.a)/\wc.cell? ⟨X,2,none⟩=some (Iv x.b)/\wc.cell? ⟨X,3,none⟩=some (Iv x.c)/\wc.cell? ⟨X,4,none⟩=some (Iv x.k)/\wc.cell? ⟨X,5,none⟩=some (Iv x.n)/\wc.cell? ⟨X,6,none⟩=some (.slice d x.regs.length rc)/\wc.cell? ⟨X,7,none⟩=some (.slice ag x.args.length ac) :=
 ⟨Qa h.box 0 _ Z,Qa h.box 1 _ Z,Qa h.box 2 _ Z,Qa h.box 3 _ Z,Qa h.box 4 _ Z,Qa h.box 5 _ Z,Qa h.box 6 _ Z,Qa h.box 7 _ Z⟩
theorem InS.far_cell {Q:Nat->Prop}{s:JSt}{x:Qx}{c:Option Addr}{w9:World}(h:InS w wc b X O Q s x c ag rc ac){a:Nat->Prop}(k:QZ O a wc w9) (j:Nat):w9.cell? ⟨X,j,none⟩=wc.cell? ⟨X,j,none⟩ :=
 XU (k.block X (XC h.box) (fun e=>by have:=h.own X e;have:=h.far;omega))
def QoV (b X nm cm rc ac:Nat) (cf:Int) (pm rg ag:Option Addr) (x:Qx) (t:Tmp) (v:Value) (w:World):Prop :=
 v=(([(0,Pv b 0),(3,Pv X 0),(8,Pv b 0),(9,Pv b 0),(10,Pv b 0),(11,.agg #[.slice pm nm cm]),(12,.agg #[Iv x.op,Iv x.a,Iv x.b,Iv x.c,Iv x.k,Iv x.n,.slice rg x.regs.length rc,.slice ag x.args.length ac]),(13,Iv cf),(5,Iv cf)]:List (Tmp × Value)).lookup t).getD undef
theorem ki1 {g:Nat}{j:Int}{o:Option Addr}{x:Qx}(F:w6.cell? ⟨b,0,none⟩=some (.slice pm g cm)) (H:w6.cell? ⟨X,0,none⟩=some (Iv x.op)) (B:w6.cell? ⟨X,1,none⟩=some (Iv x.a)) (E:w6.cell? ⟨X,2,none⟩=some (Iv x.b)) (G:w6.cell? ⟨X,3,none⟩=some (Iv x.c)) (s:w6.cell? ⟨X,4,none⟩=some (Iv x.k)) (r:w6.cell? ⟨X,5,none⟩=some (Iv x.n)) (y:w6.cell? ⟨X,6,none⟩=some (.slice o x.regs.length rc)) (u:w6.cell? ⟨X,7,none⟩=some (.slice ag x.args.length ac)) (z:Hid (x.form g=j))
 (a:Act) (m:Nat) (hn:a.tmps.size=m) (i:82<=m) (A:a.tmps.getD 0 undef=Pv b 0) (C:a.tmps.getD 3 undef=Pv X 0) :
 Code.wp prog ((Tryz.f64.body.bind (Qf 1)).getD .skip) (fun e a' w'=>e=.normal/\∃ vs,a'=QC a vs [8,9,10,11,12,13,5]/\vs 5=Iv j/\Below w6.heap.size w6 w') a w6:=by
 conv=>arg 2;whnf
 refine Qu (QoV b X g cm rc ac j pm o ag x) (fun w=>Below w6.heap.size w6 w) (fun w w'=>Below w.heap.size w w') (outs:=[0,3]) (gs:=[]) (bs:=[true,true,true,true,true,true,true]) (by kernel_rfl) (n:=82) hn i (by kernel_rfl) ?hR ?hG (Qh Zr 1) ⟨A,C,Y⟩ ?hA ?hend
 case hR=>exact fun t v w w' _ h=>h
 case hG=>exact Y
 case hend=>exact fun vs w' d f=>⟨Z,vs,Z,f 5 (by kernel_rfl),d⟩
 case hA =>
  repeat
   refine⟨fun a w d f K q=>?_,?_⟩
   focus first
    | obtain⟨l,-⟩:=f
      conv at l=>whnf;rhs;whnf
      have P:=Qn F d;have I:=Qn H d;have R:=Qn B d;have O:=Qn E d;have M:=Qn G d;have S:=Qn s d;have Q:=Qn r d;have J:=Qn y d;have N:=Qn u d;go_simp;exact q _ _ Zr d Z
    | obtain⟨l,D,-⟩:=f
      conv at l=>whnf;rhs;whnf
      conv at D=>whnf;rhs;whnf
      go_simp;refine Xm (Qdx g x ⟨o,rc,ag,ac⟩ pm cm _) ?_;rw[z.out];rintro L T ⟨rfl,p⟩;go_simp;exact q _ _ p (d.trans (p.mono d.size)) Z
  trivial
def QnU (b X hh gH nH cH gL nL cL i r:Nat) (t:Tmp) (v:Value) (w:World):Prop :=
 v=(([(0,Pv b 0),(3,Pv X 0),(56,Pv b 0),(57,Pv b 0),(58,Pv b 5),(59,Pv hh 0),(60,Pv hh 0),(61,Pv hh 0),(62,.slice (some ⟨gH,0,none⟩) nH cH),(63,Pv b 0),(64,Pv b 0),(65,Pv b 6),(66,.slice (some ⟨gL,0,none⟩) nL cL),(67,Pv X 1),(68,Iv (i:Int)),(69,Pv gL (i*3)),(70,Pv gL (i*3+1)),(71,Iv (r:Int)),(72,Pv gH r)]:List (Tmp × Value)).lookup t).getD undef
theorem Qof {l o j q k f r:Nat}(D:w6.cell? ⟨b,5,none⟩=some (Pv l 0)) (C:w6.cell? ⟨l,0,none⟩=some (.slice (some ⟨o,0,none⟩) j q)) (x:w6.cell? ⟨b,6,none⟩=some (.slice (some ⟨k,0,none⟩) f cL)) (z:w6.cell? ⟨X,1,none⟩=some (Iv (i:Int))) (s:w6.cell? ⟨k,i*3+1,none⟩=some (Iv (r:Int))) (u:(i:Int)<f) (E:(r:Int)<j)
 (a:Act) (m:Nat) (hn:a.tmps.size=m) (e:82<=m) (y:a.tmps.getD 0 undef=Pv b 0) (A:a.tmps.getD 3 undef=Pv X 0)
 (hend:∀ ops vs w',vs 72=Pv o r->Below w6.heap.size w6 w'->wpList prog ops Q (QaI 17 ((Tryz.f64.body.bind (Qf 12)).getD .skip)) (QC a vs [56,57,58,59,60,61,62,63,64,65,66,67,68,69,70,71,72]) w') :
 Code.wp prog ((Tryz.f64.body.bind (Qf 12)).getD .skip) Q a w6:=by
 conv=>arg 2;whnf
 refine Qj 17 (QnU b X l o j q k f cL i r) (fun w=>Below w6.heap.size w6 w) (fun w w'=>Below w.heap.size w w') (outs:=[0,3]) (gs:=[]) (bs:=[true,true,true,true,true,true,true,true,true,true,true,true,true,true,true,true,true]) (by kernel_rfl) (n:=82) hn e (by kernel_rfl) (by kernel_rfl) ?hR ?hG (Qh Zr 1) ⟨y,A,Y⟩ ?hA ?hend
 case hR=>exact fun t v w w' _ h=>h
 case hG=>exact Y
 case hend=>exact fun ops vs w' c d=>hend ops vs w' (d 72 (by kernel_rfl)) c
 case hA =>
  repeat
   refine⟨fun a w c d K p=>?_,?_⟩
   focus first
    | obtain⟨g,-⟩:=d
      conv at g=>whnf;rhs;whnf
      have I:=Qn D c;have F:=Qn C c;have J:=Qn x c;have H:=Qn z c;have G:=Qn s c;go_simp;exact p _ _ Zr c Z
    | obtain⟨g,B,-⟩:=d
      conv at g=>whnf;rhs;whnf
      conv at B=>whnf;rhs;whnf
      go_simp;exact p _ _ Zr c Z
  trivial
theorem KAt.same6 {s:JSt}(h:KAt w b O s) (d:w.cell? ⟨b,6,none⟩=some v) (k:Nat):(w.setCell ⟨b,6,none⟩ v).heap[k]?=w.heap[k]?:=by
 obtain⟨o,j,l,g,m,f,n,p,h,i,a,-⟩:=h
 have e:=(Qa a 6 _ Z).symm.trans d;simp only[Option.some.injEq] at e
 by_cases c:k=b
 ·subst c;rw[Qm a,a,<-e];rfl
 ·exact Xd _ _ _ _ c
theorem Qkh {Q:Nat->Prop}{s:JSt}{x:Qx}{rg:Option Addr}(hO:∀ k,O k->k<w.heap.size) (hJ:JOk s) (h:KAt w b O s) (ap:intsL.In w Q x.regs [.slice rg x.regs.length rc]) (ao:intsL.In w Q x.args [.slice ag x.args.length ac]) (bs:x.regs.length<=rc) :
 Calls prog 64 #[Pv b 0,QfX x rg ag rc ac] w fun e w'=>e=.returned (Iv (s.code x))/\KTo w w' b O (s.ins x):=by
 have HJ:=Qg hJ;obtain⟨i0,hi,be,bd,bc⟩:=pInfoT
 have b1:=ZR w (.cells #[Iv x.op,Iv x.a,Iv x.b,Iv x.c,Iv x.k,Iv x.n,.slice rg x.regs.length rc,.slice ag x.args.length ac] 78);have S0:Hid (InS w (w.alloc (.cells #[Iv x.op,Iv x.a,Iv x.b,Iv x.c,Iv x.k,Iv x.n,.slice rg x.regs.length rc,.slice ag x.args.length ac] 78)) b w.heap.size O Q s x rg ag rc ac):=⟨h.below b1,Qe w _ _,Ya ap b1,Ya ao b1,b1,hO,Ze⟩;clear h ap ao b1 hJ hO;go_enter func64,ntmps64
 go_upto_region 1 with fail
 obtain⟨X,hX⟩:∃ X,w.heap.size=X:=⟨_,Z⟩
 generalize b8:w.alloc (.cells #[Iv x.op,Iv x.a,Iv x.b,Iv x.c,Iv x.k,Iv x.n,.slice rg x.regs.length rc,.slice ag x.args.length ac] 78)=w1 at S0 |-;have S1:Hid (InS w w1 b X O Q s x rg ag rc ac):=by rw[<-hX];exact S0.out
 rw[hX]
 clear b8 hX S0;obtain⟨pm,cm,a1,c1,a2,c2,a3,c3,hh,B,D,R⟩:=S1.out.known.read
 obtain⟨q0,-⟩:=R.cells
 obtain⟨x0,x1,x2,x3,x4,x5,x6,x7⟩:=S1.out.cells
 obtain⟨cf,bo⟩:∃ cf,x.form s.m.length=cf:=⟨_,Z⟩
 have al:Hid (x.form s.m.length=cf):=bo;clear bo;refine Code.wp_mono ?_ (ki1 q0 x0 x1 x2 x3 x4 x5 x6 x7 al _ _ Z (Xg (by kernel_rfl)) Z Z);rintro ee aa w5 ⟨rfl,vs,rfl,bj,hb⟩;simp only[QC,Act.put,List.setIfInBounds_toArray,List.set_cons_zero,List.set_cons_succ,bj]
 have S:Hid (InS w w5 b X O Q s x rg ag rc ac):=S1.out.below hb;clear S1 hb bj q0 R x0 x1 x2 x3 x4 x5 x6 x7;by_cases a4:cf=0
 rotate_left
 ·have ce:(cf != 0)=true:=by simpa using a4
  have E:Hid (s.code x=cf):=by show _=_;unfold JSt.code;rw[al.out,Xs a4]
  have E2:Hid (s.ins x=s):=by show _=_;unfold JSt.ins;rw[Xr (by rw[E.out];exact a4)]
  go_wp2_with fail
  go_ret;exact⟨by rw[E.out];rfl,by rw[E2.out];exact KTo.same S.out.known S.out.bel S.out.own⟩
 subst a4;obtain⟨x0,x1,x2,x3,x4,x5,x6,x7⟩:=S.out.cells
 go_wp2_with fail
 refine(QhI S.out.lt HJ.out S.out.known S.out.regs S.out.args bs al.out).mono ?_
 rintro e4 w4 ⟨la,n,d,rfl,br,b4⟩;have S4:Hid (InS w w4 b X O Q s x rg ag rc ac):=S.out.below b4;clear S b4 x0 x1 x2 x3 x4 x5 x6 x7;have S:=S4;clear S4;obtain⟨x0,x1,x2,x3,x4,x5,x6,x7⟩:=S.out.cells
 have a7:=Qg br;clear br;obtain⟨cc,l,a6⟩:∃ cc l,s.makes x=(cc,l):=⟨_,_,Z⟩
 have ak:Hid (s.makes x=(cc,l)):=a6;have cb:l.length<=8:=by have:=Qi7 HJ.out al.out;rw[a6] at this;exact this
 rw[a6] at a7 |-
 clear a6;by_cases a5:cc=0
 rotate_left
 ·have cd:(cc != 0)=true:=by simpa using a5
  have E:Hid (s.code x=cc):=by show _=_;unfold JSt.code;rw[al.out,ak.out,Xr (by simp),Xs a5]
  have E2:Hid (s.ins x=s):=by show _=_;unfold JSt.ins;rw[Xr (by rw[E.out];exact a5)]
  clear a7;go_wp2_with fail
  go_ret;exact⟨by rw[E.out];rfl,by rw[E2.out];exact KTo.same S.out.known S.out.bel S.out.own⟩
 subst a5;obtain⟨hn,cj,a8⟩:=a7.out Z
 have HN:Hid (n=l.length):=hn;have p:Hid ((Qt 6).In w4 (fun g=>¬ O g) l [.slice la n d]):=a8;have cg:n<=8:=by have:n=l.length:=hn;omega
 clear a7 a8 hn cb;have N:s.L.length<=80:=HJ.out.vals;obtain⟨pm,cm,a1,c1,a2,c2,a3,c3,hh,B,D,R⟩:=S.out.known.read
 obtain⟨-,-,-,-,-,-,T⟩:=R.cells
 have a0:Hid (TRd w4 (fun g=>¬ O g) B s.L):=R.row;clear R;by_cases V:s.L.length+n<=80
 rotate_left
 ·have aw:decide ((80:Int)<(s.L.length:Int)+(n:Int))=true:=Xt (by omega);have E:Hid (s.code x=2):=by show _=_;unfold JSt.code;rw[al.out,ak.out,Xr (by simp),Xr (by simp),Xs (by rw[<-HN.out];omega)]
  have E2:Hid (s.ins x=s):=by show _=_;unfold JSt.ins;rw[Xr (by rw[E.out];decide)]
  generalize s.L.length=nL at T N V aw;go_wp2_with fail
  go_ret;exact⟨by rw[E.out];rfl,by rw[E2.out];exact KTo.same S.out.known S.out.bel S.out.own⟩
 have aw:decide ((80:Int)<(s.L.length:Int)+(n:Int))=false:=Xu (by omega);have EC:Hid (s.code x=0):=by show _=_;unfold JSt.code;rw[al.out,ak.out,Xr (by simp),Xr (by simp),Xr (by rw[<-HN.out];omega)]
 have B4:Hid (Below w.heap.size w w4):=S.out.bel;have U:Hid (∀ k,O k->k<w4.heap.size):=S.out.lt;by_cases h3:x.op=3
 ·rw[h3] at x0
  have b3:((3:Int)==3)=true:=rfl;go_upto_region 10 with fail
  refine Code.wp_mono ?_ (Qol U.out S.out.known HJ.out.regs _ (by rfl) Z Z);rintro ee aa W ⟨rfl,vs,rfl,F⟩;simp only[QC,Act.put,List.setIfInBounds_toArray,List.set_cons_zero,List.set_cons_succ]
  obtain⟨OB,kB,ab,an⟩:=F
  have y0:=(S.out.far_cell ab 0).trans x0;have ai:Hid ((Qt 6).In W (fun g=>¬ OB g) l [.slice la n d]):=(Qt 6).keep (fun k F hl=>ab.block k hl F) (fun k F hl e=>by rcases ab.own k e with e | e;exact F e;omega) p.out;have q:=Qg kB;have J:=Qg an;have I:=Qg ab;clear p x0 x1 x2 x3 x4 x5 x6 x7 T kB ab an a0 S;have p:=ai;clear ai;obtain⟨B,D,xs,T,f6,M,ae,v⟩:=q.out.pushL J.out
  have af:({ s with H:=s.H++[true] }).L.length=s.L.length:=rfl;have K:=Qg v;have A:=Qg ae
  have HF:Hid (s.ins x={ ({ s with H:=s.H++[true] }) with L:=({ s with H:=s.H++[true] }).L++l }):=by
   show _=_;unfold JSt.ins;rw[Xs EC.out]
   unfold JSt.next;rw[ak.out,Xs h3]
  clear v ae;rw[af] at T A K M
  clear af;by_cases av:n=0
  ·subst av;have aq:l=[]:=Xf.1 HN.out.symm;subst aq
   have ha:Hid (∀ (t:TypeId) (wx:World),(Builtin.append_ #[80,80] t #[.slice B s.L.length D,.slice la 0 d]).run prog wx=.ok (.slice B s.L.length D) wx):=fun (t:TypeId) (wx:World)=>run_append_nothing (P:=prog) wx 80 80 t 105 i0 pUnderT hi B s.L.length D M (.slice la 0 d) (by cases la with
    | none=>exact Src.ofNil wx pUnderT d
    | some ad=>exact Src.ofSlice wx pUnderT ad 0 d [] (by simp) (fun j u h=>by simp at h) (fun u h=>by cases h))
   have HZ:Hid (KTo w (W.setCell ⟨b,6,none⟩ (.slice B s.L.length D)) b O (s.ins x)):=by
    have e:∀ k,(W.setCell ⟨b,6,none⟩ (.slice B s.L.length D)).heap[k]?=W.heap[k]?:=fun k=>by
     rcases Nat.lt_or_ge k W.heap.size with F | F
     ·exact q.out.same6 T k
     ·rw[Array.getElem?_eq_none (by simpa using F),Array.getElem?_eq_none F]
    have z:KTo W (W.setCell ⟨b,6,none⟩ (.slice B s.L.length D)) b OB ({ s with H:=s.H++[true] }):=⟨OB,q.out.keep (fun k _=>e k) (fun _ _=>Iff.rfl),⟨Z,Z,Z,by simp,fun k _ _=>e k,fun k F=>.inl F⟩,fun k F=>by rw[World.size_setCell];exact J.out k F⟩;rw[HF.out,List.append_nil]
    exact(z.then I.out U.out).after B4.out
   clear K A HF q J I p;generalize s.L.length=nL at T ha HZ N M V;go_wp2_with (at_builtin;refine Qae Z (.tmp 77) (.tmp 78) 80 Z (.slice B nL D) (.slice la 0 d) Z Z (ha.out _ _) ?_)
   go_ret;exact⟨by rw[EC.out];rfl,HZ.out⟩
  ·obtain⟨g0,o0,rfl⟩:∃ g0 o0,la=some ⟨g0,o0,none⟩:=by
    obtain⟨g,o,dd,e,-⟩:=Yf p.out (Zg (show 0<l.length by have:=HN.out;omega))
    exact⟨g,o,e⟩
   obtain⟨ds,d1,d2,d3,d4⟩:=Lay.flat p.out (fun y cs hy=>by obtain⟨ya,yc,e,-⟩:=hy;subst e;exact Qju _ _ _ _ _)
   have ah:ds.length=n*3:=by rw[HN.out];exact d1
   have ar:=Qg ah;have ax:=Qg d2;have am:=Qg d3
   have C:Hid (∀ G g f,G.ownsRow 0 105 3 (.slice (some ⟨g,0,none⟩) (s.L.length+n) f) (s.L.length+n) (xs++ds)->W.grownBy G (Value.slice B s.L.length D).ownBlock->((Value.slice B s.L.length D).ownBlock=some g\/g=W.heap.size)->g<G.heap.size->G.cell? ⟨b,6,none⟩=some (.slice B s.L.length D)/\G.frozen? ⟨b,6,none⟩=false/\KTo w (G.setCell ⟨b,6,none⟩ (.slice (some ⟨g,0,none⟩) (s.L.length+n) f)) b O (s.ins x)):=by
    intro G g f r1 r2 r3 r4;rw[HN.out] at r1 |-
    obtain⟨z1,z2,z3⟩:=K.out G g f l ds d1 r1 r2 r3 r4 d4
    rw[HF.out]
    exact⟨z1,z2,(z3.then I.out U.out).after B4.out⟩
   clear K HF q J I p d1 ah d2 d3 d4;have az:Hid (0<=W.heap.size):=Xb _;generalize s.L.length=nL at T A C N M V;have ay:0<n:=by omega
   go_wp2_with (at_builtin;refine wpList_append_lies _ Z (.tmp 77) (.tmp 78) 80 Z 0 105 i0 (.agg #[Iv 0,Iv 0,Nv]) 3 40 pUnderT hi be bd bc Z (by decide) _ _ _ Z A.out ⟨g0,o0,none⟩ n d ds Z ar.out ax.out am.out ay (by unfold maxLen;omega) (by omega) az.out W.heap.size Z ?_)
   intro g2 f G r1 r2 r3 r4;obtain⟨bk,bi,z9⟩:=C.out G g2 f r1 r2 r3 r4
   have Z9:=Qg z9;clear r1 r2 r3 r4 C A z9 T f6;go_wp2
   go_ret;exact⟨by rw[EC.out];rfl,Z9.out⟩
 have b3:(x.op==3)=false:=by simpa using h3
 by_cases h4:x.op=4
 ·obtain⟨t,aj,b6,a9⟩:∃ t,s.at x.a=some t/\t.kind=2/\Qa7 s.H t.r=true:=by
   have e:=ak.out;rw[Z2 h4] at e
   cases aj:s.at x.a with
   | none=>rw[aj] at e;simp at e
   | some t =>
     rw[aj] at e
     simp only[Prod.mk.injEq] at e
     obtain⟨t',e1,e2,e3⟩:=QaG (QH e.1).1
     rw[aj] at e1
     exact⟨t',e1 ▸ rfl,e2,e3 Z⟩
  obtain⟨-,bw,bf,bb⟩:=Qbp aj
  obtain⟨i,bv⟩:=Xc bw
  rw[bv] at bb bf x1
  obtain⟨gL,va,vc,rfl,v0,v1,v2,-,-⟩:=a0.out i t (by simpa using bb)
  obtain⟨bt,bm⟩:=QaK a9
  obtain⟨r,hr⟩:=Xc bt
  rw[hr] at v1 bm
  obtain⟨h2,aH,cH,z5,z0,ba⟩:=S.out.known.setH U.out
  obtain⟨gH,rfl,⟨u0,bx⟩,b5,bp⟩:=ba r (by omega)
  have b9:=Qg bp;have b0:=Qg aj;have ca:Hid (t.r=(r:Int)):=hr;clear hr;rw[h4] at x0
  clear ba bp a9 bb aj b6 v0 v2;go_upto_region 12 with fail
  refine Qof z5 z0 T x1 v1 bf bm _ _ Z (Xg (by kernel_rfl)) Z Z ?_;rintro bu vs w7 bl b7;show wpList _ bu _ [_] (QC _ vs [56,57,58,59,60,61,62,63,64,65,66,67,68,69,70,71,72]) w7;simp only[QC,Act.put,List.setIfInBounds_toArray,List.set_cons_zero,List.set_cons_succ,bl]
  have S7:=Qg (S.out.below b7);obtain⟨cl,ck,ci,bq,bh,au⟩:=S7.out.known.setH S7.out.lt
  have e1:=(Qn z5 b7).symm.trans bq;simp only[Option.some.injEq,Value.pointer.injEq,Addr.mk.injEq,and_true] at e1
  subst e1;have e2:=(Qn z0 b7).symm.trans bh;simp only[Option.some.injEq,Value.slice.injEq,true_and] at e2
  obtain⟨rfl,rfl⟩:=e2
  obtain⟨ch,eg,⟨u7,b2⟩,bz,bn⟩:=au r (by omega)
  simp only[Option.some.injEq,Addr.mk.injEq,and_true] at eg
  subst eg;obtain⟨OB,kB,ab,an⟩:=bn
  have B7:Hid (Below w.heap.size w w7):=S7.out.bel;have bg:Hid (∀ k,O k->k<w7.heap.size):=S7.out.lt;have ai:Hid ((Qt 6).In (w7.setCell ⟨gH,r,none⟩ (.bool false)) (fun g=>¬ OB g) l [.slice la n d]):=(Qt 6).keep (fun k F hl=>ab.block k hl F) (fun k F hl e=>by rcases ab.own k e with e | e;exact F e;omega) (Ya p.out b7);have q:=Qg kB;have J:=Qg an;have I:=Qg ab;clear p x0 x1 x2 x3 x4 x5 x6 x7 T kB ab an a0 S S7 z5 z0 bq bh au b9 U B4 b7 v1 b5 bx;have p:=ai;have U:=bg;have B4:=B7;clear ai bg B7;go_upto_region 13 with fail
  generalize w7.setCell ⟨gH,r,none⟩ (.bool false)=W at p q J I |-;clear b2 bz;obtain⟨B,D,xs,T,f6,M,ae,v⟩:=q.out.pushL J.out
  have af:({ s with H:=s.H.set r false }).L.length=s.L.length:=rfl;have K:=Qg v;have A:=Qg ae
  have HF:Hid (s.ins x={ ({ s with H:=s.H.set r false }) with L:=({ s with H:=s.H.set r false }).L++l }):=by
   show _=_;unfold JSt.ins;rw[Xs EC.out]
   unfold JSt.next;rw[ak.out,Xr h3,Xs h4];simp only[b0.out,ca.out,Int.toNat_natCast]
  clear v ae;rw[af] at T A K M
  clear af;by_cases av:n=0
  ·subst av;have aq:l=[]:=Xf.1 HN.out.symm;subst aq
   have ha:Hid (∀ (t:TypeId) (wx:World),(Builtin.append_ #[80,80] t #[.slice B s.L.length D,.slice la 0 d]).run prog wx=.ok (.slice B s.L.length D) wx):=fun (t:TypeId) (wx:World)=>run_append_nothing (P:=prog) wx 80 80 t 105 i0 pUnderT hi B s.L.length D M (.slice la 0 d) (by cases la with
    | none=>exact Src.ofNil wx pUnderT d
    | some ad=>exact Src.ofSlice wx pUnderT ad 0 d [] (by simp) (fun j u h=>by simp at h) (fun u h=>by cases h))
   have HZ:Hid (KTo w (W.setCell ⟨b,6,none⟩ (.slice B s.L.length D)) b O (s.ins x)):=by
    have e:∀ k,(W.setCell ⟨b,6,none⟩ (.slice B s.L.length D)).heap[k]?=W.heap[k]?:=fun k=>by
     rcases Nat.lt_or_ge k W.heap.size with F | F
     ·exact q.out.same6 T k
     ·rw[Array.getElem?_eq_none (by simpa using F),Array.getElem?_eq_none F]
    have z:KTo W (W.setCell ⟨b,6,none⟩ (.slice B s.L.length D)) b OB ({ s with H:=s.H.set r false }):=⟨OB,q.out.keep (fun k _=>e k) (fun _ _=>Iff.rfl),⟨Z,Z,Z,by simp,fun k _ _=>e k,fun k F=>.inl F⟩,fun k F=>by rw[World.size_setCell];exact J.out k F⟩;rw[HF.out,List.append_nil]
    exact(z.then I.out U.out).after B4.out
   clear K A HF q J I p;generalize s.L.length=nL at T ha HZ N M V;go_wp2_with (at_builtin;refine Qae Z (.tmp 77) (.tmp 78) 80 Z (.slice B nL D) (.slice la 0 d) Z Z (ha.out _ _) ?_)
   go_ret;exact⟨by rw[EC.out];rfl,HZ.out⟩
  ·obtain⟨g0,o0,rfl⟩:∃ g0 o0,la=some ⟨g0,o0,none⟩:=by
    obtain⟨g,o,dd,e,-⟩:=Yf p.out (Zg (show 0<l.length by have:=HN.out;omega))
    exact⟨g,o,e⟩
   obtain⟨ds,d1,d2,d3,d4⟩:=Lay.flat p.out (fun y cs hy=>by obtain⟨ya,yc,e,-⟩:=hy;subst e;exact Qju _ _ _ _ _)
   have ah:ds.length=n*3:=by rw[HN.out];exact d1
   have ar:=Qg ah;have ax:=Qg d2;have am:=Qg d3
   have C:Hid (∀ G g f,G.ownsRow 0 105 3 (.slice (some ⟨g,0,none⟩) (s.L.length+n) f) (s.L.length+n) (xs++ds)->W.grownBy G (Value.slice B s.L.length D).ownBlock->((Value.slice B s.L.length D).ownBlock=some g\/g=W.heap.size)->g<G.heap.size->G.cell? ⟨b,6,none⟩=some (.slice B s.L.length D)/\G.frozen? ⟨b,6,none⟩=false/\KTo w (G.setCell ⟨b,6,none⟩ (.slice (some ⟨g,0,none⟩) (s.L.length+n) f)) b O (s.ins x)):=by
    intro G g f r1 r2 r3 r4;rw[HN.out] at r1 |-
    obtain⟨z1,z2,z3⟩:=K.out G g f l ds d1 r1 r2 r3 r4 d4
    rw[HF.out]
    exact⟨z1,z2,(z3.then I.out U.out).after B4.out⟩
   clear K HF q J I p d1 ah d2 d3 d4;have az:Hid (0<=W.heap.size):=Xb _;generalize s.L.length=nL at T A C N M V;have ay:0<n:=by omega
   go_wp2_with (at_builtin;refine wpList_append_lies _ Z (.tmp 77) (.tmp 78) 80 Z 0 105 i0 (.agg #[Iv 0,Iv 0,Nv]) 3 40 pUnderT hi be bd bc Z (by decide) _ _ _ Z A.out ⟨g0,o0,none⟩ n d ds Z ar.out ax.out am.out ay (by unfold maxLen;omega) (by omega) az.out W.heap.size Z ?_)
   intro g2 f G r1 r2 r3 r4;obtain⟨bk,bi,z9⟩:=C.out G g2 f r1 r2 r3 r4
   have Z9:=Qg z9;clear r1 r2 r3 r4 C A z9 T f6;go_wp2
   go_ret;exact⟨by rw[EC.out];rfl,Z9.out⟩
 ·have cn:(x.op==4)=false:=by simpa using h4
  have q:Hid (KAt w4 b O s):=S.out.known;have J:=U;have I:Hid (QZ O O w4 w4):=QZ.refl _ _;clear T a0;obtain⟨B,D,xs,T,f6,M,ae,v⟩:=q.out.pushL J.out
  have af:(s).L.length=s.L.length:=rfl;have K:=Qg v;have A:=Qg ae
  have HF:Hid (s.ins x={ (s) with L:=(s).L++l }):=by
   show _=_;unfold JSt.ins;rw[Xs EC.out]
   unfold JSt.next;rw[ak.out,Xr h3,Xr h4]
  clear v ae;rw[af] at T A K M
  clear af;by_cases av:n=0
  ·subst av;have aq:l=[]:=Xf.1 HN.out.symm;subst aq
   have ha:Hid (∀ (t:TypeId) (wx:World),(Builtin.append_ #[80,80] t #[.slice B s.L.length D,.slice la 0 d]).run prog wx=.ok (.slice B s.L.length D) wx):=fun (t:TypeId) (wx:World)=>run_append_nothing (P:=prog) wx 80 80 t 105 i0 pUnderT hi B s.L.length D M (.slice la 0 d) (by cases la with
    | none=>exact Src.ofNil wx pUnderT d
    | some ad=>exact Src.ofSlice wx pUnderT ad 0 d [] (by simp) (fun j u h=>by simp at h) (fun u h=>by cases h))
   have HZ:Hid (KTo w (w4.setCell ⟨b,6,none⟩ (.slice B s.L.length D)) b O (s.ins x)):=by
    have e:∀ k,(w4.setCell ⟨b,6,none⟩ (.slice B s.L.length D)).heap[k]?=w4.heap[k]?:=fun k=>by
     rcases Nat.lt_or_ge k w4.heap.size with F | F
     ·exact q.out.same6 T k
     ·rw[Array.getElem?_eq_none (by simpa using F),Array.getElem?_eq_none F]
    have z:KTo w4 (w4.setCell ⟨b,6,none⟩ (.slice B s.L.length D)) b O (s):=⟨O,q.out.keep (fun k _=>e k) (fun _ _=>Iff.rfl),⟨Z,Z,Z,by simp,fun k _ _=>e k,fun k F=>.inl F⟩,fun k F=>by rw[World.size_setCell];exact J.out k F⟩;rw[HF.out,List.append_nil]
    exact(z.then I.out U.out).after B4.out
   clear K A HF q J I p;generalize s.L.length=nL at T ha HZ N M V;go_wp2_with (at_builtin;refine Qae Z (.tmp 77) (.tmp 78) 80 Z (.slice B nL D) (.slice la 0 d) Z Z (ha.out _ _) ?_)
   go_ret;exact⟨by rw[EC.out];rfl,HZ.out⟩
  ·obtain⟨g0,o0,rfl⟩:∃ g0 o0,la=some ⟨g0,o0,none⟩:=by
    obtain⟨g,o,dd,e,-⟩:=Yf p.out (Zg (show 0<l.length by have:=HN.out;omega))
    exact⟨g,o,e⟩
   obtain⟨ds,d1,d2,d3,d4⟩:=Lay.flat p.out (fun y cs hy=>by obtain⟨ya,yc,e,-⟩:=hy;subst e;exact Qju _ _ _ _ _)
   have ah:ds.length=n*3:=by rw[HN.out];exact d1
   have ar:=Qg ah;have ax:=Qg d2;have am:=Qg d3
   have C:Hid (∀ G g f,G.ownsRow 0 105 3 (.slice (some ⟨g,0,none⟩) (s.L.length+n) f) (s.L.length+n) (xs++ds)->w4.grownBy G (Value.slice B s.L.length D).ownBlock->((Value.slice B s.L.length D).ownBlock=some g\/g=w4.heap.size)->g<G.heap.size->G.cell? ⟨b,6,none⟩=some (.slice B s.L.length D)/\G.frozen? ⟨b,6,none⟩=false/\KTo w (G.setCell ⟨b,6,none⟩ (.slice (some ⟨g,0,none⟩) (s.L.length+n) f)) b O (s.ins x)):=by
    intro G g f r1 r2 r3 r4;rw[HN.out] at r1 |-
    obtain⟨z1,z2,z3⟩:=K.out G g f l ds d1 r1 r2 r3 r4 d4
    rw[HF.out]
    exact⟨z1,z2,(z3.then I.out U.out).after B4.out⟩
   clear K HF q J I p d1 ah d2 d3 d4;have az:Hid (0<=w4.heap.size):=Xb _;generalize s.L.length=nL at T A C N M V;have ay:0<n:=by omega
   go_wp2_with (at_builtin;refine wpList_append_lies _ Z (.tmp 77) (.tmp 78) 80 Z 0 105 i0 (.agg #[Iv 0,Iv 0,Nv]) 3 40 pUnderT hi be bd bc Z (by decide) _ _ _ Z A.out ⟨g0,o0,none⟩ n d ds Z ar.out ax.out am.out ay (by unfold maxLen;omega) (by omega) az.out w4.heap.size Z ?_)
   intro g2 f G r1 r2 r3 r4;obtain⟨bk,bi,z9⟩:=C.out G g2 f r1 r2 r3 r4
   have Z9:=Qg z9;clear r1 r2 r3 r4 C A z9 T f6;go_wp2
   go_ret;exact⟨by rw[EC.out];rfl,Z9.out⟩
theorem kUnderI:∃ fs,prog.underlying 78=some (.struct fs):=⟨_,underlying78⟩
def QnP (X Z N c g o nc cc q:Nat) (p:Option Addr) (z:Qx) (i3:IP) (t:Tmp) (v:Value) (w:World):Prop :=
 v=(([(3,Pv X 0),(8,Pv Z 0),(10,Iv (q:Int)),(85,.agg #[.slice p N c]),(86,Pv Z 2),(87,.slice (some ⟨g,o,none⟩) nc cc),(88,Iv (q:Int)),(89,Pv g (o+q*8)),(90,.agg #[Iv z.op,Iv z.a,Iv z.b,Iv z.c,Iv z.k,Iv z.n,.slice i3.pR z.regs.length i3.cR,.slice i3.pA z.args.length i3.cA]),(91,Iv (z.form N)),(11,Iv (z.form N))]:List (Tmp × Value)).lookup t).getD undef
theorem QoS {Z A C:Nat}{z:Qx}{d:IP}(F:Hid (w6.rangeAt g (o+q*8) [Iv z.op,Iv z.a,Iv z.b,Iv z.c,Iv z.k,Iv z.n,.slice d.pR z.regs.length d.cR,.slice d.pA z.args.length d.cA])) (I:w6.cell? ⟨X,0,none⟩=some (.slice p N c)) (E:w6.cell? ⟨Z,2,none⟩=some (.slice (some ⟨g,o,none⟩) A C)) (O:(q:Int)<A)
 (a:Act) (m:Nat) (hn:a.tmps.size=m) (s:112<=m) (G:a.tmps.getD 3 undef=Pv X 0) (D:a.tmps.getD 8 undef=Pv Z 0) (x:a.tmps.getD 10 undef=Iv (q:Int)) :
 Code.wp prog ((Tryz.f52.body.bind (Qf 15)).getD .skip) (fun e a' w'=>e=.normal/\∃ vs,a'=QC a vs [85,86,87,88,89,90,91,11]/\vs 11=Iv (z.form N)/\Below w6.heap.size w6 w') a w6:=by
 conv=>arg 2;whnf
 refine Qu (QnP X Z N c g o A C q p z d) (fun w=>Below w6.heap.size w6 w) (fun w w'=>Below w.heap.size w w') (outs:=[3,8,10]) (gs:=[]) (bs:=[true,true,true,true,true,true,true,true]) (by kernel_rfl) (n:=112) hn s (by kernel_rfl) ?hR ?hG (Qlh Zr 1) ⟨G,D,x,Y⟩ ?hA ?hend
 case hR=>exact fun t v w w' _ h=>h
 case hG=>exact Y
 case hend=>exact fun vs w' f l=>⟨Yz,vs,Yz,l 11 (by kernel_rfl),f⟩
 case hA =>
  repeat
   refine⟨fun a w f l K r=>?_,?_⟩
   focus first
    | obtain⟨i,-⟩:=l
      conv at i=>whnf;rhs;whnf
      have P:=Qn I f;have J:=Qn E f;go_simp;exact r _ _ Zr f Yz
    | obtain⟨i,u,-⟩:=l
      conv at i=>whnf;rhs;whnf
      conv at u=>whnf;rhs;whnf
      go_simp;exact r _ _ Zr f Yz
    | obtain⟨i,-⟩:=l
      conv at i=>whnf;rhs;whnf
      obtain⟨M,y⟩:=kUnderI
      refine wp_load_mid 78 (.tmp 89) Yz g (o+q*8) i [Iv z.op,Iv z.a,Iv z.b,Iv z.c,Iv z.k,Iv z.n,.slice d.pR z.regs.length d.cR,.slice d.pA z.args.length d.cA] _ (fun j v H=>Qn (F.out j v H) f) y Yz pSizeN ?_;exact r _ _ Zr f Yz
    | obtain⟨i,u,-⟩:=l
      conv at i=>whnf;rhs;whnf
      conv at u=>whnf;rhs;whnf
      go_simp;refine Xm (Qdx N z d p c w) ?_;rintro L Q ⟨rfl,B⟩;go_simp;exact r _ _ B (f.trans (B.mono f.size)) Yz
  trivial
theorem QdT {m:List (MFunc n)}{x:MFunc n}{y:MBlock n}(ap:(Qar n).In w All m [.slice p m.length c]) (ai:Qcz m) (K:m[fi]?=some x) (J:x.blocks[bi]?=some y) :
 Rd prog 52 #[.agg #[.slice p m.length c],Iv (fi:Int),Iv (bi:Int)] w (Qv (MBlock.fault m.length fi x bi y)):=by
 have h1:fi<m.length:=(Zi K).1;have h2:bi<x.blocks.length:=(Zi J).1;have a0:=ai.1;have ab:=ai.2 x (Zm K);have az:=ab.1;have ah:=ab.2.2.2 y (Zm J);have ay:=ah.1;have ag:=Qi ah;obtain⟨g1,o1,⟨fp,fc,fr,fd,fb,fe⟩,rfl,E1,ac⟩:=QbU ap K
 obtain⟨O,T,g,e2,E2,am⟩:=Qcb ac.blocks J
 dsimp only at E1 e2
 subst e2;have al:=Qi E1;have av:=Qi ac;have ae:=Qi E2;have aj:=Qi am;have S:=Qi (FbS.start w #[.slice (some ⟨g1,o1,none⟩) m.length c] 24);have a1:(fi:Int)<m.length:=by omega
 have ax:(bi:Int)<x.blocks.length:=by omega
 have hp:fi<1000000/\bi<1000000:=by omega
 have HP:=Qi hp;clear ap ai K J E1 ac E2 am ab ah h1 h2 hp;unfold Rd;go_enter func52,ntmps52
 go_upto_region 1 with fail
 generalize (w.alloc (.cells #[.slice (some ⟨g1,o1,none⟩) m.length c] 24)).alloc (.cells #[Iv 0,Iv 0] 32)=w1 at S |-;generalize w.heap.size+1=R at S |-;generalize hX:w.heap.size=X at S |-;have x0:=Qa (S.out.box 0 _ Yz) 0 _ Yz;have R1:=Qi (fun j v H=>Qn (al.out j v H) (hX ▸ S.out.bel):w1.rangeAt g1 (o1+fi*4) [Iv x.regs,.slice fp x.params.length fc,.slice fr x.results.length fd,.slice (some ⟨O,T,none⟩) x.blocks.length fe]);have v0:w1.cell? ⟨g1,o1+fi*4,none⟩=some (Iv x.regs):=R1.out 0 _ Yz;have v1:=R1.out 1 _ Yz;have v2:=R1.out 2 _ Yz;have v3:=R1.out 3 _ Yz;have S:=Qi (S.out.new #[Iv x.regs,.slice fp x.params.length fc,.slice fr x.results.length fd,.slice (some ⟨O,T,none⟩) x.blocks.length fe] 89);go_upto_region 2 with fail
 generalize aw:w1.alloc (.cells #[Iv x.regs,.slice fp x.params.length fc,.slice fr x.results.length fd,.slice (some ⟨O,T,none⟩) x.blocks.length fe] 89)=w2 at S |-;generalize w1.heap.size=Y at S |-;clear aw x0 v0 v1 v2 v3 R1;have y3:=Qa (S.out.box 0 _ Yz) 3 _ Yz;generalize af:([Iv y.regs,.slice g.pP y.params.length g.cP,.slice g.pC y.code.length g.cC,Iv y.fin.op,Iv y.fin.a,Iv y.fin.yes.block,.slice g.e.pYR y.fin.yes.regs.length g.e.cYR,.slice g.e.pYA y.fin.yes.args.length g.e.cYA,Iv y.fin.no.block,.slice g.e.pNR y.fin.no.regs.length g.e.cNR,.slice g.e.pNA y.fin.no.args.length g.e.cNA,.slice g.e.pA y.fin.args.length g.e.cA]:List Value)=cs at ae;have hl:cs.length=12:=by rw[<-af];rfl
 have MB:=Qi (Qmy.of w2 hl);have TO:Hid (cs.toArray.all (·.oneCell')=true):=by show _=_;rw[<-af];exact all_oneCell_toArray (Xe.1 Yz)
 have RG:Hid (w2.rangeAt O (T+bi*12) cs):=fun j v H=>Qn (ae.out j v H) (hX ▸ S.out.bel);go_upto_region 3 with (first | (refine wpList_load_mid Yz 86 (.tmp 21) Yz O (T+bi*12) Yz cs _ RG.out underlying86 Yz MB.out.size ?_) | (refine wpList_store_mid Yz 86 (.tmp 8) (.tmp 22) Yz w2.heap.size 0 cs.toArray Yz Yz MB.out.there MB.out.size2 TO.out ?_))
 have V:=Qi ((S.out.below MB.out.bel).add MB.out.blk);clear S y3 RG TO hl;generalize (w2.alloc (.cells #[Iv 0,Nv,Nv,Iv 0,Iv 0,Iv 0,Nv,Nv,Iv 0,Nv,Nv,Nv] 86)).setCells w2.heap.size 0 cs=w3 at V |-;generalize w2.heap.size=Z at V |-;subst af;simp only[Act.put]
 have HX:Hid (w.heap.size=X):=hX;clear hX al ae MB;generalize hL:([(Z,#[Iv y.regs,.slice g.pP y.params.length g.cP,.slice g.pC y.code.length g.cC,Iv y.fin.op,Iv y.fin.a,Iv y.fin.yes.block,.slice g.e.pYR y.fin.yes.regs.length g.e.cYR,.slice g.e.pYA y.fin.yes.args.length g.e.cYA,Iv y.fin.no.block,.slice g.e.pNR y.fin.no.regs.length g.e.cNR,.slice g.e.pNA y.fin.no.args.length g.e.cNA,.slice g.e.pA y.fin.args.length g.e.cA],86),(Y,#[Iv x.regs,.slice fp x.params.length fc,.slice fr x.results.length fd,.slice (some ⟨O,T,none⟩) x.blocks.length fe],89),(X,#[.slice (some ⟨g1,o1,none⟩) m.length c],24)]:List (Nat × Array Value × TypeId))=L at V;have s:Hid (∀ wx,FbS w wx R L->Blk wx Z #[Iv y.regs,.slice g.pP y.params.length g.cP,.slice g.pC y.code.length g.cC,Iv y.fin.op,Iv y.fin.a,Iv y.fin.yes.block,.slice g.e.pYR y.fin.yes.regs.length g.e.cYR,.slice g.e.pYA y.fin.yes.args.length g.e.cYA,Iv y.fin.no.block,.slice g.e.pNR y.fin.no.regs.length g.e.cNR,.slice g.e.pNA y.fin.no.args.length g.e.cNA,.slice g.e.pA y.fin.args.length g.e.cA] 86/\Blk wx Y #[Iv x.regs,.slice fp x.params.length fc,.slice fr x.results.length fd,.slice (some ⟨O,T,none⟩) x.blocks.length fe] 89/\Blk wx X #[.slice (some ⟨g1,o1,none⟩) m.length c] 24):=by subst hL;exact fun wx h=>⟨h.box 0 _ Yz,h.box 1 _ Yz,h.box 2 _ Yz⟩
 clear hL;have M:=Qa (s.out _ V.out).1 0 _ Yz;have q1:=Qa (s.out _ V.out).2.1 0 _ Yz;go_cut [32] (fun v wx=>v=.bool (decide (y.regs<x.regs\/16<y.regs))/\FbS w wx R L)
 case first =>
  by_cases h:y.regs<x.regs
  ·have d1:decide (y.regs<x.regs)=true:=Xt h;have E:decide (y.regs<x.regs\/16<y.regs)=true:=Xt (.inl h);go_wp2
   go_meet;exact⟨by rw[E],V.out⟩
  ·have d1:decide (y.regs<x.regs)=false:=Xu h;have E:decide (y.regs<x.regs\/16<y.regs)=decide (y.regs>16):=by rw[decide_eq_decide];omega
   go_wp2
   all_goals
    go_meet;exact⟨by rw[E],V.out⟩
 case rest =>
  obtain⟨rfl,ak⟩:=hcut
  have C:=Qi ak;clear ak V M q1;by_cases W:y.regs<x.regs\/16<y.regs
  ·rw[Xt W]
   have E:MBlock.fault m.length fi x bi y=(1,10000*(fi:Int)+100*(bi:Int)+90):=Xs W;go_wp2_with fail
   refine Xm (QaU HP.out) ?_;rintro _ B ⟨rfl,l⟩;have C:=Qi (C.out.below l);clear l;go_wp2_with fail
   refine Xm (Qav) ?_;rintro _ G ⟨rfl,l⟩;have C:=Qi (C.out.below l);clear l;try simp only[Qv]
   obtain⟨r0,r1,z0,z1⟩:=C.out.cells
   have D:=Qi (C.out.fin (1) (10000*(fi:Int)+100*(bi:Int)+90));go_wp2_with fail
   generalize World.setCell _ _ _=t at D |-;exact Xy (v:=.agg #[Iv (1),Iv (10000*(fi:Int)+100*(bi:Int)+90)]) (by simp[results,results52,go_sem,Qa D.out.1 0 _ Yz,Qa D.out.1 1 _ Yz]) Yz ⟨by first | rfl | rw[E],D.out.2⟩
  rw[Xu W]
  have M:=Qa (s.out _ C.out).1 0 _ Yz;have q1:=Qa (s.out _ C.out).1 1 _ Yz;have CL:=Qi (Qbi (regs:=y.regs) (Ya aj.out.params C.out.bel) ag.out.2.1);unfold Rd at CL;go_wp2_with fail
  refine CL.out.mono ?_;rintro _ w5 ⟨rfl,b5⟩;have r:=Qi (C.out.below b5);clear b5 CL M q1 C;generalize F:listC y.regs y.params=lc;by_cases c2:lc=0
  rotate_left
  ·have d:(lc != 0)=true:=by simpa using c2
   have E:MBlock.fault m.length fi x bi y=(lc,10000*(fi:Int)+100*(bi:Int)+90):=by unfold MBlock.fault;rw[Xr W,F,Xs c2]
   go_wp2_with fail
   refine Xm (QaU HP.out) ?_;rintro _ B ⟨rfl,l⟩;have r:=Qi (r.out.below l);clear l;go_wp2_with fail
   refine Xm (Qav) ?_;rintro _ G ⟨rfl,l⟩;have r:=Qi (r.out.below l);clear l;try simp only[Qv]
   obtain⟨r0,r1,z0,z1⟩:=r.out.cells
   have D:=Qi (r.out.fin (lc) (10000*(fi:Int)+100*(bi:Int)+90));go_wp2_with fail
   generalize World.setCell _ _ _=t at D |-;exact Xy (v:=.agg #[Iv (lc),Iv (10000*(fi:Int)+100*(bi:Int)+90)]) (by simp[results,results52,go_sem,Qa D.out.1 0 _ Yz,Qa D.out.1 1 _ Yz]) Yz ⟨by first | rfl | rw[E],D.out.2⟩
  subst c2;go_upto_region 8 with fail
  have M:=Qa (s.out _ r.out).1 0 _ Yz;have q1:=Qa (s.out _ r.out).2.1 0 _ Yz;have N:=Qa (s.out _ r.out).1 1 _ Yz;have q3:=Qa (s.out _ r.out).2.1 1 _ Yz;go_cut [65] (fun v wx=>v=.bool (decide (bi=0/\(y.regs≠x.regs\/Qbr y.params x.params=false)))/\FbS w wx R L)
  case first =>
   by_cases h0:bi=0
   ·have d0:((bi:Int)==0)=true:=by simpa using h0
    by_cases hr:y.regs=x.regs
    ·have d1:(y.regs != x.regs)=false:=by simpa using hr
     have CS:=Qi (QeF (Ya aj.out.params r.out.bel) (Ya av.out.params r.out.bel) ag.out.2.1);unfold Rd at CS
     have E:decide (bi=0/\(y.regs≠x.regs\/Qbr y.params x.params=false))=!bdec (y.params=x.params):=by
      by_cases hp:y.params=x.params
      ·rw[QG hp];simp[hr,Qbm.2 hp]
      ·rw[Qy hp]
       have:Qbr y.params x.params=false:=by cases h9:Qbr y.params x.params;rfl;exact absurd (Qbm.1 h9) hp
       simp[h0,this]
     generalize bdec (y.params=x.params)=bp at CS E;clear h0 hr;go_wp2_with fail
     refine CS.out.mono ?_;rintro _ w6 ⟨rfl,b6⟩;have o:=Qi (r.out.below b6);clear b6 CS M q1 N q3;go_wp2
     all_goals
      go_meet;exact⟨by rw[E],o.out⟩
    ·have d1:(y.regs != x.regs)=true:=by simpa using hr
     have E:decide (bi=0/\(y.regs≠x.regs\/Qbr y.params x.params=false))=true:=Xt ⟨h0,.inl hr⟩;clear h0 hr;go_wp2
     go_meet;exact⟨by rw[E],r.out⟩
   ·have d0:((bi:Int)==0)=false:=by simpa using h0
    have E:decide (bi=0/\(y.regs≠x.regs\/Qbr y.params x.params=false))=false:=Xu (fun h=>h0 h.1);clear h0;go_wp2
    go_meet;exact⟨by rw[E],r.out⟩
  case rest =>
   obtain⟨rfl,an⟩:=hcut
   have o:=Qi an;clear an r M q1 N q3;by_cases c3:bi=0/\(y.regs≠x.regs\/Qbr y.params x.params=false)
   ·rw[Xt c3]
    have E:MBlock.fault m.length fi x bi y=(9,10000*(fi:Int)+100*(bi:Int)+90):=by unfold MBlock.fault;rw[Xr W,F,Xr (by simp),Xs c3]
    clear c3;go_wp2_with fail
    refine Xm (QaU HP.out) ?_;rintro _ B ⟨rfl,l⟩;have o:=Qi (o.out.below l);clear l;go_wp2_with fail
    refine Xm (Qav) ?_;rintro _ G ⟨rfl,l⟩;have o:=Qi (o.out.below l);clear l;try simp only[Qv]
    obtain⟨r0,r1,z0,z1⟩:=o.out.cells
    have D:=Qi (o.out.fin (9) (10000*(fi:Int)+100*(bi:Int)+90));go_wp2_with fail
    generalize World.setCell _ _ _=t at D |-;exact Xy (v:=.agg #[Iv (9),Iv (10000*(fi:Int)+100*(bi:Int)+90)]) (by simp[results,results52,go_sem,Qa D.out.1 0 _ Yz,Qa D.out.1 1 _ Yz]) Yz ⟨by first | rfl | rw[E],D.out.2⟩
   rw[Xu c3]
   have N:=Qa (s.out _ o.out).1 2 _ Yz;by_cases c4:40<y.code.length
   ·have d:(40:Int)<y.code.length:=by omega
    have E:MBlock.fault m.length fi x bi y=(2,10000*(fi:Int)+100*(bi:Int)+90):=by unfold MBlock.fault;rw[Xr W,F,Xr (by simp),Xr c3,Xs c4]
    go_wp2_with fail
    refine Xm (QaU HP.out) ?_;rintro _ B ⟨rfl,l⟩;have o:=Qi (o.out.below l);clear l;go_wp2_with fail
    refine Xm (Qav) ?_;rintro _ G ⟨rfl,l⟩;have o:=Qi (o.out.below l);clear l;try simp only[Qv]
    obtain⟨r0,r1,z0,z1⟩:=o.out.cells
    have D:=Qi (o.out.fin (2) (10000*(fi:Int)+100*(bi:Int)+90));go_wp2_with fail
    generalize World.setCell _ _ _=t at D |-;exact Xy (v:=.agg #[Iv (2),Iv (10000*(fi:Int)+100*(bi:Int)+90)]) (by simp[results,results52,go_sem,Qa D.out.1 0 _ Yz,Qa D.out.1 1 _ Yz]) Yz ⟨by first | rfl | rw[E],D.out.2⟩
   have d:¬ (40:Int)<y.code.length:=by omega
   go_wp2_with fail
   clear N;go_loopw [10] (fun i wr=>∃ q:Nat,q<=y.code.length/\i=Iv q/\FbS w wr R L/\∀ (j:Nat) z,j<q->y.code[j]?=some z->Qx.form m.length z=0) (fun i _=>y.code.length - (intOf i).toNat)
   case atStart=>exact⟨0,Xb _,Yz,o.out,fun j z H=>absurd H (XG _)⟩
   case round =>
    obtain⟨q,hq,rfl,hs,Q⟩:=hrel
    have A:=Qi hs;have ad:=Qi Q;clear hs Q o;have N:=Qa (s.out _ A.out).1 2 _ Yz;by_cases ar:q<y.code.length
    rotate_left
    ·have U:¬ (q:Int)<y.code.length:=by omega
     have E0:Hid (MBlock.fault m.length fi x bi y=if MEnd.form x.blocks.length y.fin≠0 then (MEnd.form x.blocks.length y.fin,10000*(fi:Int)+100*(bi:Int)+91) else (0,0)):=by
      show _=_;unfold MBlock.fault;rw[Xr W,F,Xr (by simp),Xr c3,Xr c4,Zv (fun k z hk=>ad.out k z (by have:=(Zi hk).1;omega) hk),Xr (by simp)]
     have RE:Hid (wr.rangeAt Z 3 [Iv y.fin.op,Iv y.fin.a,Iv y.fin.yes.block,.slice g.e.pYR y.fin.yes.regs.length g.e.cYR,.slice g.e.pYA y.fin.yes.args.length g.e.cYA,Iv y.fin.no.block,.slice g.e.pNR y.fin.no.regs.length g.e.cNR,.slice g.e.pNA y.fin.no.args.length g.e.cNA,.slice g.e.pA y.fin.args.length g.e.cA]):=fun j v H=>Qa (s.out _ A.out).1 (3+j) v (by rw[<-Array.getElem?_toList,Nat.add_comm];exact H);have y0:=Qa (s.out _ A.out).2.1 0 _ Yz;have y1:=Qa (s.out _ A.out).2.1 1 _ Yz;have y2:=Qa (s.out _ A.out).2.1 2 _ Yz;have y3:=Qa (s.out _ A.out).2.1 3 _ Yz;have CE:=Qi (Qdy (x:=y.fin) (e:=g.e) (fr:=x.regs) (fp:=fp) (fq:=fr) (fb:=some ⟨O,T,none⟩) (fl:=x.params.length) (fc:=fc) (fm:=x.results.length) (fd:=fd) (bl:=x.blocks.length) (fe:=fe) (w:=wr) (by have h9:=ag.out.2.2.1;have:=h9.1;have:=h9.2.1;unfold MTo.small at *;omega) (by omega));unfold Rd at CE;generalize MEnd.form x.blocks.length y.fin=ef at CE E0;go_wp2_with (refine wpList_load_mid Yz 84 (.tmp 101) Yz Z 3 Yz [Iv y.fin.op,Iv y.fin.a,Iv y.fin.yes.block,.slice g.e.pYR y.fin.yes.regs.length g.e.cYR,.slice g.e.pYA y.fin.yes.args.length g.e.cYA,Iv y.fin.no.block,.slice g.e.pNR y.fin.no.regs.length g.e.cNR,.slice g.e.pNA y.fin.no.args.length g.e.cNA,.slice g.e.pA y.fin.args.length g.e.cA] _ RE.out underlying84 Yz pSizeE ?_)
     refine CE.out.mono ?_;rintro _ w7 ⟨rfl,b7⟩;have P:=Qi (A.out.below b7);clear b7 A CE RE y0 y1 y2 y3 N;by_cases ce:ef=0
     ·subst ce;have E:MBlock.fault m.length fi x bi y=(0,0):=by rw[E0.out];rfl
      try simp only[Qv]
      obtain⟨r0,r1,z0,z1⟩:=P.out.cells
      have D:=Qi (P.out.fin (0) (0));go_wp2_with fail
      generalize World.setCell _ _ _=t at D |-;exact Xy (v:=.agg #[Iv (0),Iv (0)]) (by simp[results,results52,go_sem,Qa D.out.1 0 _ Yz,Qa D.out.1 1 _ Yz]) Yz ⟨by first | rfl | rw[E],D.out.2⟩
     ·have d9:(ef != 0)=true:=by simpa using ce
      have E:MBlock.fault m.length fi x bi y=(ef,10000*(fi:Int)+100*(bi:Int)+91):=by rw[E0.out,Xs ce]
      clear E0;go_wp2_with fail
      refine Xm (QfB HP.out) ?_;rintro _ B ⟨rfl,l⟩;have P:=Qi (P.out.below l);clear l;go_wp2_with fail
      refine Xm (Qav) ?_;rintro _ G ⟨rfl,l⟩;have P:=Qi (P.out.below l);clear l;try simp only[Qv]
      obtain⟨r0,r1,z0,z1⟩:=P.out.cells
      have D:=Qi (P.out.fin (ef) (10000*(fi:Int)+100*(bi:Int)+91));go_wp2_with fail
      generalize World.setCell _ _ _=t at D |-;exact Xy (v:=.agg #[Iv (ef),Iv (10000*(fi:Int)+100*(bi:Int)+91)]) (by simp[results,results52,go_sem,Qa D.out.1 0 _ Yz,Qa D.out.1 1 _ Yz]) Yz ⟨by first | rfl | rw[E],D.out.2⟩
    have U:(q:Int)<y.code.length:=by omega
    have hz:y.code[q]?=some y.code[q]:=Zg ar;generalize y.code[q]=z at hz;have HZ:=Qi hz;obtain⟨g3,o3,i3,e3,E3,-⟩:=Qho aj.out.code hz
    have RI:Hid (wr.rangeAt g3 (o3+q*8) [Iv z.op,Iv z.a,Iv z.b,Iv z.c,Iv z.k,Iv z.n,.slice i3.pR z.regs.length i3.cR,.slice i3.pA z.args.length i3.cA]):=fun j v H=>Qn (E3 j v H) A.out.bel;have M:=Qa (s.out _ A.out).2.2 0 _ Yz;have q9:=N;rw[e3] at q9
    clear E3 hz e3;go_upto_region 15 with fail
    refine Code.wp_mono ?_ (QoS RI M q9 U _ _ Yz (Xg (by kernel_rfl)) Yz Yz Yz);rintro ee aa w9 ⟨rfl,vs,rfl,hv,b9⟩;simp only[QC,Act.put,List.setIfInBounds_toArray,List.set_cons_zero,List.set_cons_succ,hv]
    have S9:=Qi (A.out.below b9);clear b9 A M N q9 RI hv;generalize I:Qx.form m.length z=zf;by_cases c5:zf=0
    ·subst c5;go_wp2
     go_roundw
     case rel =>
      refine⟨q+1,by omega,by go_num,S9.out,fun j u H hu=>?_⟩
      by_cases aq:j<q
      ·exact ad.out j u aq hu
      ·have:j=q:=by omega
       subst this;rw[HZ.out] at hu
       cases hu
       exact I
     case measure=>simp[intOf];omega
    ·have d9:(zf != 0)=true:=by simpa using c5
     have E:MBlock.fault m.length fi x bi y=(zf,10000*(fi:Int)+100*(bi:Int)+(q:Int)):=by
      have hF:=ZT (f:=fun i u=>(Qx.form m.length u,(10000*fi+100*bi+i:Int))) (j:=0) HZ.out (fun k u hk hu=>ad.out _ u hk hu) (by rw[I];exact c5);rw[XK,I] at hF
      unfold MBlock.fault;rw[Xr W,F,Xr (by simp),Xr c3,Xr c4,hF,Xs c5]
     have ao:fi<1000000/\bi<1000000/\q<1000000:=⟨HP.out.1,HP.out.2,by omega⟩;have au:=Qi ao;clear ao I c5;go_wp2_with fail
     refine Xm (Qe8 au.out) ?_;rintro _ B ⟨rfl,l⟩;have S9:=Qi (S9.out.below l);clear l;go_wp2_with fail
     refine Xm (Qav) ?_;rintro _ G ⟨rfl,l⟩;have S9:=Qi (S9.out.below l);clear l;try simp only[Qv]
     obtain⟨r0,r1,z0,z1⟩:=S9.out.cells
     have D:=Qi (S9.out.fin (zf) (10000*(fi:Int)+100*(bi:Int)+(q:Int)));go_wp2_with fail
     generalize World.setCell _ _ _=t at D |-;exact Xy (v:=.agg #[Iv (zf),Iv (10000*(fi:Int)+100*(bi:Int)+(q:Int))]) (by simp[results,results52,go_sem,Qa D.out.1 0 _ Yz,Qa D.out.1 1 _ Yz]) Yz ⟨by first | rfl | rw[E],D.out.2⟩
def plB {n:Nat}(x:MFunc n) (q:Nat):Bool:=(x.regs==0&&((x.params.length:Int)==0))&&(x.results.take q).all (fun t=>t.kind==1)
theorem Qg0 (x:MFunc n):plB x 0=(x.regs==0&&((x.params.length:Int)==0)):=by simp[plB]
theorem QkP {x:MFunc n}{t:TT n}(h:x.results[q]?=some t):plB x (q+1)=(plB x q&&t.kind==1):=by
 unfold plB;rw[XV,h,List.all_append]
 simp[Bool.and_assoc]
theorem QjJ (x:MFunc n):plB x x.results.length=true↔(x.regs=0/\x.params.length=0/\x.results.all (fun t=>t.kind==1)=true):=by
 unfold plB;rw[List.take_length]
 simp only[Bool.and_eq_true,beq_iff_eq]
 constructor
 ·rintro ⟨⟨b,c⟩,a⟩;exact⟨b,by omega,a⟩
 ·rintro ⟨b,c,a⟩;exact⟨⟨b,by omega⟩,a⟩
theorem Qb3 {m:List (MFunc n)}(ap:(Qar n).In w All m [.slice p m.length c]) (ak:Qcz m) :
 Rd prog 14 #[.agg #[.slice p m.length c]] w (Qv (modFault m)):=by
 have ax:=ak.1;have HM:=Qi ap;have HS:=Qi ak;have S:=Qi (FbS.start w #[.slice p m.length c] 24);clear ap ak;unfold Rd;go_enter func14,ntmps14
 go_upto_region 1 with fail
 generalize (w.alloc (.cells #[.slice p m.length c] 24)).alloc (.cells #[Iv 0,Iv 0] 32)=w1 at S |-;generalize w.heap.size+1=R at S |-;generalize w.heap.size=X at S |-;have x0:=Qa (S.out.box 0 _ Z) 0 _ Z;go_cut [20] (fun v wx=>v=.bool (decide (m.length<1\/8<m.length))/\FbS w wx R [(X,#[.slice p m.length c],24)])
 case first =>
  by_cases h:(m.length:Int)<1
  ·have V:decide ((m.length:Int)<1)=true:=Xt h;have E:decide (m.length<1\/8<m.length)=true:=Xt (.inl (by omega));go_wp2
   go_meet;exact⟨by rw[E],S.out⟩
  ·have V:decide ((m.length:Int)<1)=false:=Xu h;have E:decide (m.length<1\/8<m.length)=decide ((m.length:Int)>8):=by rw[decide_eq_decide];omega
   go_wp2
   all_goals
    go_meet;exact⟨by rw[E],S.out⟩
 case rest =>
  obtain⟨rfl,B⟩:=hcut
  have S2:=Qi B;clear B S x0;by_cases c1:m.length<1\/8<m.length
  ·rw[Xt c1]
   have E:modFault m=(2,-1):=Xs c1;go_wp2_with fail
   refine Xm (Qav) ?_;rintro _ J ⟨rfl,a⟩;have S2:=Qi (S2.out.below a);clear a;try simp only[Qv]
   obtain⟨r0,r1,z0,z1⟩:=S2.out.cells
   have D:=Qi (S2.out.fin (2) (-1));go_wp2_with fail
   generalize World.setCell _ _ _=o at D |-;exact Xy (v:=.agg #[Iv (2),Iv (-1)]) (by simp[results,results14,go_sem,Qa D.out.1 0 _ Z,Qa D.out.1 1 _ Z]) Z ⟨by first | rfl | rw[E],D.out.2⟩
  rw[Xu c1]
  go_wp2_with fail
  go_loopw [3] (fun i wr=>∃ k:Nat,k<=m.length/\i=Iv k/\FbS w wr R [(X,#[.slice p m.length c],24)]/\∀ (j:Nat) f,j<k->m[j]?=some f->(MFunc.fault m.length j f).1=0) (fun i _=>m.length - (intOf i).toNat)
  case atStart=>exact⟨0,Xb _,Z,S2.out,fun j z C=>absurd C (XG _)⟩
  case round =>
   obtain⟨k,hk,rfl,hs,l⟩:=hrel
   have SR:=Qi hs;have ae:=Qi l;clear hs l S2;obtain⟨wf,aq⟩:∃ wf,wf=wr:=⟨_,Z⟩
   subst aq;have x0:=Qa (SR.out.box 0 _ Z) 0 _ Z;by_cases aw:k<m.length
   rotate_left
   ·have ao:¬ (k:Int)<m.length:=by omega
    have E:modFault m=(0,0):=by
     unfold modFault;rw[Xr c1]
     exact Zv fun j f C=>by rw[XK];exact ae.out j f (by have:=(Zi C).1;omega) C
    try simp only[Qv]
    obtain⟨r0,r1,z0,z1⟩:=SR.out.cells
    have D:=Qi (SR.out.fin (0) (0));go_wp2_with fail
    generalize World.setCell _ _ _=o at D |-;exact Xy (v:=.agg #[Iv (0),Iv (0)]) (by simp[results,results14,go_sem,Qa D.out.1 0 _ Z,Qa D.out.1 1 _ Z]) Z ⟨by first | rfl | rw[E],D.out.2⟩
   have ao:(k:Int)<m.length:=by omega
   have P:m[k]?=some m[k]:=Zg aw;generalize m[k]=x at P;have ah:=Qi P
   have EM:Hid ((MFunc.fault m.length k x).1≠0->modFault m=MFunc.fault m.length k x):=fun h=>by
    have hF:=ZT (f:=fun f x=>MFunc.fault m.length f x) (j:=0) ah.out (fun j f C hf=>by rw[XK];exact ae.out j f C hf) (by rw[XK];exact h);rw[XK] at hF
    unfold modFault;rw[Xr c1,hF]
   obtain⟨g1,o1,d,rfl,E1,al⟩:=QbU HM.out P
   have ai:=Qi al;have K:=HS.out.2 x (Zm P);have am:=Qi K;have az:=K.1;have a0:x.results.length<=100000:=K.2.2.1.1;have ad:x.params.length<=100000:=K.2.1.1;have hp:k<1000000:=by omega
   have HP:=Qi hp;have R1:Hid (wf.rangeAt g1 (o1+k*4) [Iv x.regs,.slice d.pP x.params.length d.cP,.slice d.pR x.results.length d.cR,.slice d.pB x.blocks.length d.cB]):=fun j v C=>Qn (E1 j v C) SR.out.bel;have v0:wf.cell? ⟨g1,o1+k*4,none⟩=some (Iv x.regs):=R1.out 0 _ Z;have v1:=R1.out 1 _ Z;have v2:=R1.out 2 _ Z;have v3:=R1.out 3 _ Z;have S6:=Qi (SR.out.new #[Iv x.regs,.slice d.pP x.params.length d.cP,.slice d.pR x.results.length d.cR,.slice d.pB x.blocks.length d.cB] 89);clear P E1 al K hp R1 SR;go_upto_region 7 with fail
   generalize wf.alloc (.cells #[Iv x.regs,.slice d.pP x.params.length d.cP,.slice d.pR x.results.length d.cR,.slice d.pB x.blocks.length d.cB] 89)=w6 at S6 |-;generalize wf.heap.size=Y at S6 |-;clear v0 v1 v2 v3 x0;generalize hL:([(Y,#[Iv x.regs,.slice d.pP x.params.length d.cP,.slice d.pR x.results.length d.cR,.slice d.pB x.blocks.length d.cB],89),(X,#[.slice (some ⟨g1,o1,none⟩) m.length c],24)]:List (Nat × Array Value × TypeId))=L at S6;have I:Hid (∀ wx,FbS w wx R L->Blk wx Y #[Iv x.regs,.slice d.pP x.params.length d.cP,.slice d.pR x.results.length d.cR,.slice d.pB x.blocks.length d.cB] 89/\Blk wx X #[.slice (some ⟨g1,o1,none⟩) m.length c] 24):=by subst hL;exact fun wx h=>⟨h.box 0 _ Z,h.box 1 _ Z⟩
   have DR:Hid (∀ wx,FbS w wx R L->FbS w wx R [(X,#[.slice (some ⟨g1,o1,none⟩) m.length c],24)]):=fun wx h=>⟨h.bel,h.ge,h.r,fun i b hb=>by
    cases i with
    | zero=>cases hb;exact(I.out wx h).2
    | succ i=>simp at hb⟩
   clear hL;have q0:=Qa (I.out _ S6.out).1 0 _ Z;go_cut [41] (fun v wx=>v=.bool (decide (x.regs<0\/6<x.regs))/\FbS w wx R L)
   case first =>
    by_cases h:x.regs<0
    ·have V:decide (x.regs<0)=true:=Xt h;have E:decide (x.regs<0\/6<x.regs)=true:=Xt (.inl (by omega));go_wp2
     go_meet;exact⟨by rw[E],S6.out⟩
    ·have V:decide (x.regs<0)=false:=Xu h;have E:decide (x.regs<0\/6<x.regs)=decide (x.regs>6):=by rw[decide_eq_decide];omega
     go_wp2
     all_goals
      go_meet;exact⟨by rw[E],S6.out⟩
   case rest =>
    obtain⟨rfl,B⟩:=hcut
    have M:=Qi B;clear B S6 q0;by_cases T:x.regs<0\/6<x.regs
    ·rw[Xt T]
     have E:modFault m=(1,10000*(k:Int)+9999):=by
      have A:MFunc.fault m.length k x=(1,10000*(k:Int)+9999):=Xs T;rw[EM.out (by rw[A];show (1:Int)≠0;decide),A]
     clear T;go_wp2_with fail
     refine Xm (QaE HP.out) ?_;rintro _ J ⟨rfl,a⟩;have M:=Qi (M.out.below a);clear a;go_wp2_with fail
     refine Xm (Qav) ?_;rintro _ aa ⟨rfl,a⟩;have M:=Qi (M.out.below a);clear a;try simp only[Qv]
     obtain⟨r0,r1,z0,z1⟩:=M.out.cells
     have D:=Qi (M.out.fin (1) (10000*(k:Int)+9999));go_wp2_with fail
     generalize World.setCell _ _ _=o at D |-;exact Xy (v:=.agg #[Iv (1),Iv (10000*(k:Int)+9999)]) (by simp[results,results14,go_sem,Qa D.out.1 0 _ Z,Qa D.out.1 1 _ Z]) Z ⟨by first | rfl | rw[E],D.out.2⟩
    rw[Xu T]
    have q0:=Qa (I.out _ M.out).1 0 _ Z;have q1:=Qa (I.out _ M.out).1 1 _ Z;have CL:=Qi (Qbi (regs:=x.regs) (Ya ai.out.params M.out.bel) am.out.2.1);unfold Rd at CL;go_wp2_with fail
    refine CL.out.mono ?_;rintro _ wl ⟨rfl,bl⟩;have s:=Qi (M.out.below bl);clear bl CL q0 q1 M;generalize G:listC x.regs x.params=F;by_cases c3:F=0
    rotate_left
    ·have d9:(F != 0)=true:=by simpa using c3
     have E:modFault m=(F,10000*(k:Int)+9999):=by
      have A:MFunc.fault m.length k x=(F,10000*(k:Int)+9999):=by unfold MFunc.fault;rw[Xr T,G,Xs c3]
      rw[EM.out (by rw[A];exact c3),A]
     go_wp2_with fail
     refine Xm (QaE HP.out) ?_;rintro _ J ⟨rfl,a⟩;have s:=Qi (s.out.below a);clear a;go_wp2_with fail
     refine Xm (Qav) ?_;rintro _ aa ⟨rfl,a⟩;have s:=Qi (s.out.below a);clear a;try simp only[Qv]
     obtain⟨r0,r1,z0,z1⟩:=s.out.cells
     have D:=Qi (s.out.fin (F) (10000*(k:Int)+9999));go_wp2_with fail
     generalize World.setCell _ _ _=o at D |-;exact Xy (v:=.agg #[Iv (F),Iv (10000*(k:Int)+9999)]) (by simp[results,results14,go_sem,Qa D.out.1 0 _ Z,Qa D.out.1 1 _ Z]) Z ⟨by first | rfl | rw[E],D.out.2⟩
    subst c3;have q0:=Qa (I.out _ s.out).1 0 _ Z;have q1:=Qa (I.out _ s.out).1 2 _ Z;have CL:=Qi (Qbi (regs:=x.regs) (Ya ai.out.results s.out.bel) am.out.2.2.1);unfold Rd at CL;go_wp2_with fail
    refine CL.out.mono ?_;rintro _ wl ⟨rfl,bl⟩;have e:=Qi (s.out.below bl);clear bl CL q0 q1 s;generalize O:listC x.regs x.results=F;by_cases c4:F=0
    rotate_left
    ·have d9:(F != 0)=true:=by simpa using c4
     have E:modFault m=(F,10000*(k:Int)+9999):=by
      have A:MFunc.fault m.length k x=(F,10000*(k:Int)+9999):=by unfold MFunc.fault;rw[Xr T,G,Xr (by simp),O,Xs c4]
      rw[EM.out (by rw[A];exact c4),A]
     go_wp2_with fail
     refine Xm (QaE HP.out) ?_;rintro _ J ⟨rfl,a⟩;have e:=Qi (e.out.below a);clear a;go_wp2_with fail
     refine Xm (Qav) ?_;rintro _ aa ⟨rfl,a⟩;have e:=Qi (e.out.below a);clear a;try simp only[Qv]
     obtain⟨r0,r1,z0,z1⟩:=e.out.cells
     have D:=Qi (e.out.fin (F) (10000*(k:Int)+9999));go_wp2_with fail
     generalize World.setCell _ _ _=o at D |-;exact Xy (v:=.agg #[Iv (F),Iv (10000*(k:Int)+9999)]) (by simp[results,results14,go_sem,Qa D.out.1 0 _ Z,Qa D.out.1 1 _ Z]) Z ⟨by first | rfl | rw[E],D.out.2⟩
    subst c4;go_upto_region 15 with fail
    have q3:=Qa (I.out _ e.out).1 3 _ Z;go_cut [76] (fun v wx=>v=.bool (decide (x.blocks.length<1\/12<x.blocks.length))/\FbS w wx R L)
    case first =>
     by_cases h:(x.blocks.length:Int)<1
     ·have V:decide ((x.blocks.length:Int)<1)=true:=Xt h;have E:decide (x.blocks.length<1\/12<x.blocks.length)=true:=Xt (.inl (by omega));go_wp2
      go_meet;exact⟨by rw[E],e.out⟩
     ·have V:decide ((x.blocks.length:Int)<1)=false:=Xu h;have E:decide (x.blocks.length<1\/12<x.blocks.length)=decide ((x.blocks.length:Int)>12):=by rw[decide_eq_decide];omega
      go_wp2
      all_goals
       go_meet;exact⟨by rw[E],e.out⟩
    case rest =>
     obtain⟨rfl,B⟩:=hcut
     have H:=Qi B;clear B e q3;by_cases c5:x.blocks.length<1\/12<x.blocks.length
     ·rw[Xt c5]
      have E:modFault m=(2,10000*(k:Int)+9999):=by
       have A:MFunc.fault m.length k x=(2,10000*(k:Int)+9999):=by unfold MFunc.fault;rw[Xr T,G,Xr (by simp),O,Xr (by simp),Xs c5]
       rw[EM.out (by rw[A];show (2:Int)≠0;decide),A]
      clear c5;go_wp2_with fail
      refine Xm (QaE HP.out) ?_;rintro _ J ⟨rfl,a⟩;have H:=Qi (H.out.below a);clear a;go_wp2_with fail
      refine Xm (Qav) ?_;rintro _ aa ⟨rfl,a⟩;have H:=Qi (H.out.below a);clear a;try simp only[Qv]
      obtain⟨r0,r1,z0,z1⟩:=H.out.cells
      have D:=Qi (H.out.fin (2) (10000*(k:Int)+9999));go_wp2_with fail
      generalize World.setCell _ _ _=o at D |-;exact Xy (v:=.agg #[Iv (2),Iv (10000*(k:Int)+9999)]) (by simp[results,results14,go_sem,Qa D.out.1 0 _ Z,Qa D.out.1 1 _ Z]) Z ⟨by first | rfl | rw[E],D.out.2⟩
     rw[Xu c5]
     go_upto_if 81 with fail
     go_cut [] (fun wx=>FbS w wx R L/\(k=0->plB x x.results.length=true))
     case first =>
      by_cases h0:k=0
      rotate_left
      ·have d0:((k:Int)==0)=false:=by simpa using h0
       have H0:=Qi h0;clear h0;go_wp2
       go_meet;exact⟨H.out,fun h=>absurd h H0.out⟩
      have d0:((k:Int)==0)=true:=by simpa using h0
      have H0:=Qi h0;clear h0;have q0:=Qa (I.out _ H.out).1 0 _ Z;have q1:=Qa (I.out _ H.out).1 1 _ Z;go_upto_region 18 with fail
      go_cut [7] (fun v wx=>v=.bool (plB x 0)/\FbS w wx R L)
      case first =>
       by_cases hr:x.regs=0
       ·have V:(x.regs==0)=true:=by simpa using hr
        have E:plB x 0=((x.params.length:Int)==0):=by rw[Qg0,V];rfl
        clear hr;go_wp2
        all_goals
         go_meet;exact⟨by rw[E],H.out⟩
       ·have V:(x.regs==0)=false:=by simpa using hr
        have E:plB x 0=false:=by rw[Qg0,V];rfl
        go_wp2
        go_meet;exact⟨by rw[E],H.out⟩
      case rest =>
       obtain⟨rfl,B⟩:=hcut
       have SB:=Qi B;clear B H q0 q1;go_wp2_with fail
       go_loopw [7,8] (fun v i wr=>∃ q:Nat,q<=x.results.length/\i=Iv q/\v=.bool (plB x q)/\FbS w wr R L) (fun _ i _=>x.results.length - (intOf i).toNat)
       case atStart=>exact⟨0,Xb _,Z,Z,SB.out⟩
       case round =>
        obtain⟨q,hq,rfl,rfl,hs⟩:=hrel
        have g:=Qi hs;clear hs SB;have q2:=Qa (I.out _ g.out).1 2 _ Z;by_cases ab:q<x.results.length
        ·have N:(q:Int)<x.results.length:=by omega
         have ht:x.results[q]?=some x.results[q]:=Zg ab;generalize x.results[q]=t at ht;have HN:=Qi (QkP ht);obtain⟨gt,ot,ta,tc,e3,-,ay,-,-,-⟩:=(Q8 (Ya ai.out.results g.out.bel)).1.at ht
         have q9:=q2;rw[e3] at q9
         clear ht e3 q2;generalize plB x q=pq at HN
         cases pq with
         | true =>
           go_wp2
           all_goals
            go_roundw
            case rel=>exact⟨q+1,by omega,by go_num,by rw[HN.out];rfl,g.out⟩
            case measure=>simp[intOf];omega
         | false =>
           go_wp2
           go_roundw
           case rel=>exact⟨q+1,by omega,by go_num,by rw[HN.out];rfl,g.out⟩
           case measure=>simp[intOf];omega
        have N:¬ (q:Int)<x.results.length:=by omega
        have av:q=x.results.length:=by omega
        subst av;generalize aj:plB x x.results.length=pq
        cases pq with
        | true =>
          go_wp2
          go_meet;exact⟨g.out,fun _=>aj⟩
        | false =>
          have E:modFault m=(18,10000*(k:Int)+9999):=by
           have A:MFunc.fault m.length k x=(18,10000*(k:Int)+9999):=by unfold MFunc.fault;rw[Xr T,G,Xr (by simp),O,Xr (by simp),Xr c5,Xs ⟨H0.out,fun h=>by rw[(QjJ x).2 h] at aj;cases aj⟩]
           rw[EM.out (by rw[A];show (18:Int)≠0;decide),A]
          go_wp2_with fail
          refine Xm (QaE HP.out) ?_;rintro _ J ⟨rfl,a⟩;have g:=Qi (g.out.below a);clear a;go_wp2_with fail
          refine Xm (Qav) ?_;rintro _ aa ⟨rfl,a⟩;have g:=Qi (g.out.below a);clear a;try simp only[Qv]
          obtain⟨r0,r1,z0,z1⟩:=g.out.cells
          have D:=Qi (g.out.fin (18) (10000*(k:Int)+9999));go_wp2_with fail
          generalize World.setCell _ _ _=o at D |-;exact Xy (v:=.agg #[Iv (18),Iv (10000*(k:Int)+9999)]) (by simp[results,results14,go_sem,Qa D.out.1 0 _ Z,Qa D.out.1 1 _ Z]) Z ⟨by first | rfl | rw[E],D.out.2⟩
     case rest =>
      obtain⟨B,ad⟩:=hcut
      have SB:=Qi B;have c6:¬ (k=0/\¬ (x.regs=0/\x.params.length=0/\x.results.all (fun t=>t.kind==1)=true)):=fun h=>h.2 ((QjJ x).1 (ad h.1))
      have EF:Hid (MFunc.fault m.length k x=firstF (fun b y=>MBlock.fault m.length k x b y) 0 x.blocks):=by
       show _=_;unfold MFunc.fault;rw[Xr T,G,Xr (by simp),O,Xr (by simp),Xr c5,Xr c6]
      clear B ad H T G O c5 c6;go_wp2_with fail
      go_loopw [9] (fun i wr=>∃ q:Nat,q<=x.blocks.length/\i=Iv q/\FbS w wr R L/\∀ (j:Nat) y,j<q->x.blocks[j]?=some y->(MBlock.fault m.length k x j y).1=0) (fun i _=>x.blocks.length - (intOf i).toNat)
      case atStart=>exact⟨0,Xb _,Z,SB.out,fun j z C=>absurd C (XG _)⟩
      case round =>
       obtain⟨q,hq,rfl,hs,l⟩:=hrel
       have g:=Qi hs;have ac:=Qi l;clear hs l SB;have q3:=Qa (I.out _ g.out).1 3 _ Z;by_cases ab:q<x.blocks.length
       rotate_left
       ·have N:¬ (q:Int)<x.blocks.length:=by omega
        go_wp2
        go_roundw
        case rel =>
         refine⟨k+1,by omega,by go_num,DR.out _ g.out,fun j f C hf=>?_⟩
         by_cases ar:j<k
         ·exact ae.out j f ar hf
         ·have:j=k:=by omega
          subst this;rw[ah.out] at hf
          cases hf
          rw[EF.out,Zv fun b y hb=>by rw[XK];exact ac.out b y (by have:=(Zi hb).1;omega) hb]
        case measure=>simp[intOf];omega
       have N:(q:Int)<x.blocks.length:=by omega
       have U:x.blocks[q]?=some x.blocks[q]:=Zg ab;generalize x.blocks[q]=y at U;have an:=Qi U;have CB:=Qi (QdT (Ya HM.out g.out.bel) HS.out ah.out U);unfold Rd at CB;obtain⟨W,bp,ag⟩:∃ W bp,MBlock.fault m.length k x q y=(W,bp):=⟨_,_,Z⟩
       rw[ag] at CB
       have af:=Qi ag;have x0:=Qa (I.out _ g.out).2 0 _ Z;clear U ag;go_wp2_with fail
       refine CB.out.mono ?_;rintro _ w8 ⟨rfl,b8⟩;have e:=Qi ((g.out.below b8).new #[Iv W,Iv bp] 32);clear b8 CB g q3 x0;simp only[Qv]
       go_upto_region 29 with fail
       generalize w8.alloc (.cells #[Iv W,Iv bp] 32)=w9 at e |-;generalize w8.heap.size=F8 at e |-;have f0:=Qa (e.out.box 0 _ Z) 0 _ Z;have d:=Qa (e.out.box 0 _ Z) 1 _ Z;have s:Hid (FbS w w9 R L):=⟨e.out.bel,e.out.ge,e.out.r,fun i b hb=>e.out.box (i+1) b hb⟩;clear e;by_cases Q:W=0
       ·subst Q;go_wp2
        go_roundw
        case rel =>
         refine⟨q+1,by omega,by go_num,s.out,fun j u C hu=>?_⟩
         by_cases au:j<q
         ·exact ac.out j u au hu
         ·have:j=q:=by omega
          subst this;rw[an.out] at hu
          cases hu
          rw[af.out]
        case measure=>simp[intOf];omega
       ·have d9:(W != 0)=true:=by simpa using Q
        have E:modFault m=(W,bp):=by
         have hF:=ZT (f:=fun b y=>MBlock.fault m.length k x b y) (j:=0) an.out (fun j u C hu=>by rw[XK];exact ac.out j u C hu) (by rw[XK,af.out];exact Q);rw[XK,af.out] at hF
         rw[EM.out (by rw[EF.out,hF];exact Q),EF.out,hF]
        clear Q;try simp only[Qv]
        obtain⟨r0,r1,z0,z1⟩:=s.out.cells
        have D:=Qi (s.out.fin (W) (bp));go_wp2_with fail
        generalize World.setCell _ _ _=o at D |-;exact Xy (v:=.agg #[Iv (W),Iv (bp)]) (by simp[results,results14,go_sem,Qa D.out.1 0 _ Z,Qa D.out.1 1 _ Z]) Z ⟨by first | rfl | rw[E],D.out.2⟩
theorem QfW {Q:Nat->Prop}{m:List (MBlock 6)}(h:(Qa6 6).list.In w Q m [.slice p n c]){g:MBlock 6}(o:m[k]?=some g) :
 ∃ mg mo a1 c1 a2 c2 e,p=some ⟨mg,mo,none⟩/\w.rangeAt mg (mo+k*12) (Iv g.regs::.slice a1 g.params.length c1::.slice a2 g.code.length c2::(Qcq g.fin e).toList)/\(Qt 6).In w Q g.params [.slice a1 g.params.length c1]/\insC.list.In w Q g.code [.slice a2 g.code.length c2]/\Qgr w Q g.fin e/\g.fin.yes.regs.length<=e.cYR/\g.fin.no.regs.length<=e.cNR:=by
 obtain⟨mg,mo,u,l,x,y,q,_,_,rfl,⟨rfl,_⟩,_,_,rfl,d,_,_,rfl,b,r⟩:=Yf h o
 obtain⟨a1,c1,rfl,d⟩:=Q6 d
 obtain⟨a2,c2,rfl,b⟩:=Q6 b
 obtain⟨e,rfl,t,s,i⟩:=Qjg r
 refine⟨mg,mo,a1,c1,a2,c2,e,l,fun j v f=>?_,d,b,t,s,i⟩
 have a:j<12:=(Zi f).1
 have:=q j a
 rw[show (Qa6 6).size=12 from Z] at this
 rw[this]
 exact f
structure RfS (w wr:World) (X R:Nat) (pm:Option Addr) (N cm:Nat):Prop where
 bel:Below w.heap.size w wr
 x:Blk wr X #[.slice pm N cm] 24
 r:Blk wr R #[Iv 0,Iv 0] 32
theorem RfS.below (h:RfS w wr X R pm N cm) (k:Below wr.heap.size wr w'):RfS w w' X R pm N cm :=
 ⟨h.bel.trans (k.mono h.bel.size),(k.block X (XC h.x)).trans h.x,(k.block R (XC h.r)).trans h.r⟩
theorem RfS.step (h:RfS w wr X R pm N cm) (k:QZ O O' wr w') (a:¬ O X) (b:¬ O R) (c:∀ k,O k->w.heap.size<=k):RfS w w' X R pm N cm :=
 ⟨h.bel.trans (k.below h.bel.size c),(k.block X (XC h.x) a).trans h.x,(k.block R (XC h.r) b).trans h.r⟩
structure RfI (w wr:World) (X R Bx B:Nat) (pm:Option Addr) (N cm:Nat) (cs:Array Value) (s:JSt) (O:Nat->Prop):Prop where
 top:RfS w wr X R pm N cm
 box:Blk wr Bx cs 86
 known:KAt wr B O s
 own:∀ k,O k->w.heap.size<=k/\k<wr.heap.size
 nx:¬ O X
 nr:¬ O R
 nb:¬ O Bx
theorem RfI.to {f:Nat}{cs:Array Value}{s g:JSt}(h:RfI w wr X R f B pm N cm cs s O) (k:KTo wr w' B O g):∃ O',RfI w w' X R f B pm N cm cs g O':=by
 obtain⟨O',j,d,l⟩:=k
 have a:∀ {b:Nat},¬ O b->b<wr.heap.size->¬ O' b:=fun {b} i m e=>by rcases d.own b e with e | e;exact i e;omega
 have n:=h.top.bel.size;exact⟨O',h.top.step d h.nx h.nr (fun k c=>(h.own k c).1),(d.block f (XC h.box) h.nb).trans h.box,j,fun k c=>⟨by rcases d.own k c with e | e;exact(h.own k e).1;omega,l k c⟩,a h.nx (XC h.top.x),a h.nr (XC h.top.r),a h.nb (XC h.box)⟩
theorem Z7 (h:Blk w R #[Iv 0,Iv 0] 32) (c a:Int):Blk ((w.setCell ⟨R,0,none⟩ (Iv c)).setCell ⟨R,1,none⟩ (Iv a)) R #[Iv c,Iv a] 32:=by
 have:=Qm (Qm h 0 (Iv c)) 1 (Iv a)
 simpa using this
theorem Qfi {m:List (MFunc 6)}(hm:(QhG 6).In w All m [.slice p m.length c]) (hg:¬ QS m) :
 Calls prog 27 #[.agg #[.slice p m.length c]] w fun e w'=>e=.returned (Qv (QX m))/\Below w.heap.size w w':=by
 have HM:Hid ((QhG 6).In w All m [.slice p m.length c]):=hm;have HG:=Qg hg;have b8:m.length<=20:=Xo fun x=>hg (.inl x);have b1:=ZR w (.cells #[.slice p m.length c] 24);have b2:=ZR (w.alloc (.cells #[.slice p m.length c] 24)) (.cells #[Iv 0,Iv 0] 32)
 have S0:Hid (RfS w ((w.alloc (.cells #[.slice p m.length c] 24)).alloc (.cells #[Iv 0,Iv 0] 32)) w.heap.size (w.heap.size+1) p m.length c) :=
  ⟨b1.trans (b2.mono b1.size),(b2.block _ (by simp)).trans (Qe _ _ _),by have:=Qe (w.alloc (.cells #[.slice p m.length c] 24)) #[Iv 0,Iv 0] 32;rw[World.size_alloc] at this;exact this⟩
 have l:w.heap.size<=w.heap.size+1:=by omega
 clear hm hg b1 b2;go_enter func27,ntmps27
 go_upto_region 1 with fail
 obtain⟨R,hR⟩:∃ R,w.heap.size+1=R:=⟨_,Z⟩
 rw[hR] at S0 l |-
 obtain⟨X,hX⟩:∃ X,w.heap.size=X:=⟨_,Z⟩
 generalize (w.alloc (.cells #[.slice p m.length c] 24)).alloc (.cells #[Iv 0,Iv 0] 32)=w1 at S0 |-;have S:Hid (RfS w w1 X R p m.length c):=by rw[<-hX];exact S0.out
 rw[hX]
 clear S0 hR hX;have x0:=Qa S.out.x 0 _ Z;go_wp2_with fail
 refine Xm (Qb3 ((Qar 6).keep (fun k _ hl=>S.out.bel.block k hl) (fun _ _ _=>trivial) ((Qdb 6).2 HM.out)) (Qbq HG.out)) ?_;rintro e2 w2 ⟨rfl,b2⟩;have S2:Hid (RfS w w2 X R p m.length c):=S.out.below b2;clear S b2 x0;obtain⟨I,T,ay⟩:∃ I T,modFault m=(I,T):=⟨_,_,Z⟩
 have aj:Hid (modFault m=(I,T)):=ay;rw[ay]
 clear ay;have S3:Hid (RfS w (w2.alloc (.cells #[Iv I,Iv T] 32)) X R p m.length c):=S2.out.below (ZR _ _);have F3:Hid (Blk (w2.alloc (.cells #[Iv I,Iv T] 32)) w2.heap.size #[Iv I,Iv T] 32):=Qe _ _ _;simp only[Qv]
 clear S2;go_upto_region 2 with fail
 generalize w2.alloc (.cells #[Iv I,Iv T] 32)=w3 at S3 F3 |-;generalize w2.heap.size=F9 at F3 |-;have f0:=Qa F3.out 0 _ Z;have f1:=Qa F3.out 1 _ Z;by_cases aw:I=0
 rotate_left
 ·have b7:(I != 0)=true:=by simpa using aw
  have E:Hid (QX m=(I,T)):=by show _=_;unfold QX;rw[aj.out,Xs aw]
  have r0:=Qa S3.out.r 0 _ Z;have r1:=Qa S3.out.r 1 _ Z;have z0:=Qd S3.out.r 0;have z1:=Qd S3.out.r 1;have J:Hid (Blk ((w3.setCell ⟨R,0,none⟩ (Iv I)).setCell ⟨R,1,none⟩ (Iv T)) R #[Iv I,Iv T] 32):=Z7 S3.out.r _ _;have BL:Hid (Below w.heap.size w ((w3.setCell ⟨R,0,none⟩ (Iv I)).setCell ⟨R,1,none⟩ (Iv T))):=(S3.out.bel.setCell l _).setCell l _;go_wp2_with fail
  generalize (w3.setCell ⟨R,0,none⟩ (Iv I)).setCell ⟨R,1,none⟩ (Iv T)=ar at J BL |-;have e0:=Qa J.out 0 _ Z;have e1:=Qa J.out 1 _ Z;exact Xy (v:=.agg #[Iv I,Iv T]) (by simp[results,results27,go_sem,e0,e1]) Z ⟨by rw[E.out],BL.out⟩
 subst aw;have a4:Hid ((modFault m).1=0):=by show _=_;rw[aj.out]
 have E0:Hid (QX m=firstF (QaA m) 0 m):=by show _=_;unfold QX;rw[aj.out,Xr (by simp)]
 have S:=S3;clear S3 F3 aj;go_wp2_with fail
 clear f0 f1;go_loopw [4] (fun i wr=>∃ k:Nat,k<=m.length/\i=Iv k/\RfS w wr X R p m.length c/\∀ j f,j<k->m[j]?=some f->(QaA m j f).1=0) (fun i _=>m.length - (intOf i).toNat)
 case atStart=>exact⟨0,Xb _,Z,S.out,fun j f hj=>absurd hj (XG _)⟩
 case round =>
  obtain⟨k,hk,rfl,hs,s⟩:=hrel
  have SR:Hid (RfS w wr X R p m.length c):=hs;have L:=Qg s;clear hs s S;obtain⟨wf,bn⟩:∃ wf,wf=wr:=⟨_,Z⟩
  subst bn;have x0:=Qa SR.out.x 0 _ Z;by_cases bl:k<m.length
  rotate_left
  ·have bf:¬ (k:Int)<m.length:=by omega
   have E:Hid (QX m=(0,0)):=by
    show _=_;rw[E0.out]
    exact Zv fun j f hj=>by rw[XK];exact L.out j f (by have:=(Zi hj).1;omega) hj
   have r0:=Qa SR.out.r 0 _ Z;have r1:=Qa SR.out.r 1 _ Z;have z0:=Qd SR.out.r 0;have z1:=Qd SR.out.r 1;have J:Hid (Blk ((wf.setCell ⟨R,0,none⟩ (Iv 0)).setCell ⟨R,1,none⟩ (Iv 0)) R #[Iv 0,Iv 0] 32):=Z7 SR.out.r _ _;have BL:Hid (Below w.heap.size w ((wf.setCell ⟨R,0,none⟩ (Iv 0)).setCell ⟨R,1,none⟩ (Iv 0))):=(SR.out.bel.setCell l _).setCell l _;go_wp2_with fail
   generalize (wf.setCell ⟨R,0,none⟩ (Iv 0)).setCell ⟨R,1,none⟩ (Iv 0)=ar at J BL |-;have e0:=Qa J.out 0 _ Z;have e1:=Qa J.out 1 _ Z;exact Xy (v:=.agg #[Iv 0,Iv 0]) (by simp[results,results27,go_sem,e0,e1]) Z ⟨by rw[E.out],BL.out⟩
  have bf:(k:Int)<m.length:=by omega
  have ai:m[k]?=some m[k]:=Zg bl;generalize m[k]=f at ai;have am:=Qg ai;obtain⟨P,M,ds,rfl,-,-,u,_,_,rfl,⟨rfl,_⟩,_,_,rfl,t1,_,_,rfl,t2,t3⟩:=Yf HM.out ai
  obtain⟨a1,c1,rfl,t1⟩:=Q6 t1
  obtain⟨a2,c2,rfl,t2⟩:=Q6 t2
  obtain⟨a3,c3,rfl,t3⟩:=Q6 t3
  have v3:w.cell? ⟨P,M+k*4+3,none⟩=some (.slice a3 f.blocks.length c3):=u 3 (by decide);have b5:Hid ((Qa6 6).list.In w All f.blocks [.slice a3 f.blocks.length c3]):=t3;have au:Hid (f∈m):=Zm ai;have ch:f.blocks.length<=30:=Xo fun h=>HG.out (.inr ⟨f,au.out,.inl h⟩);clear u t1 t2 t3 ai;go_wp2_with fail
  go_loopw [5] (fun i wq=>∃ q:Nat,q<=f.blocks.length/\i=Iv q/\RfS w wq X R (some ⟨P,M,none⟩) m.length c/\∀ j g,j<q->f.blocks[j]?=some g->(Q0 (10000*(k:Int)+100*(j:Int)) g.fin (JSt.start m f g) 0 g.code).1=0) (fun i _=>f.blocks.length - (intOf i).toNat)
  case atStart=>exact⟨0,Xb _,Z,SR.out,fun j g hj=>absurd hj (XG _)⟩
  case round =>
   obtain⟨q,hq,rfl,hs,s⟩:=hrel
   have SQ:Hid (RfS w wr X R (some ⟨P,M,none⟩) m.length c):=hs;have A:=Qg s;clear hs s SR x0;obtain⟨wb,bx⟩:∃ wb,wb=wr:=⟨_,Z⟩
   subst bx;have x0:=Qa SQ.out.x 0 _ Z;have br:=Qn v3 SQ.out.bel;by_cases bp:q<f.blocks.length
   rotate_left
   ·have bg:¬ (q:Int)<f.blocks.length:=by omega
    have E:Hid ((QaA m k f).1=0):=by
     show _=_;unfold QaA;rw[Zv fun j g hj=>by rw[XK];exact A.out j g (by have:=(Zi hj).1;omega) hj]
    go_wp2_with fail
    go_roundw
    case rel =>
     refine⟨k+1,by omega,by go_num,SQ.out,fun j y hj Q=>?_⟩
     by_cases aa:j<k
     ·exact L.out j y aa Q
     ·have:j=k:=by omega
      subst this;rw[am.out] at Q
      cases Q
      exact E.out
    case measure=>simp[intOf];omega
   have bg:(q:Int)<f.blocks.length:=by omega
   have V:f.blocks[q]?=some f.blocks[q]:=Zg bp;generalize f.blocks[q]=g at V;have aq:=Qg V;have a5:Hid (g∈f.blocks):=Zm V;have av:Hid (¬ g.great):=fun h=>HG.out (.inr ⟨f,au.out,.inr (.inr (.inr ⟨g,a5.out,h⟩))⟩);have be:Hid (JOk (JSt.start m f g)):=JOk.start a4.out HG.out au.out a5.out;obtain⟨eg,eo,p1,d1,p2,d2,e,rfl,K,bj,ah,ao,bt,bv⟩:=QfW b5.out V
   have bq:=Qg K;have az:=Qg ah;have bc:=Qg ao;have a7:∀ t∈g.params,t.count<=100000:=fun t ht=>Xo fun h=>av.out (.inr (.inl (.inr ⟨t,ht,by omega⟩)));have ba:g.params.length<=100000:=by have:=be.out.vals;simp only[JSt.start] at this;omega
   have CK:Hid (Calls prog 63 #[.agg #[.slice (some ⟨P,M,none⟩) m.length c],Iv (k:Int),Iv (q:Int)] wb fun e w'=>∃ B O',e=.returned (Pv B 0)/\KAt w' B O' (JSt.start m f g)/\(∀ k,O' k->wb.heap.size<=k/\k<w'.heap.size)/\Below wb.heap.size wb w') :=
    QgH (Ya ((Qdb 6).2 HM.out) SQ.out.bel) am.out V a7 ba
   have cd:g.code.length<=200:=Xo fun h=>av.out (.inl h);clear K bj ah ao V a7 ba;go_wp2_with fail
   refine CK.out.mono ?_;rintro e4 d ⟨B,O,rfl,bb,U,b4⟩;have S4:Hid (RfS w d X R (some ⟨P,M,none⟩) m.length c):=SQ.out.below b4;have ad:Hid (d.rangeAt eg (eo+q*12) (Value.int .i64 g.regs::Value.slice p1 g.params.length d1::Value.slice p2 g.code.length d2::(Qcq g.fin e).toList)):=Qa2 bq.out S4.out.bel;generalize al:(Value.int .i64 g.regs::Value.slice p1 g.params.length d1::Value.slice p2 g.code.length d2::(Qcq g.fin e).toList)=N at ad;have hl:N.length=12:=by rw[<-al];rfl
   have TS:Hid ((prog.info? 86).map (·.size)=some N.length):=by show _=_;rw[hl];exact sizeBk
   have TH:Hid ((d.alloc (.cells #[Iv 0,Nv,Nv,Iv 0,Iv 0,Iv 0,Nv,Nv,Iv 0,Nv,Nv,Nv] 86)).there d.heap.size 0 N.toArray.size):=by
    intro j hj;rw[List.size_toArray,hl] at hj
    rw[XK]
    have hB:=Qe d #[Iv 0,Nv,Nv,Iv 0,Iv 0,Iv 0,Nv,Nv,Iv 0,Nv,Nv,Nv] 86;refine⟨?_,Qd hB j⟩
    rw[Qa hB j ((#[Iv 0,Nv,Nv,Iv 0,Iv 0,Iv 0,Nv,Nv,Iv 0,Nv,Nv,Nv]:Array Value)[j]'hj) (by simp)];rfl
   have a9:Hid ((prog.info? 86).map (·.size)=some N.toArray.size):=by show _=_;rw[List.size_toArray];exact TS.out
   have TO:Hid (N.toArray.all (·.oneCell')=true):=by
    refine all_oneCell_toArray fun v hv=>?_;rw[<-al] at hv
    simp only[Qcq,List.mem_cons,List.not_mem_nil,or_false] at hv
    rcases hv with rfl | rfl | rfl | rfl | rfl | rfl | rfl | rfl | rfl | rfl | rfl | rfl<;>rfl
   have B6:Hid (Blk ((d.alloc (.cells #[Iv 0,Nv,Nv,Iv 0,Iv 0,Iv 0,Nv,Nv,Iv 0,Nv,Nv,Nv] 86)).setCells d.heap.size 0 N.toArray.toList) d.heap.size (Value.int .i64 g.regs::Value.slice p1 g.params.length d1::Value.slice p2 g.code.length d2::(Qcq g.fin e).toList).toArray 86):=by
    have h0:Blk (d.alloc (.cells #[Iv 0,Nv,Nv,Iv 0,Iv 0,Iv 0,Nv,Nv,Iv 0,Nv,Nv,Nv] 86)) d.heap.size ([]++(#[Iv 0,Nv,Nv,Iv 0,Iv 0,Iv 0,Nv,Nv,Iv 0,Nv,Nv,Nv]:Array Value).toList).toArray 86:=Qe d _ _;rw[al]
    exact Blk.sets N [] (#[Iv 0,Nv,Nv,Iv 0,Iv 0,Iv 0,Nv,Nv,Iv 0,Nv,Nv,Nv]:Array Value).toList _ (by rw[hl];rfl) h0
   have b6:Hid (Below d.heap.size d ((d.alloc (.cells #[Iv 0,Nv,Nv,Iv 0,Iv 0,Iv 0,Nv,Nv,Iv 0,Nv,Nv,Nv] 86)).setCells d.heap.size 0 N.toArray.toList)):=by
    have:=QZ.setCells (O:=fun k=>k=d.heap.size) (O':=fun k=>k=d.heap.size) (b:=d.heap.size) Z N.toArray.toList 0 _ (QZ.refl _ (d.alloc (.cells #[Iv 0,Nv,Nv,Iv 0,Iv 0,Iv 0,Nv,Nv,Iv 0,Nv,Nv,Nv] 86)))
    exact(ZR d _).trans (this.below (by simp) (fun k hk=>by omega))
   have I6:Hid (RfI w ((d.alloc (.cells #[Iv 0,Nv,Nv,Iv 0,Iv 0,Iv 0,Nv,Nv,Iv 0,Nv,Nv,Nv] 86)).setCells d.heap.size 0 N.toArray.toList) X R d.heap.size B (some ⟨P,M,none⟩) m.length c (Value.int .i64 g.regs::Value.slice p1 g.params.length d1::Value.slice p2 g.code.length d2::(Qcq g.fin e).toList).toArray (JSt.start m f g) O):=by
    have cb:=b6.out.size;have cf:=SQ.out.bel.size;have hX:=XC SQ.out.x;have hR:=XC SQ.out.r;exact⟨S4.out.below b6.out,B6.out,bb.below b6.out,fun k hk=>⟨by have:=U k hk;omega,by have:=U k hk;omega⟩,fun h=>by have:=U _ h;omega,fun h=>by have:=U _ h;omega,fun h=>by have:=U _ h;omega⟩
   have b3:=Qa S4.out.x 0 _ Z;have bz:=Qn v3 S4.out.bel;clear hl al B6 b6 bb U b4 SQ CK x0 br;go_upto_region 12 with (first | (refine wpList_load_mid Z 86 (.tmp 46) Z eg (eo+q*12) Z N _ ad.out underlying86 Z TS.out ?_) | (refine wpList_store_mid Z 86 (.tmp 7) (.tmp 47) Z d.heap.size 0 N.toArray Z Z TH.out a9.out TO.out ?_))
   have I7:Hid (RfI w ((d.alloc (.cells #[Iv 0,Nv,Nv,Iv 0,Iv 0,Iv 0,Nv,Nv,Iv 0,Nv,Nv,Nv] 86)).setCells d.heap.size 0 N) X R d.heap.size B (some ⟨P,M,none⟩) m.length c (Value.int .i64 g.regs::Value.slice p1 g.params.length d1::Value.slice p2 g.code.length d2::(Qcq g.fin e).toList).toArray (JSt.start m f g) O):=I6.out;clear I6 TH TS a9 TO ad S4 b3 bz;generalize (d.alloc (.cells #[Iv 0,Nv,Nv,Iv 0,Iv 0,Iv 0,Nv,Nv,Iv 0,Nv,Nv,Nv] 86)).setCells d.heap.size 0 N=w6 at I7 |-;generalize d.heap.size=Bx at I7 |-;go_wp2_with fail
   go_loopw [8] (fun i wq=>∃ (z:Nat) (O:Nat->Prop),z<=g.code.length/\i=Iv z/\RfI w wq X R Bx B (some ⟨P,M,none⟩) m.length c (Value.int .i64 g.regs::Value.slice p1 g.params.length d1::Value.slice p2 g.code.length d2::(Qcq g.fin e).toList).toArray ((JSt.start m f g).upto (g.code.take z)) O/\∀ j y,j<z->g.code[j]?=some y->((JSt.start m f g).upto (g.code.take j)).code y=0) (fun i _=>g.code.length - (intOf i).toNat)
   case atStart=>exact⟨0,O,Xb _,Z,I7.out,fun j y hj=>absurd hj (XG _)⟩
   case round =>
    obtain⟨z,O3,hz,rfl,hi,s⟩:=hrel
    have IR:=Qg hi;have C:=Qg s;clear hi s I7;obtain⟨G,bu⟩:∃ G,G=wr:=⟨_,Z⟩
    subst bu;have JK:Hid (JOk ((JSt.start m f g).upto (g.code.take z))):=be.out.upto C.out hz;have y2:G.cell? ⟨Bx,2,none⟩=some (.slice p2 g.code.length d2):=Qa IR.out.box 2 _ Z;by_cases b0:z<g.code.length
    rotate_left
    ·have bh:¬ (z:Int)<g.code.length:=by omega
     have bw:g.code.take z=g.code:=XO (by omega);rw[bw] at JK IR
     have RE:Hid (G.rangeAt Bx 3 (Qcq g.fin e).toList):=fun j v hj=>by
      have:=Qa IR.out.box (3+j) v (by rw[List.getElem?_toArray,Nat.add_comm];exact hj)
      exact this
     have bd:Hid (300>=g.fin.yes.regs.length/\300>=g.fin.yes.args.length/\300>=g.fin.no.regs.length/\300>=g.fin.no.args.length):=by
      have h:=av.out;unfold MBlock.great at h;simp only[not_or,Nat.not_lt] at h
      exact⟨h.2.2.2.1,h.2.2.2.2.1,h.2.2.2.2.2.1,h.2.2.2.2.2.2.1⟩
     have CE:Hid (Calls prog 65 #[Pv B 0,.agg (Qcq g.fin e).toList.toArray] G fun r w'=>r=.returned (Iv (((JSt.start m f g).upto g.code).fin g.fin))/\Below G.heap.size G w') :=
      Qkx JK.out IR.out.known (bc.out.below IR.out.top.bel) ⟨bt,bv⟩ (by have:=bd.out;omega)
     have W:Hid (Q0 (10000*(k:Int)+100*(q:Int)) g.fin (JSt.start m f g) 0 g.code=if ((JSt.start m f g).upto g.code).fin g.fin≠0 then (((JSt.start m f g).upto g.code).fin g.fin,10000*(k:Int)+100*(q:Int)+91) else (0,0)):=Qfr fun j y hj Q=>C.out j y (by omega) Q;clear bd JK;generalize ((JSt.start m f g).upto g.code).fin g.fin=F at CE W;go_wp2_with (refine wpList_load_mid Z 84 (.tmp 71) Z Bx 3 Z (Qcq g.fin e).toList _ RE.out underlying84 Z sizeEnd ?_)
     refine CE.out.mono ?_;rintro e9 w9 ⟨rfl,b9⟩;have S9:Hid (RfS w w9 X R (some ⟨P,M,none⟩) m.length c):=IR.out.top.below b9;clear b9 IR CE RE y2;by_cases ak:F=0
     ·subst ak;have E:Hid ((Q0 (10000*(k:Int)+100*(q:Int)) g.fin (JSt.start m f g) 0 g.code).1=0):=by show _=_;rw[W.out];rfl
      clear W;go_wp2_with fail
      go_roundw
      case rel =>
       refine⟨q+1,by omega,by go_num,S9.out,fun j y hj Q=>?_⟩
       by_cases aa:j<q
       ·exact A.out j y aa Q
       ·have:j=q:=by omega
        subst this;rw[aq.out] at Q
        cases Q
        exact E.out
      case measure=>simp[intOf];omega
     ·have bk:(F != 0)=true:=by simpa using ak
      have E:Hid (QX m=(F,10000*(k:Int)+100*(q:Int)+91)):=by
       show _=_;rw[Xs ak] at W
       rw[QdJ a4.out am.out L.out aq.out A.out (by rw[W.out];exact ak),W.out]
      clear W;go_wp2_with fail
      refine Xm (QfB (f:=k) (b:=q) ⟨by omega,by omega⟩) ?_;rintro bm ax ⟨rfl,ae⟩;have af:Hid (RfS w ax X R (some ⟨P,M,none⟩) m.length c):=S9.out.below ae;clear ae S9;go_wp2_with fail
      refine Xm (Qav (xc:=F) (xp:=10000*(k:Int)+100*(q:Int)+91)) ?_;rintro bs D ⟨rfl,ag⟩;have o:Hid (RfS w D X R (some ⟨P,M,none⟩) m.length c):=af.out.below ag;clear ag af;simp only[Qv]
      generalize 10000*(k:Int)+100*(q:Int)+91=pl at E |-;have r0:=Qa o.out.r 0 _ Z;have r1:=Qa o.out.r 1 _ Z;have z0:=Qd o.out.r 0;have z1:=Qd o.out.r 1;have J:Hid (Blk ((D.setCell ⟨R,0,none⟩ (Iv F)).setCell ⟨R,1,none⟩ (Iv pl)) R #[Iv F,Iv pl] 32):=Z7 o.out.r _ _;have BL:Hid (Below w.heap.size w ((D.setCell ⟨R,0,none⟩ (Iv F)).setCell ⟨R,1,none⟩ (Iv pl))):=(o.out.bel.setCell l _).setCell l _;go_wp2_with fail
      generalize (D.setCell ⟨R,0,none⟩ (Iv F)).setCell ⟨R,1,none⟩ (Iv pl)=ar at J BL |-;have e0:=Qa J.out 0 _ Z;have e1:=Qa J.out 1 _ Z;exact Xy (v:=.agg #[Iv F,Iv pl]) (by simp[results,results27,go_sem,e0,e1]) Z ⟨by rw[E.out],BL.out⟩
    have bh:(z:Int)<g.code.length:=by omega
    have an:g.code[z]?=some g.code[z]:=Zg b0;generalize g.code[z]=x at an;have a0:=Qg an;obtain⟨cg,co,ds,rfl,-,-,u,ap⟩:=Yf (Ya az.out IR.out.top.bel) an
    obtain⟨xa,xc,xb,xd,rfl,ac,ab,a6,-⟩:=Qik ap
    have u0:G.cell? ⟨cg,co+z*8,none⟩=some (Iv x.op):=u 0 (by decide);have u1:G.cell? ⟨cg,co+z*8+1,none⟩=some (Iv x.a):=u 1 (by decide);have u2:G.cell? ⟨cg,co+z*8+2,none⟩=some (Iv x.b):=u 2 (by decide);have u3:G.cell? ⟨cg,co+z*8+3,none⟩=some (Iv x.c):=u 3 (by decide);have u4:G.cell? ⟨cg,co+z*8+4,none⟩=some (Iv x.k):=u 4 (by decide);have u5:G.cell? ⟨cg,co+z*8+5,none⟩=some (Iv x.n):=u 5 (by decide);have u6:G.cell? ⟨cg,co+z*8+6,none⟩=some (.slice xa x.regs.length xc):=u 6 (by decide);have u7:G.cell? ⟨cg,co+z*8+7,none⟩=some (.slice xb x.args.length xd):=u 7 (by decide)
    have CI:Hid (Calls prog 64 #[Pv B 0,QfX x xa xb xc xd] G fun r w'=>r=.returned (Iv (((JSt.start m f g).upto (g.code.take z)).code x))/\KTo G w' B O3 (((JSt.start m f g).upto (g.code.take z)).ins x)) :=
     Qkh (fun k hk=>(IR.out.own k hk).2) JK.out IR.out.known ac ab a6
    clear u ap ac ab a6 an JK;go_wp2_with fail
    refine CI.out.mono ?_;rintro e9 w9 ⟨rfl,bi⟩;obtain⟨O9,a8⟩:=IR.out.to bi
    have I9:=Qg a8;clear bi a8 CI IR u0 u1 u2 u3 u4 u5 u6 u7 y2;by_cases H:((JSt.start m f g).upto (g.code.take z)).code x=0
    ·have E:Hid (((JSt.start m f g).upto (g.code.take z)).ins x=(JSt.start m f g).upto (g.code.take (z+1))):=by
      show _=_;rw[XV,a0.out]
      show _=(JSt.start m f g).upto (g.code.take z++[x]);rw[JSt.upto_snoc]
      unfold JSt.ins;rw[Xs H]
     have bo:=Qg H;rw[H]
     clear H;go_wp2_with fail
     go_roundw
     case rel =>
      refine⟨z+1,O9,by omega,by go_num,by rw[<-E.out];exact I9.out,fun j y hj Q=>?_⟩
      by_cases aa:j<z
      ·exact C.out j y aa Q
      ·have:j=z:=by omega
       subst this;rw[a0.out] at Q
       cases Q
       exact bo.out
     case measure=>simp[intOf];omega
    ·have W:Hid (Q0 (10000*(k:Int)+100*(q:Int)) g.fin (JSt.start m f g) 0 g.code=(((JSt.start m f g).upto (g.code.take z)).code x,10000*(k:Int)+100*(q:Int)+(z:Int))):=Qfm a0.out C.out H;have S9:Hid (RfS w w9 X R (some ⟨P,M,none⟩) m.length c):=I9.out.top;clear I9;generalize ((JSt.start m f g).upto (g.code.take z)).code x=F at W H |-;have bk:(F != 0)=true:=by simpa using H
     have E:Hid (QX m=(F,10000*(k:Int)+100*(q:Int)+(z:Int))):=by
      show _=_;rw[QdJ a4.out am.out L.out aq.out A.out (by rw[W.out];exact H),W.out]
     clear W;go_wp2_with fail
     refine Xm (Qe8 (f:=k) (b:=q) (i:=z) ⟨by omega,by omega,by omega⟩) ?_;rintro bm ax ⟨rfl,ae⟩;have af:Hid (RfS w ax X R (some ⟨P,M,none⟩) m.length c):=S9.out.below ae;clear ae S9;go_wp2_with fail
     refine Xm (Qav (xc:=F) (xp:=10000*(k:Int)+100*(q:Int)+(z:Int))) ?_;rintro bs D ⟨rfl,ag⟩;have o:Hid (RfS w D X R (some ⟨P,M,none⟩) m.length c):=af.out.below ag;clear ag af;simp only[Qv]
     generalize 10000*(k:Int)+100*(q:Int)+(z:Int)=pl at E |-;have r0:=Qa o.out.r 0 _ Z;have r1:=Qa o.out.r 1 _ Z;have z0:=Qd o.out.r 0;have z1:=Qd o.out.r 1;have J:Hid (Blk ((D.setCell ⟨R,0,none⟩ (Iv F)).setCell ⟨R,1,none⟩ (Iv pl)) R #[Iv F,Iv pl] 32):=Z7 o.out.r _ _;have BL:Hid (Below w.heap.size w ((D.setCell ⟨R,0,none⟩ (Iv F)).setCell ⟨R,1,none⟩ (Iv pl))):=(o.out.bel.setCell l _).setCell l _;go_wp2_with fail
     generalize (D.setCell ⟨R,0,none⟩ (Iv F)).setCell ⟨R,1,none⟩ (Iv pl)=ar at J BL |-;have e0:=Qa J.out 0 _ Z;have e1:=Qa J.out 1 _ Z;exact Xy (v:=.agg #[Iv F,Iv pl]) (by simp[results,results27,go_sem,e0,e1]) Z ⟨by rw[E.out],BL.out⟩
section
variable {w:World}{O:Nat->Prop}{n:Nat}{cs:List Value}
theorem Qil {x:MBlock n}(a:x.flat k) (h:(Qa6 n).In w O x cs):(Qa6 (k+1)).In w O (x.at k) cs:=by
 obtain⟨d,_,rfl,b,⟨e,_,rfl,c,f⟩⟩:=h
 exact⟨d,_,Z,b,⟨e,_,Z,QeC a c,f⟩⟩
theorem Qky {x:MFunc n}(a:x.flat k) (h:(Qga n).In w O x cs):(Qga (k+1)).In w O (x.at k) cs:=by
 obtain⟨g,_,rfl,e,⟨c,_,rfl,f,⟨b,_,rfl,j,i⟩⟩⟩:=h
 exact⟨g,_,Z,e,⟨c,_,Z,QeC a.1 f,⟨b,_,Z,QeC a.2.1 j,Lay.list_map (A:=Qa6 n) (B:=Qa6 (k+1)) Z (fun y d l=>Qil (a.2.2 y d)) i⟩⟩⟩
theorem Qlr {m:List (MFunc n)}(b:∀ x∈m,x.flat k) (h:(QhG n).In w O m cs):(QhG (k+1)).In w O (m.map (MFunc.at k)) cs :=
 Lay.list_map (A:=Qga n) (B:=Qga (k+1)) Z (fun y a c=>Qky (b y a)) h
end
theorem QdS {n:Nat}{w:World}{m:List (MFunc n)}(C:(Qar n).In w All m [.slice p m.length c]) (t:Qcz m) (d:(modFault m).1≠0) :
 Calls prog 27 #[.agg #[.slice p m.length c]] w fun e w'=>e=.returned (Qv (modFault m))/\Below w.heap.size w w':=by
 have M:Hid ((Qar n).In w All m [.slice p m.length c]):=C;have u:=Qg t;have y:=ZR w (.cells #[.slice p m.length c] 24);have j:=ZR (w.alloc (.cells #[.slice p m.length c] 24)) (.cells #[Iv 0,Iv 0] 32)
 have s:Hid (RfS w ((w.alloc (.cells #[.slice p m.length c] 24)).alloc (.cells #[Iv 0,Iv 0] 32)) w.heap.size (w.heap.size+1) p m.length c) :=
  ⟨y.trans (j.mono y.size),(j.block _ (by simp)).trans (Qe _ _ _),by have:=Qe (w.alloc (.cells #[.slice p m.length c] 24)) #[Iv 0,Iv 0] 32;rw[World.size_alloc] at this;exact this⟩
 have f:w.heap.size<=w.heap.size+1:=by omega
 clear C y j;go_enter func27,ntmps27
 go_upto_region 1 with fail
 obtain⟨R,G⟩:∃ R,w.heap.size+1=R:=⟨_,Z⟩
 rw[G] at s f |-
 obtain⟨X,z⟩:∃ X,w.heap.size=X:=⟨_,Z⟩
 generalize (w.alloc (.cells #[.slice p m.length c] 24)).alloc (.cells #[Iv 0,Iv 0] 32)=K at s |-;have S:Hid (RfS w K X R p m.length c):=by rw[<-z];exact s.out
 rw[z]
 clear s G z;have O:=Qa S.out.x 0 _ Z;go_wp2_with fail
 refine Xm (Qb3 ((Qar n).keep (fun k _ I=>S.out.bel.block k I) (fun _ _ _=>trivial) M.out) u.out) ?_;rintro P i ⟨rfl,j⟩;have H:Hid (RfS w i X R p m.length c):=S.out.below j;clear S j O;obtain⟨a,b,h⟩:∃ a b,modFault m=(a,b):=⟨_,_,Z⟩
 have l:Hid (modFault m=(a,b)):=h;rw[h]
 clear h;have g:Hid (RfS w (i.alloc (.cells #[Iv a,Iv b] 32)) X R p m.length c):=H.out.below (ZR _ _);have q:Hid (Blk (i.alloc (.cells #[Iv a,Iv b] 32)) i.heap.size #[Iv a,Iv b] 32):=Qe _ _ _;simp only[Qv]
 clear H;go_upto_region 2 with fail
 generalize i.alloc (.cells #[Iv a,Iv b] 32)=B at g q |-;generalize i.heap.size=F9 at q |-;have Q:=Qa q.out 0 _ Z;have V:=Qa q.out 1 _ Z;have o:a≠0:=by rw[l.out] at d;exact d
 have D:(a != 0)=true:=by simpa using o
 have E:Hid (modFault m=(a,b)):=l.out;clear d o;have T:=Qa g.out.r 0 _ Z;have W:=Qa g.out.r 1 _ Z;have U:=Qd g.out.r 0;have z1:=Qd g.out.r 1;have A:Hid (Blk ((B.setCell ⟨R,0,none⟩ (Iv a)).setCell ⟨R,1,none⟩ (Iv b)) R #[Iv a,Iv b] 32):=Z7 g.out.r _ _;have F:Hid (Below w.heap.size w ((B.setCell ⟨R,0,none⟩ (Iv a)).setCell ⟨R,1,none⟩ (Iv b))):=(g.out.bel.setCell f _).setCell f _;go_wp2_with fail
 generalize (B.setCell ⟨R,0,none⟩ (Iv a)).setCell ⟨R,1,none⟩ (Iv b)=N at A F |-;have J:=Qa A.out 0 _ Z;have L:=Qa A.out 1 _ Z;exact Xy (v:=.agg #[Iv a,Iv b]) (by simp[results,results27,go_sem,J,L]) Z ⟨by rw[E.out],F.out⟩
theorem size_any:∀ (n:Nat) (t:TT n) (a:Option Addr) (c:Nat) (w:World) (left:Int),TIn w All t a->0<=left->left<=2000 ->
 Calls prog 115 #[Tv t a c,Iv left] w fun e w'=>e=.returned (Iv (max (-1) (left - t.count)))/\Below w.heap.size w w':=by
 intro n
 induction n with
 | zero=>intro t;exact Empty.elim t
 | succ n ih =>
   intro t a c w left G h0 h1
   have R:Hid (∀ (t:TT n) (a:Option Addr) (c:Nat) (w:World) (left:Int),TIn w All t a->0<=left->left<=2000 ->
    Calls prog 115 #[Tv t a c,Iv left] w fun e w'=>e=.returned (Iv (max (-1) (left - t.count)))/\Below w.heap.size w w'):=ih
   clear ih;have I:Hid (LIn w All t.2.2 a):=G.list;have D:t.count=1+(t.2.2.map TT.count).sum:=rfl;rw[D]
   clear D;simp only[Tv,TT.len_eq]
   generalize t.2.2=l at I |-;generalize t.kind=k;generalize t.r=r;clear G t;go_enter func115,ntmps115
   go_wp2_with fail
   have A:Hid (Bx w (w.alloc (.cells #[Iv k,Iv r,.slice a l.length c] 105)) k r a l.length c):=Bx.start w k r a l.length c;generalize w.alloc (.cells #[Iv k,Iv r,.slice a l.length c] 105)=w1 at A |-;go_loopw [1,5] (fun lf i wr=>∃ q:Nat,q<=l.length/\i=Iv q/\lf=Iv (max (-1) (left - 1 - (((l.map TT.count).take q).sum:Nat)))/\Bx w wr k r a l.length c) (fun _ i _=>l.length - (intOf i).toNat)
   case atStart=>exact⟨0,Xb _,Z,by simp;omega,A.out⟩
   case round =>
    clear A;obtain⟨q,hq,rfl,rfl,p⟩:=hrel
    generalize f:(((l.map TT.count).take q).sum:Nat)=s;have W:wr.cell? ⟨w.heap.size,2,none⟩=some (.slice a l.length c):=Qa p.box 2 _ Z;have j:Hid (Bx w wr k r a l.length c):=p;by_cases v:q<l.length
    ·by_cases b:0<=max (-1) (left - 1 - (s:Int))
     ·have u:l[q]?=some l[q]:=Zg v;generalize l[q]=x at u;obtain⟨g,o,J,T,rfl,_,X,d1,d2,E⟩:=LIn.at (I.out.below p.bel) u
      have H:Hid (TIn wr All x J):=E;have B:=QeT TT.count l q x u;rw[f] at B
      have U:Hid (((l.map TT.count).take (q+1)).sum=s+x.count):=B;have S:Hid (max (-1) (left - 1 - (s:Int))<=2000):=by show _<=_;omega
      clear p E u B;generalize C:max (-1) (left - 1 - (s:Int))=m at b S;have M:Hid (max (-1) (left - 1 - (s:Int))=m):=C;clear C;have N:(0:Int)<=q:=by omega
      have d:(q:Int)<l.length:=by omega
      have K:(q:Int)<2000:=by
       have L:=length_le_sum ((l.map TT.count).take q) (fun y Q=>by obtain⟨z,_,rfl⟩:=List.mem_map.1 (List.mem_of_mem_take Q);exact z.count_pos);have h4:=M.out;rw[List.length_take,XN] at L
       omega
      clear f;go_wp2_with fail
      refine(R.out x J T _ m H.out b S.out).mono ?_
      rintro e P ⟨rfl,V⟩;have O:Hid (Bx w P k r (some ⟨g,o,none⟩) l.length c):=j.out.below V;clear j;go_wp2
      go_roundw
      case rel=>exact⟨q+1,by omega,by go_num,by rw[U.out];have:=M.out;have:=x.count_pos;congr 1;omega,O.out⟩
      case measure=>simp[intOf];omega
     ·have F:Hid (max (-1) (left - 1 - (s:Int))=max (-1) (left - ((1+(l.map TT.count).sum:Nat):Int))):=by
       have:=Qgl (l.map TT.count) q
       show _=_;omega
      have h:max (-1) (left - 1 - (s:Int))<0:=by omega
      generalize max (-1) (left - 1 - (s:Int))=m at F h |-;clear b f;have d:(q:Int)<l.length:=by omega
      go_wp2
      go_ret;exact⟨by show Ending.returned (Iv m)=_;have:=F.out;congr 2,j.out.bel⟩
    ·have F:Hid (max (-1) (left - 1 - (s:Int))=max (-1) (left - ((1+(l.map TT.count).sum:Nat):Int))):=by
      rw[XO (by simp;omega)] at f
      show _=_;omega
     generalize max (-1) (left - 1 - (s:Int))=m at F |-;clear f;have d:¬ (q:Int)<l.length:=by omega
     go_wp2
     go_ret;exact⟨by show Ending.returned (Iv m)=_;have:=F.out;congr 2,j.out.bel⟩
theorem Qir (n:Nat) (t:TT n) (a:Option Addr) (c:Nat) (w:World) (d:TIn w All t a) :
 Calls prog 71 #[Tv t a c] w fun e w'=>e=.returned (.bool (decide (2000<t.count)))/\Below w.heap.size w w':=by
 have C:Hid (∀ b,Below w.heap.size w b->Calls prog 115 #[Tv t a c,Iv 2000] b fun e w'=>e=.returned (Iv (max (-1) (2000 - (t.count:Int))))/\Below b.heap.size b w') :=
  fun b g=>size_any n t a c b 2000 (d.below g) (by omega) (by omega)
 clear d;simp only[Tv] at C |-
 generalize t.kind=k at C |-;generalize t.r=r at C |-;generalize t.len=i at C |-;generalize t.count=q at C |-;go_enter func71,ntmps71
 go_wp2_with fail
 refine(C.out _ ((Below.refl _ w).alloc Ze _)).mono ?_
 rintro e h ⟨rfl,f⟩;have B:Hid (Below w.heap.size w h):=((Below.refl _ w).alloc Ze _).trans (f.mono (by simp));have F:Hid (max (-1) (2000 - (q:Int))<0↔2000<q):=by show _↔_;omega
 generalize max (-1) (2000 - (q:Int))=m at F |-;clear f C;go_wp2
 go_ret;exact⟨by show Ending.returned (.bool (decide (m<0)))=_;rw[decide_eq_decide.2 F.out],B.out⟩
structure GbS (w wx:World) (l:List (Nat × Array Value × TypeId)):Prop where
 bel:Below w.heap.size w wx
 box:∀ (i:Nat) b,l[i]?=some b->Blk wx b.1 b.2.1 b.2.2
theorem GbS.below {a:World}{l:List (Nat × Array Value × TypeId)}(h:GbS w a l) (k:Below a.heap.size a w'):GbS w w' l:=⟨h.bel.trans (k.mono h.bel.size),fun i b c=>(h.box i b c).below k⟩
theorem GbS.add {a:World}{l:List (Nat × Array Value × TypeId)}(h:GbS w a l){c:Array Value}(hb:Blk a B c t):GbS w a ((B,c,t)::l) :=
 ⟨h.bel,fun i b d=>by
  cases i with
  | zero=>cases d;exact hb
  | succ i=>exact h.box i b d⟩
theorem GbS.drop {a:World}{l:List (Nat × Array Value × TypeId)}{e:Nat × Array Value × TypeId}(h:GbS w a (e::l)):GbS w a l:=⟨h.bel,fun i b c=>h.box (i+1) b c⟩
theorem GbS.new {a:World}{l:List (Nat × Array Value × TypeId)}(h:GbS w a l) (c:Array Value) (t:TypeId):GbS w (a.alloc (.cells c t)) ((a.heap.size,c,t)::l):=(h.below (ZR _ _)).add (Blk.new _ _ _)
theorem QaB (n:Nat) (l:List (TT n)) (p:Option Addr) (c:Nat) (w:World) (r:LIn w All l p) :
 Rd prog 40 #[.slice p l.length c] w (.bool (bdec (ZO l))):=by
 have M:=Qi r;clear r;unfold Rd;go_enter func40,ntmps40
 by_cases D:200<l.length
 ·have d:(200:Int)<l.length:=by omega
  have E:=QG (A:=ZO l) (.inl D);go_wp2_with fail
  go_ret;exact⟨by first | rfl | (rw[E];done) | (rw[E];rfl),Zr⟩
 have d:¬ (200:Int)<l.length:=by omega
 go_wp2_with fail
 go_loopw [3] (fun i wr=>∃ k:Nat,k<=l.length/\i=Iv k/\Below w.heap.size w wr/\∀ (j:Nat) t,j<k->l[j]?=some t->¬ 2000<t.count) (fun i _=>l.length - (intOf i).toNat)
 case atStart=>exact⟨0,Xb _,Z,Zr,fun j z o=>absurd o (XG _)⟩
 case round =>
  obtain⟨k,N,rfl,F,a⟩:=hrel
  have e:=Qi F;have f:=Qi a;clear F a;by_cases x:k<l.length
  rotate_left
  ·have g:¬ (k:Int)<l.length:=by omega
   have E:bdec (ZO l)=false:=Qy (by
    rintro (h | ⟨t,b,h⟩)
    ·exact D h
    ·obtain⟨j,o⟩:=List.mem_iff_getElem?.1 b
     exact f.out j t (by have:=(Zi o).1;omega) o h)
   go_wp2_with fail
   go_ret;exact⟨by first | rfl | (rw[E];done) | (rw[E];rfl),e.out⟩
  have g:(k:Int)<l.length:=by omega
  have b:l[k]?=some l[k]:=Zg x;generalize l[k]=t at b;have C:=Qi b;obtain⟨Q,O,J,L,rfl,-,H,I,K,m⟩:=(show LIn wr All l p from M.out.below e.out).at b
  have B:=Qi (Qir n t J L wr m);clear b m;go_wp2_with fail
  refine B.out.mono ?_;rintro _ P ⟨rfl,G⟩;have q:=Qi (e.out.trans (G.mono e.out.size));clear G B H I K e;by_cases s:2000<t.count
  ·rw[Xt s]
   have E:=QG (A:=ZO l) (.inr ⟨t,Zm C.out,s⟩);go_wp2_with fail
   go_ret;exact⟨by first | rfl | (rw[E];done) | (rw[E];rfl),q.out⟩
  ·rw[Xu s]
   go_wp2_with fail
   go_roundw
   case rel =>
    refine⟨k+1,by omega,by go_num,q.out,fun j u o v=>?_⟩
    by_cases y:j<k
    ·exact f.out j u y v
    ·have:j=k:=by omega
     subst this;rw[C.out] at v
     cases v
     exact s
   case measure=>simp[intOf];omega
def MFunc.much {n:Nat}(x:MFunc n):Prop:=30<x.blocks.length\/ZO x.params\/ZO x.results
def MBlock.much {n:Nat}(x:MBlock n):Prop:=200<x.code.length\/ZO x.params\/300<x.fin.args.length\/300<x.fin.yes.regs.length\/300<x.fin.yes.args.length\/300<x.fin.no.regs.length\/300<x.fin.no.args.length
theorem Qbu (n:Nat) (m:List (MFunc n)) (p:Option Addr) (c:Nat) (w:World) (am:(Qar n).In w All m [.slice p m.length c]) :
 Rd prog 10 #[.agg #[.slice p m.length c]] w (.bool (bdec (QS m))):=by
 have HM:=Qi am;have S:Hid (GbS w (w.alloc (.cells #[.slice p m.length c] 24)) [(w.heap.size,#[.slice p m.length c],24)]):=GbS.new ⟨Zr,fun i b hb=>by simp at hb⟩ _ _;clear am;unfold Rd;go_enter func10,ntmps10
 go_upto_region 1 with fail
 generalize w.alloc (.cells #[.slice p m.length c] 24)=w1 at S |-;generalize w.heap.size=X at S |-;have x0:=Qa (S.out.box 0 _ Yz) 0 _ Yz;by_cases c1:20<m.length
 ·have d:(20:Int)<m.length:=by omega
  have E:=QG (A:=QS m) (.inl c1);have N:=Qi S.out.bel;clear S;go_wp2_with fail
  go_ret;exact⟨by first | rfl | (rw[E];done) | (rw[E];rfl),N.out⟩
 have d:¬ (20:Int)<m.length:=by omega
 go_wp2_with fail
 clear x0;go_loopw [3] (fun i wr=>∃ k:Nat,k<=m.length/\i=Iv k/\GbS w wr [(X,#[.slice p m.length c],24)]/\∀ (j:Nat) f,j<k->m[j]?=some f->¬ f.great) (fun i _=>m.length - (intOf i).toNat)
 case atStart=>exact⟨0,Xb _,Yz,S.out,fun j z B=>absurd B (XG _)⟩
 case round =>
  obtain⟨k,hk,rfl,P,o⟩:=hrel
  have SR:=Qi P;have ae:=Qi o;clear P o S;obtain⟨wf,ap⟩:∃ wf,wf=wr:=⟨_,Yz⟩
  subst ap;have x0:=Qa (SR.out.box 0 _ Yz) 0 _ Yz;by_cases a1:k<m.length
  rotate_left
  ·have al:¬ (k:Int)<m.length:=by omega
   have E:bdec (QS m)=false:=Qy (by
    rintro (h | ⟨t,ht,h⟩)
    ·exact c1 h
    ·obtain⟨j,B⟩:=List.mem_iff_getElem?.1 ht
     exact ae.out j t (by have:=(Zi B).1;omega) B h)
   have N:=Qi SR.out.bel;clear SR;go_wp2_with fail
   go_ret;exact⟨by first | rfl | (rw[E];done) | (rw[E];rfl),N.out⟩
  have al:(k:Int)<m.length:=by omega
  have M:m[k]?=some m[k]:=Zg a1;generalize m[k]=x at M;have ak:=Qi M;have ag:Hid (x.great->bdec (QS m)=true):=fun h=>QG (.inr ⟨x,Zm ak.out,h⟩);obtain⟨g1,o1,l,rfl,E1,aa⟩:=QbU HM.out M
  have W:=Qi aa;have R1:Hid (wf.rangeAt g1 (o1+k*4) [Iv x.regs,.slice l.pP x.params.length l.cP,.slice l.pR x.results.length l.cR,.slice l.pB x.blocks.length l.cB]):=fun j v B=>Qn (E1 j v B) SR.out.bel;have v0:wf.cell? ⟨g1,o1+k*4,none⟩=some (Iv x.regs):=R1.out 0 _ Yz;have v1:=R1.out 1 _ Yz;have v2:=R1.out 2 _ Yz;have v3:=R1.out 3 _ Yz;have F:=Qi (SR.out.new #[Iv x.regs,.slice l.pP x.params.length l.cP,.slice l.pR x.results.length l.cR,.slice l.pB x.blocks.length l.cB] 89);clear M E1 aa R1 SR;go_upto_region 7 with fail
  generalize wf.alloc (.cells #[Iv x.regs,.slice l.pP x.params.length l.cP,.slice l.pR x.results.length l.cR,.slice l.pB x.blocks.length l.cB] 89)=w6 at F |-;generalize wf.heap.size=Y at F |-;clear v0 v1 v2 v3 x0;generalize hL:([(Y,#[Iv x.regs,.slice l.pP x.params.length l.cP,.slice l.pR x.results.length l.cR,.slice l.pB x.blocks.length l.cB],89),(X,#[.slice (some ⟨g1,o1,none⟩) m.length c],24)]:List (Nat × Array Value × TypeId))=L at F;have BX:Hid (∀ wx,GbS w wx L->Blk wx Y #[Iv x.regs,.slice l.pP x.params.length l.cP,.slice l.pR x.results.length l.cR,.slice l.pB x.blocks.length l.cB] 89/\GbS w wx [(X,#[.slice (some ⟨g1,o1,none⟩) m.length c],24)]):=by subst hL;exact fun wx h=>⟨h.box 0 _ Yz,h.drop⟩
  clear hL;have q1:=Qa (BX.out _ F.out).1 1 _ Yz;have q2:=Qa (BX.out _ F.out).1 2 _ Yz;have q3:=Qa (BX.out _ F.out).1 3 _ Yz;go_cut [37] (fun v wx=>v=.bool (bdec x.much)/\GbS w wx L)
  case first =>
   by_cases h:30<x.blocks.length
   ·have d1:decide ((x.blocks.length:Int)>30)=true:=Xt (by omega);have E:=QG (A:=x.much) (.inl h);go_wp2
    go_meet;exact⟨by first | rfl | (rw[E];done) | (rw[E];rfl),F.out⟩
   have d1:decide ((x.blocks.length:Int)>30)=false:=Xu (by omega);have C:=Qi (QaB n x.params l.pP l.cP w6 (Q8 (Ya W.out.params F.out.bel)).1);unfold Rd at C;by_cases I:ZO x.params
   ·have E:=QG (A:=x.much) (.inr (.inl I));rw[QG I] at C
    go_wp2_with fail
    refine C.out.mono ?_;rintro _ wa ⟨rfl,G⟩;have s:=Qi (F.out.below G);clear G C;go_wp2
    go_meet;exact⟨by first | rfl | (rw[E];done) | (rw[E];rfl),s.out⟩
   rw[Qy I] at C
   go_wp2_with fail
   refine C.out.mono ?_;rintro _ wa ⟨rfl,G⟩;have s:=Qi (F.out.below G);clear G C q1 q2 q3;have q2:=Qa (BX.out _ s.out).1 2 _ Yz;have CR:=Qi (QaB n x.results l.pR l.cR wa (Q8 (Ya W.out.results s.out.bel)).1);unfold Rd at CR
   have E:bdec x.much=bdec (ZO x.results):=by
    by_cases hr:ZO x.results
    ·rw[QG hr];exact QG (.inr (.inr hr))
    ·rw[Qy hr];exact Qy (fun e=>by rcases e with e | e | e;exact h e;exact I e;exact hr e)
   go_wp2_with fail
   refine CR.out.mono ?_;rintro _ K ⟨rfl,bb⟩;have SB:=Qi (s.out.below bb);clear bb CR q2;go_wp2
   all_goals
    go_meet;exact⟨by first | rfl | (rw[E];done) | (rw[E];rfl),SB.out⟩
  case rest =>
   obtain⟨rfl,R⟩:=hcut
   have S7:=Qi R;clear R F q1 q2 q3;by_cases Q:x.much
   ·rw[QG Q]
    have E:=ag.out (by rcases Q with h | h | h;exact .inl h;exact .inr (.inl h);exact .inr (.inr (.inl h)));have N:=Qi S7.out.bel;clear S7 Q;go_wp2_with fail
    go_ret;exact⟨by first | rfl | (rw[E];done) | (rw[E];rfl),N.out⟩
   rw[Qy Q]
   have a4:x.blocks.length<=30:=Xo fun h=>Q (.inl h);go_wp2_with fail
   go_loopw [5] (fun i wr=>∃ q:Nat,q<=x.blocks.length/\i=Iv q/\GbS w wr L/\∀ (j:Nat) y,j<q->x.blocks[j]?=some y->¬ y.great) (fun i _=>x.blocks.length - (intOf i).toNat)
   case atStart=>exact⟨0,Xb _,Yz,S7.out,fun j z B=>absurd B (XG _)⟩
   case round =>
    obtain⟨q,hq,rfl,P,o⟩:=hrel
    have SQ:=Qi P;have ad:=Qi o;clear P o S7;obtain⟨K,az⟩:∃ K,K=wr:=⟨_,Yz⟩
    subst az;have q3:=Qa (BX.out _ SQ.out).1 3 _ Yz;by_cases au:q<x.blocks.length
    rotate_left
    ·have ah:¬ (q:Int)<x.blocks.length:=by omega
     go_wp2_with fail
     go_roundw
     case rel =>
      refine⟨k+1,by omega,by go_num,(BX.out _ SQ.out).2,fun j f B hf=>?_⟩
      by_cases aq:j<k
      ·exact ae.out j f aq hf
      ·have:j=k:=by omega
       subst this;rw[ak.out] at hf
       cases hf
       rintro (h | h | h | ⟨y,hy,h⟩)
       ·exact Q (.inl h)
       ·exact Q (.inr (.inl h))
       ·exact Q (.inr (.inr h))
       ·obtain⟨i,hi⟩:=List.mem_iff_getElem?.1 hy
        exact ad.out i y (by have:=(Zi hi).1;omega) hi h
     case measure=>simp[intOf];omega
    have ah:(q:Int)<x.blocks.length:=by omega
    have J:x.blocks[q]?=some x.blocks[q]:=Zg au;generalize x.blocks[q]=y at J;have ai:=Qi J;have aj:Hid (y.great->bdec (QS m)=true):=fun h=>ag.out (.inr (.inr (.inr ⟨y,Zm ai.out,h⟩)));obtain⟨g2,o2,g,e2,E2,af⟩:=Qcb W.out.blocks J
    have an:=Qi af;rw[e2] at q3
    generalize U:([Iv y.regs,.slice g.pP y.params.length g.cP,.slice g.pC y.code.length g.cC,Iv y.fin.op,Iv y.fin.a,Iv y.fin.yes.block,.slice g.e.pYR y.fin.yes.regs.length g.e.cYR,.slice g.e.pYA y.fin.yes.args.length g.e.cYA,Iv y.fin.no.block,.slice g.e.pNR y.fin.no.regs.length g.e.cNR,.slice g.e.pNA y.fin.no.args.length g.e.cNA,.slice g.e.pA y.fin.args.length g.e.cA]:List Value)=cs at E2;have hl:cs.length=12:=by rw[<-U];rfl
    have MB:=Qi (Qmy.of K hl);have TO:Hid (cs.toArray.all (·.oneCell')=true):=by show _=_;rw[<-U];exact all_oneCell_toArray (Xe.1 Yz)
    have RG:Hid (K.rangeAt g2 (o2+q*12) cs):=fun j v B=>Qn (E2 j v B) SQ.out.bel;clear J E2 af hl e2;go_upto_region 13 with (first | (refine wpList_load_mid Yz 86 (.tmp 48) Yz g2 (o2+q*12) Yz cs _ RG.out underlying86 Yz MB.out.size ?_) | (refine wpList_store_mid Yz 86 (.tmp 6) (.tmp 49) Yz K.heap.size 0 cs.toArray Yz Yz MB.out.there MB.out.size2 TO.out ?_))
    have H:=Qi ((SQ.out.below MB.out.bel).add MB.out.blk);clear SQ q3 RG TO MB;generalize (K.alloc (.cells #[Iv 0,Nv,Nv,Iv 0,Iv 0,Iv 0,Nv,Nv,Iv 0,Nv,Nv,Nv] 86)).setCells K.heap.size 0 cs=w3 at H |-;generalize K.heap.size=Z at H |-;subst U;simp only[Act.put]
    generalize ab:((Z,#[Iv y.regs,.slice g.pP y.params.length g.cP,.slice g.pC y.code.length g.cC,Iv y.fin.op,Iv y.fin.a,Iv y.fin.yes.block,.slice g.e.pYR y.fin.yes.regs.length g.e.cYR,.slice g.e.pYA y.fin.yes.args.length g.e.cYA,Iv y.fin.no.block,.slice g.e.pNR y.fin.no.regs.length g.e.cNR,.slice g.e.pNA y.fin.no.args.length g.e.cNA,.slice g.e.pA y.fin.args.length g.e.cA],86)::L:List (Nat × Array Value × TypeId))=L2 at H;have O:Hid (∀ wx,GbS w wx L2->Blk wx Z #[Iv y.regs,.slice g.pP y.params.length g.cP,.slice g.pC y.code.length g.cC,Iv y.fin.op,Iv y.fin.a,Iv y.fin.yes.block,.slice g.e.pYR y.fin.yes.regs.length g.e.cYR,.slice g.e.pYA y.fin.yes.args.length g.e.cYA,Iv y.fin.no.block,.slice g.e.pNR y.fin.no.regs.length g.e.cNR,.slice g.e.pNA y.fin.no.args.length g.e.cNA,.slice g.e.pA y.fin.args.length g.e.cA] 86/\GbS w wx L):=by subst ab;exact fun wx h=>⟨h.box 0 _ Yz,h.drop⟩
    clear ab;have z1:=Qa (O.out _ H.out).1 1 _ Yz;have z2:=Qa (O.out _ H.out).1 2 _ Yz;go_cut [97] (fun v wx=>v=.bool (bdec y.much)/\GbS w wx L2)
    case first =>
     by_cases h:200<y.code.length
     ·have d1:decide ((y.code.length:Int)>200)=true:=Xt (by omega);have E:=QG (A:=y.much) (.inl h);go_wp2
      go_meet;exact⟨by first | rfl | (rw[E];done) | (rw[E];rfl),H.out⟩
     have d1:decide ((y.code.length:Int)>200)=false:=Xu (by omega);have C:=Qi (QaB n y.params g.pP g.cP w3 (Q8 (Ya an.out.params H.out.bel)).1);unfold Rd at C;by_cases I:ZO y.params
     ·have E:=QG (A:=y.much) (.inr (.inl I));rw[QG I] at C
      go_wp2_with fail
      refine C.out.mono ?_;rintro _ wa ⟨rfl,G⟩;have s:=Qi (H.out.below G);clear G C;go_wp2
      go_meet;exact⟨by first | rfl | (rw[E];done) | (rw[E];rfl),s.out⟩
     rw[Qy I] at C
     go_wp2_with fail
     refine C.out.mono ?_;rintro _ wa ⟨rfl,G⟩;have s:=Qi (H.out.below G);clear G C z1 z2;have z6:=Qa (O.out _ s.out).1 6 _ Yz;have z7:=Qa (O.out _ s.out).1 7 _ Yz;have z9:=Qa (O.out _ s.out).1 9 _ Yz;have ax:=Qa (O.out _ s.out).1 10 _ Yz;have a2:=Qa (O.out _ s.out).1 11 _ Yz
     have r:Hid (bdec y.much=(decide ((y.fin.args.length:Int)>300)||(decide ((y.fin.yes.regs.length:Int)>300)||(decide ((y.fin.yes.args.length:Int)>300)||(decide ((y.fin.no.regs.length:Int)>300)||decide ((y.fin.no.args.length:Int)>300)))))):=by
      show _=_
      have e9:y.much↔((y.fin.args.length:Int)>300\/(y.fin.yes.regs.length:Int)>300\/(y.fin.yes.args.length:Int)>300\/(y.fin.no.regs.length:Int)>300\/(y.fin.no.args.length:Int)>300):=by
       unfold MBlock.much;constructor
       ·rintro (e | e | e)
        ·exact absurd e h
        ·exact absurd e I
        ·omega
       ·intro e;right;right;omega
      by_cases hy:y.much
      ·rw[QG hy];have:=e9.1 hy;simp only[<-Bool.decide_or];exact(Xt this).symm
      ·rw[Qy hy];have:=fun e=>hy (e9.2 e);simp only[<-Bool.decide_or];exact(Xu this).symm
     generalize y.fin.args.length=n1 at r a2 |-;generalize y.fin.yes.regs.length=n2 at r z6 |-;generalize y.fin.yes.args.length=n3 at r z7 |-;generalize y.fin.no.regs.length=n4 at r z9 |-;generalize y.fin.no.args.length=n5 at r ax |-;by_cases k1:(n1:Int)>300
     ·have d9:decide ((n1:Int)>300)=true:=Xt k1;rw[d9] at r
      go_wp2
      go_meet;exact⟨by rw[r.out];first | done | rfl,s.out⟩
     have e1:decide ((n1:Int)>300)=false:=Xu k1;rw[e1] at r
     by_cases k2:(n2:Int)>300
     ·have d9:decide ((n2:Int)>300)=true:=Xt k2;rw[d9] at r
      go_wp2
      go_meet;exact⟨by rw[r.out];first | done | rfl,s.out⟩
     have e2:decide ((n2:Int)>300)=false:=Xu k2;rw[e2] at r
     by_cases k3:(n3:Int)>300
     ·have d9:decide ((n3:Int)>300)=true:=Xt k3;rw[d9] at r
      go_wp2
      go_meet;exact⟨by rw[r.out];first | done | rfl,s.out⟩
     have e3:decide ((n3:Int)>300)=false:=Xu k3;rw[e3] at r
     by_cases k4:(n4:Int)>300
     ·have d9:decide ((n4:Int)>300)=true:=Xt k4;rw[d9] at r
      go_wp2
      go_meet;exact⟨by rw[r.out];first | done | rfl,s.out⟩
     have e4:decide ((n4:Int)>300)=false:=Xu k4;rw[e4] at r
     go_wp2
     all_goals
      go_meet;exact⟨by rw[r.out];first | done | rfl,s.out⟩
    case rest =>
     obtain⟨rfl,R⟩:=hcut
     have S4:=Qi R;clear R H z1 z2;by_cases D:y.much
     ·rw[QG D]
      have E:=aj.out (by rcases D with h | h | h | h | h | h | h;exact .inl h;exact .inr (.inl h);exact .inr (.inr (.inl h));exact .inr (.inr (.inr (.inl h)));exact .inr (.inr (.inr (.inr (.inl h))));exact .inr (.inr (.inr (.inr (.inr (.inl h)))));exact .inr (.inr (.inr (.inr (.inr (.inr (.inl h)))))));have N:=Qi S4.out.bel;clear S4 D;go_wp2_with fail
      go_ret;exact⟨by first | rfl | (rw[E];done) | (rw[E];rfl),N.out⟩
     rw[Qy D]
     have a3:y.code.length<=200:=Xo fun h=>D (.inl h);go_wp2_with fail
     go_loopw [7] (fun i wr=>∃ t:Nat,t<=y.code.length/\i=Iv t/\GbS w wr L2/\∀ (j:Nat) z,j<t->y.code[j]?=some z->¬ (300<z.regs.length\/300<z.args.length)) (fun i _=>y.code.length - (intOf i).toNat)
     case atStart=>exact⟨0,Xb _,Yz,S4.out,fun j z B=>absurd B (XG _)⟩
     case round =>
      obtain⟨t,ht,rfl,P,o⟩:=hrel
      have V:=Qi P;have ac:=Qi o;clear P o S4;have z2:=Qa (O.out _ V.out).1 2 _ Yz;by_cases ay:t<y.code.length
      rotate_left
      ·have ao:¬ (t:Int)<y.code.length:=by omega
       go_wp2_with fail
       go_roundw
       case rel =>
        refine⟨q+1,by omega,by go_num,(O.out _ V.out).2,fun j u B T=>?_⟩
        by_cases ar:j<q
        ·exact ad.out j u ar T
        ·have:j=q:=by omega
         subst this;rw[ai.out] at T
         cases T
         rintro (h | h | h | h | h | h | h | ⟨z,hz,h⟩)
         ·exact D (.inl h)
         ·exact D (.inr (.inl h))
         ·exact D (.inr (.inr (.inl h)))
         ·exact D (.inr (.inr (.inr (.inl h))))
         ·exact D (.inr (.inr (.inr (.inr (.inl h)))))
         ·exact D (.inr (.inr (.inr (.inr (.inr (.inl h))))))
         ·exact D (.inr (.inr (.inr (.inr (.inr (.inr h))))))
         ·obtain⟨i,hi⟩:=List.mem_iff_getElem?.1 hz
          exact ac.out i z (by have:=(Zi hi).1;omega) hi h
       case measure=>simp[intOf];omega
      have ao:(t:Int)<y.code.length:=by omega
      have hz:y.code[t]?=some y.code[t]:=Zg ay;generalize y.code[t]=z at hz;have HZ:=Qi hz;obtain⟨g3,o3,i3,e3,E3,-⟩:=Qho an.out.code hz
      rw[e3] at z2
      have av:=Qn (show w.cell? ⟨g3,o3+t*8+6,none⟩=_ from E3 6 _ Yz) V.out.bel;have a0:=Qn (show w.cell? ⟨g3,o3+t*8+7,none⟩=_ from E3 7 _ Yz) V.out.bel;clear hz E3 e3;go_upto_region 18 with fail
      go_cut [122] (fun v wx=>v=.bool (decide (300<z.regs.length\/300<z.args.length))/\GbS w wx L2)
      case first =>
       by_cases h:(z.regs.length:Int)>300
       ·have d1:decide ((z.regs.length:Int)>300)=true:=Xt h;have E:decide (300<z.regs.length\/300<z.args.length)=true:=Xt (by omega);go_wp2
        go_meet;exact⟨by first | rfl | (rw[E];done) | (rw[E];rfl),V.out⟩
       ·have d1:decide ((z.regs.length:Int)>300)=false:=Xu h;have E:decide (300<z.regs.length\/300<z.args.length)=decide ((z.args.length:Int)>300):=by rw[decide_eq_decide];omega
        go_wp2
        all_goals
         go_meet;exact⟨by first | rfl | (rw[E];done) | (rw[E];rfl),V.out⟩
      case rest =>
       obtain⟨rfl,R⟩:=hcut
       have SU:=Qi R;clear R V z2 av a0;by_cases c4:300<z.regs.length\/300<z.args.length
       ·rw[Xt c4]
        have E:=aj.out (.inr (.inr (.inr (.inr (.inr (.inr (.inr ⟨z,Zm HZ.out,c4⟩)))))));have N:=Qi SU.out.bel;clear SU c4;go_wp2_with fail
        go_ret;exact⟨by first | rfl | (rw[E];done) | (rw[E];rfl),N.out⟩
       ·rw[Xu c4]
        go_wp2_with fail
        go_roundw
        case rel =>
         refine⟨t+1,by omega,by go_num,SU.out,fun j u B T=>?_⟩
         by_cases aw:j<t
         ·exact ac.out j u aw T
         ·have:j=t:=by omega
          subst this;rw[HZ.out] at T
          cases T
          exact c4
        case measure=>simp[intOf];omega
theorem Qj3 {l:Nat}{m:List (MFunc l)}{k:Int}(n:(Qar l).In w All m [.slice pm m.length cm]) (h:QS m\/3000<k) :
 Calls prog 11 #[.agg #[.slice pm m.length cm],Iv k] w fun e w'=>e=.returned (.bool true)/\Below w.heap.size w w':=by
 have c:=Qb ((Bxs.start w).new #[.slice pm m.length cm] 24);have b:Hid (∀ d,Below w.heap.size w d->Calls prog 10 #[.agg #[.slice pm m.length cm]] d fun e w'=>e=.returned (.bool (bdec (QS m)))/\Below d.heap.size d w'):=fun d o=>Qbu l m pm cm d (Ya n o);clear n;have H:=Qb h;clear h;go_enter func11,ntmps11
 go_upto_region 1 with fail
 generalize w.alloc (.cells #[.slice pm m.length cm] 24)=i at c |-;generalize w.heap.size=X at c |-;have s:i.cell? ⟨X,0,none⟩=some (.slice pm m.length cm):=c.out.cell (a:=[]) 0 _ Z;by_cases f:QS m
 ·have b:=Qb (b.out i c.out.bel);rw[show bdec (QS m)=true from QG f] at b
  clear f;go_wp2_with fail
  refine b.out.mono ?_;rintro q p ⟨rfl,g⟩;have j:=Qb (c.out.below g);clear g;go_wp2
  go_ret;exact⟨Z,j.out.bel⟩
 ·have b:=Qb (b.out i c.out.bel);rw[show bdec (QS m)=false from Qy f] at b
  have r:decide (k>3000)=true:=Xt (by have:=H.out;rcases this with e | e;exact absurd e f;exact e);clear f;go_wp2_with fail
  refine b.out.mono ?_;rintro q p ⟨rfl,g⟩;have j:=Qb (c.out.below g);clear g;go_wp2
  go_ret;exact⟨Z,j.out.bel⟩
theorem Qlm {f:Nat}{m:List (MFunc f)}{d:Int}(i:(Qar f).In w All m [.slice pm m.length cm]) (h:¬ (QS m\/3000<d)) :
 Calls prog 11 #[.agg #[.slice pm m.length cm],Iv d] w fun e w'=>e=.returned (.bool false)/\Below w.heap.size w w':=by
 have c:=Qb ((Bxs.start w).new #[.slice pm m.length cm] 24);have b:=Qbu f m pm cm _ (Ya i (Zb w (.cells #[.slice pm m.length cm] 24)));rw[show bdec (QS m)=false from Qy (fun e=>h (.inl e))] at b
 have b:Hid (Calls prog 10 #[.agg #[.slice pm m.length cm]] (w.alloc (.cells #[.slice pm m.length cm] 24)) fun e w'=>e=.returned (.bool false)/\Below (w.alloc (.cells #[.slice pm m.length cm] 24)).heap.size (w.alloc (.cells #[.slice pm m.length cm] 24)) w'):=b;have l:decide (d>3000)=false:=Xu (fun e=>h (.inr e));clear i h;go_enter func11,ntmps11
 go_upto_region 1 with fail
 generalize w.alloc (.cells #[.slice pm m.length cm] 24)=j at c b |-;generalize w.heap.size=X at c |-;have o:j.cell? ⟨X,0,none⟩=some (.slice pm m.length cm):=c.out.cell (a:=[]) 0 _ Z;go_wp2_with fail
 refine b.out.mono ?_;rintro p n ⟨rfl,g⟩;have k:=Qb (c.out.below g);clear g;go_wp2
 go_ret;exact⟨Z,k.out.bel⟩
theorem Qn3 (c a:Int) (w:World):(Instr.field 32 (.agg #[Iv c,Iv a]) 0).run prog w=.ok (Iv c) w:=by
 have b:=underlying32
 first
  | rfl
  | simp[Instr.run,go_sem,b]
theorem Qj7 {m:List (MFunc 6)}{e:Ending}(R:(QX m).1=0) (h:Qd1 w m inp most pages e w'):Below w.heap.size w w'/\∃ f a n c b k d fu,e=.returned (.tuple #[.agg #[Iv f,.slice a n c,.slice b k d,Iv fu],Qa8 0 0]):=by
 refine⟨h.1,?_⟩
 rcases h.2 with ⟨p,⟨k,N,-,o,i,j,-⟩,-⟩|⟨k,l,-,g,r,v,⟨s,q,rfl,⟨a,c,rfl,-⟩,⟨b,d,rfl,-⟩⟩,rfl⟩
 ·exfalso
  obtain⟨l,g,-⟩:=Qi2 (op:=aOp) R most inp pages (k+1)
  rw[QcP o i,j] at g
  cases g
 ·exact⟨_,_,_,_,_,_,_,_,Z⟩
theorem QfO {u:Nat}{m:List (MFunc u)}{g h:Int}{c0 a0:Int}(J:(QhG u).In w All m [.slice pm m.length cm]) (N:intsL.In w All inp [.slice pi inp.length ci]) (hn:inp.length<1152921504606846976)
 (O:¬ QS m->∀ wx,(QhG u).In wx All m [.slice pm m.length cm]->Calls prog 27 #[.agg #[.slice pm m.length cm]] wx fun e w'=>e=.returned (Qa8 c0 a0)/\Below wx.heap.size wx w')
 (Q:¬ QS m->c0=0->inp.length<=200->∀ fN pN:Nat,fN<=20000->pN<=64->∀ wx,(QhG u).In wx All m [.slice pm m.length cm]->intsL.In wx All inp [.slice pi inp.length ci]->Calls prog 24 #[.agg #[.slice pm m.length cm],.slice pi inp.length ci,Iv (fN:Int),Iv (pN:Int)] wx fun e w'=>Below wx.heap.size wx w'/\∃ f a n c b k d g,e=.returned (.tuple #[.agg #[Iv f,.slice a n c,.slice b k d,Iv g],Qa8 0 0])) :
 Calls prog 4 #[.agg #[.slice pm m.length cm],.slice pi inp.length ci,Iv g,Iv h] w fun e w'=>e=.returned (.bool true)/\Below w.heap.size w w':=by
 have B:=Qb ((Bxs.start w).new #[.slice pm m.length cm] 24);have P:=Qb J;have S:=Qb ((Qdb u).2 J);have W:=Qb N;have F:=Qb O;have G:=Qb Q;have z:Hid (∀ wx,Calls prog 15 #[.slice pi inp.length ci,Iv g,Iv h] wx fun e w'=>e=.returned (Qa5 inp.length g h)/\Below wx.heap.size wx w'):=fun wx=>QdV wx pi inp.length ci g h hn;clear J N hn O Q;go_enter func4,ntmps4
 go_upto_region 1 with fail
 generalize w.alloc (.cells #[.slice pm m.length cm] 24)=U at B |-;generalize w.heap.size=X at B |-;go_wp2_with fail
 refine(QdX U).mono ?_
 rintro e2 w2 ⟨rfl,R⟩;have l:=Qb (B.out.below R);clear R B;have j:w2.cell? ⟨X,0,none⟩=some (.slice pm m.length cm):=l.out.cell (a:=[]) 0 _ Z;by_cases q:QS m\/3000<g
 ·have C:=Qb (Qj3 (Ya S.out l.out.bel) q);clear q;go_wp2_with fail
  refine C.out.mono ?_;rintro e3 D ⟨rfl,t⟩;have p:=Qb (l.out.below t);clear t;go_wp2
  go_ret;exact⟨Z,p.out.bel⟩
 have C:=Qb (Qlm (Ya S.out l.out.bel) q);have L:=Qb q;clear q;go_wp2_with fail
 refine C.out.mono ?_;rintro e3 D ⟨rfl,t⟩;have p:=Qb (l.out.below t);clear t l C j;have j:D.cell? ⟨X,0,none⟩=some (.slice pm m.length cm):=p.out.cell (a:=[]) 0 _ Z;by_cases s:200<inp.length\/g<0\/20000<g\/h<0\/64<h
 ·rw[QfR s] at z
  clear s;go_wp2_with fail
  refine(z.out D).mono ?_
  rintro e4 H ⟨rfl,r⟩;have i:=Qb (p.out.below r);clear r;have y:=Qn3;simp only[Qa8]
  go_wp2
  go_ret;exact⟨Z,i.out.bel⟩
 rw[Qfq s] at z
 have x:=Qb s;clear s;go_wp2_with fail
 refine(z.out D).mono ?_
 rintro e4 H ⟨rfl,r⟩;have i:=Qb (p.out.below r);clear r p j;have j:H.cell? ⟨X,0,none⟩=some (.slice pm m.length cm):=i.out.cell (a:=[]) 0 _ Z;have y:=Qn3;simp only[Qa8]
 have K:=Qb (F.out (fun e=>L.out (.inl e)) H (Ya P.out i.out.bel));by_cases E:c0=0
 ·subst E;obtain⟨fN,rfl⟩:∃ k:Nat,g=(k:Int):=⟨g.toNat,by have:=x.out;omega⟩
  obtain⟨pN,rfl⟩:∃ k:Nat,h=(k:Int):=⟨h.toNat,by have:=x.out;omega⟩
  have A:=Qb (G.out (fun e=>L.out (.inl e)) Z (by have:=x.out;omega) fN pN (by have:=x.out;omega) (by have:=x.out;omega));go_wp2_with fail
  refine K.out.mono ?_;rintro e5 I ⟨rfl,v⟩;have o:=Qb (i.out.below v);have A:=Qb (A.out I (Ya P.out o.out.bel) (Ya W.out o.out.bel));clear v j K i;have j:I.cell? ⟨X,0,none⟩=some (.slice pm m.length cm):=o.out.cell (a:=[]) 0 _ Z;simp only[Qa8]
  go_wp2_with fail
  refine A.out.mono ?_;rintro e6 w6 T;obtain⟨M,f,a,n,c,b,k,d,fz,rfl⟩:=T
  have V:=Qb (o.out.below M);clear M A j;go_wp2
  go_ret;exact⟨Z,((V.out.new _ _).new _ _).bel⟩
 ·have d0:(c0 != 0)=true:=bne_iff_ne.2 E;clear E;go_wp2_with fail
  refine K.out.mono ?_;rintro e5 I ⟨rfl,v⟩;have o:=Qb (i.out.below v);clear v;simp only[Qa8]
  go_wp2
  go_ret;exact⟨Z,o.out.bel⟩
theorem Qje {m:List (MFunc n)}{t l:Int}(k:(QhG n).In w All m [.slice pm m.length cm]) (g:intsL.In w All inp [.slice pi inp.length ci]) (hn:inp.length<1152921504606846976) :
 Calls prog 4 #[.agg #[.slice pm m.length cm],.slice pi inp.length ci,Iv t,Iv l] w fun e w'=>e=.returned (.bool true)/\Below w.heap.size w w':=by
 by_cases d:(modFault m).1=0
 ·have f:m.length=(m.map (MFunc.at 5)).length:=(XN _).symm;have b:(QhG 6).In w All (m.map (MFunc.at 5)) [.slice pm (m.map (MFunc.at 5)).length cm]:=by rw[<-f];exact Qlr (QlM d) k
  rw[f]
  generalize m.map (MFunc.at 5)=i at b |-;exact QfO (c0:=(QX i).1) (a0:=(QX i).2) b g hn (fun a j h=>Qfi h a) (fun a c q v u r o j p s=>(Qi6 ((Qdb 6).2 p) (Qbq a) s (Qcx c).1 q r o).mono fun e w' h=>Qj7 c h)
 ·exact QfO (c0:=(modFault m).1) (a0:=(modFault m).2) k g hn (fun a j h=>QdS ((Qdb n).2 h) (Qbq a) d) (fun a c=>absurd c d)
end Go.Proofs.YtiebmclhgebhpafGreat
